/- The document's answer, layer 15: a world in memory; Bit, In, All, Any, strict, Support. -/
import Derived.Test.YtcobmbclhhimjaaGreatRf1
import Derived.Test.YtcobmbclhhimjaaGreatNvC
namespace Go.Proofs.YtcobmbclhhimjaaGreat.Rf
open Go.RowKit

/-- Where a world's parts lie. -/
structure Wa where
  fa : Option Addr
  fc : Nat
  ra : Option Addr
  rc : Nat
  ba : Option Addr
  bc : Nat
  xa : Option Addr
  xc : Nat
  ha : Option Addr
  hc : Nat
abbrev wdL (A : Wa) (T : Th) (F : List Int) (n : Nat) : List Value := [.int .i64 T.lits, .slice A.fa T.foes.length A.fc, .slice A.ra T.rules.length A.rc, .slice A.ba T.beats.length A.bc, .slice A.xa F.length A.xc, .slice A.ha n A.hc]
structure Wd (K : Nat) (A : Wa) (T : Th) (F : List Int) (n : Nat) (w : World) : Prop where
  pf : Pf T F n
  bx : Fx K 103 (wdL A T F n) w
  ta : TA w.heap.size w T A.fa A.fc A.ra A.rc A.ba A.bc
  fi : Ints w.heap.size w F (.slice A.xa F.length A.xc)
  hl : Lists w.heap.size w (grp T kA n) (.slice A.ha n A.hc)
section
variable {K n : Nat} {A : Wa} {T : Th} {F m : List Int} {ma : Option Addr} {mc : Nat} {w w' : World}
theorem Wd.go (h : Wd K A T F n w) (hb : Below w.heap.size w w') : Wd K A T F n w' :=
  ⟨h.pf, h.bx.keep (hb.block _ h.bx.lt), TR.go hb h.ta, Ints.go hb h.fi, Lists.go hb h.hl⟩
theorem Wd.drewN (h : Wd K A T F n w) (q : Nat) : Wd K A T F n (w.drewN q) := h.go (below_drewN w q)
theorem quiet_below (h : ∃ m, w' = w.drewN m) : Below w.heap.size w w' := by obtain ⟨m, rfl⟩ := h; exact below_drewN w m
theorem quiet_more (h : ∃ m, w' = w.drewN m) : ∀ q, ∃ m, w'.drewN q = w.drewN m := by obtain ⟨m, rfl⟩ := h; exact fun q => ⟨m + q, World.drewN_drewN ..⟩
/-- The rules for a literal. -/
theorem Wd.rules (h : Wd K A T F n w) {q : Nat} (hq : q < n) : ∃ g o a2 d2, A.ha = some ⟨g, o, none⟩ ∧ w.cell? ⟨g, o + q, none⟩ = some (.slice a2 (rulesL T kA q).length d2) ∧ (rulesL T kA q).length ≤ 140737488351232 ∧ At1 w a2 (ints (rulesL T kA q)) := by
  obtain ⟨g, o, a2, d2, e, _, kc, _, hl, hI⟩ := at_L h.hl (grp_at (T := T) (p := kA) hq)
  exact ⟨g, o, a2, d2, e, kc, hl, hI.at1⟩
theorem Wd.foes (h : Wd K A T F n w) {q : Nat} (hq : q < n) : ∃ g o a2 d2, A.fa = some ⟨g, o, none⟩ ∧ w.cell? ⟨g, o + q, none⟩ = some (.slice a2 (row T.foes q).length d2) ∧ (row T.foes q).length ≤ 140737488351232 ∧ At1 w a2 (ints (row T.foes q)) ∧ q < T.foes.length := by
  have hfl := h.pf.ok.fl
  have hln := h.pf.ln
  obtain ⟨l, hl⟩ := get_at (l := T.foes) (i := q) (by omega)
  obtain ⟨g, o, a2, d2, e, _, kc, _, hll, hI⟩ := at_L h.ta.foes hl
  have hr : row T.foes (q : Int) = l := row_at (by simpa using hl)
  rw [hr]
  exact ⟨g, o, a2, d2, e, kc, hll, hI.at1, by omega⟩
theorem Wd.beats (h : Wd K A T F n w) {s : Nat} (hs : s < T.rules.length) : ∃ g o a2 d2, A.ba = some ⟨g, o, none⟩ ∧ w.cell? ⟨g, o + s, none⟩ = some (.slice a2 (row T.beats s).length d2) ∧ (row T.beats s).length ≤ 140737488351232 ∧ At1 w a2 (ints (row T.beats s)) ∧ s < T.beats.length := by
  have hbl := h.pf.ok.bl
  obtain ⟨l, hl⟩ := get_at (l := T.beats) (i := s) (by omega)
  obtain ⟨g, o, a2, d2, e, _, kc, _, hll, hI⟩ := at_L h.ta.beats hl
  have hr : row T.beats (s : Int) = l := row_at (by simpa using hl)
  rw [hr]
  exact ⟨g, o, a2, d2, e, kc, hll, hI.at1, by omega⟩
def kindM (T : Th) (r : Int) : Int := ((T.rules[r.toNat]?).map RuleM.kind).getD 0
/-- A rule. -/
theorem Wd.rule (h : Wd K A T F n w) {s : Nat} (hs : s < T.rules.length) : ∃ g o a2 d2, A.ra = some ⟨g, o, none⟩ ∧ w.cell? ⟨g, o + s * 3, none⟩ = some (.int .i64 (kindM T s)) ∧ w.cell? ⟨g, o + s * 3 + 2, none⟩ = some (.slice a2 (bodyM T s).length d2) ∧ (bodyM T s).length ≤ 140737488351232 ∧ At1 w a2 (ints (bodyM T s)) ∧ ∀ x ∈ bodyM T s, 0 ≤ x ∧ x < (n : Int) := by
  obtain ⟨x, hx⟩ := get_at (l := T.rules) (i := s) hs
  obtain ⟨g, o, a2, d2, e, _, k0, _, k2, _, hll, hI⟩ := at_R h.ta.rules hx
  have h1 : kindM T (s : Int) = x.kind := by unfold kindM; rw [Int.toNat_natCast, hx]; rfl
  have h2 : bodyM T (s : Int) = x.body := by unfold bodyM; rw [Int.toNat_natCast, hx]; rfl
  rw [h1, h2]
  exact ⟨g, o, a2, d2, e, k0, k2, hll, hI.at1, h.pf.body x (List.mem_of_getElem? hx)⟩
theorem rules_mem {q r : Int} (h : r ∈ rulesL T kA q) : ∃ s : Nat, r = (s : Int) ∧ s < T.rules.length := by
  obtain ⟨a, x, rfl, hx, _⟩ := mem_rules.1 h
  exact ⟨a, rfl, (List.getElem?_eq_some_iff.1 hx).1⟩
/-- Of a kind. -/
def pAt (T : Th) (p : RuleM → Bool) (r : Int) : Bool := match T.rules[r.toNat]? with | some x => p x | none => false
theorem rules_filter {p : RuleM → Bool} {q : Int} : rulesL T p q = (rulesL T kA q).filter (pAt T p) := by
  unfold rulesL forL
  rw [List.filter_map, List.filter_filter]
  congr 1
  apply List.filter_congr
  intro a _
  unfold isFor pAt kA
  simp only [Function.comp, Int.ofNat_eq_natCast, Int.toNat_natCast]
  cases T.rules[a]? with
  | none => rfl
  | some x => simp
theorem any_rules {p : RuleM → Bool} {q : Int} {P : Int → Bool} : (rulesL T p q).any P = (rulesL T kA q).any fun r => pAt T p r && P r := by
  rw [rules_filter, List.any_filter]
theorem all_rules {p : RuleM → Bool} {q : Int} {P : Int → Bool} : (rulesL T p q).all P = (rulesL T kA q).all fun r => !pAt T p r || P r := by
  rw [rules_filter, List.all_filter]
theorem pAt_kS {s : Nat} (hs : s < T.rules.length) : pAt T kS s = decide (kindM T s = 1) := by
  obtain ⟨x, hx⟩ := get_at (l := T.rules) (i := s) hs
  unfold pAt kindM kS
  rw [Int.toNat_natCast, hx]; rfl
theorem pAt_kT {s : Nat} (hs : s < T.rules.length) : pAt T kT s = !decide (kindM T s = 3) := by
  obtain ⟨x, hx⟩ := get_at (l := T.rules) (i := s) hs
  unfold pAt kindM kT
  rw [Int.toNat_natCast, hx]; rfl

set_option maxRecDepth 100000 in
set_option maxHeartbeats 3200000 in
theorem rbit_any {t : Int} (ht : isTag t) : Calls Tryz.prog 45 #[.int .i64 t] w fun e w' => e = .returned (.int .u8 (bitM t)) ∧ w' = w := by
  rcases ht with rfl | rfl | rfl | rfl
  all_goals
    go_enter Tryz.func45, Tryz.ntmps45
    go_wp2_with fail
    go_ret
    exact ⟨rfl, rfl⟩

set_option maxRecDepth 100000 in
set_option maxHeartbeats 6400000 in
theorem in15_any {a : Option Addr} {l : List Int} {c : Nat} (h : At1 w a (ints l)) (hl : l.length ≤ 140737488351232) (t : Int) :
    Calls Tryz.prog 81 #[.slice a l.length c, .int .i64 t] w fun e w' => e = .returned (.bool (decide (t ∈ l))) ∧ w' = w := by
  have HA := hide h
  clear h
  go_enter Tryz.func81, Tryz.ntmps81
  go_wp2_with fail
  go_loop [5] (fun x => ∃ k : Nat, k ≤ l.length ∧ x = .int .i64 k ∧ Hid (t ∉ l.take k)) (fun x => l.length - (intOf x).toNat)
  case atStart => exact ⟨0, by omega, rfl, hide (by simp)⟩
  case round =>
    obtain ⟨k, hk, rfl, HK⟩ := hrel
    by_cases hlt : k < l.length
    · obtain ⟨x, hx⟩ := get_at hlt
      obtain ⟨g, of, rfl, kc⟩ := HA.out.get hx
      by_cases hxt : x = t
      · subst hxt
        have HR : Hid (true = decide (x ∈ l)) := hide (by rw [decide_eq_true (List.mem_of_getElem? hx)])
        clear hx HK
        go_wp2_with fail
        go_ret
        exact ⟨ret_bool HR.out, rfl⟩
      · have HN : Hid (t ∉ l.take (k + 1)) := hide (not_take hx HK.out hxt)
        have hbb : (x == t) = false := beq_eq_false_iff_ne.2 hxt
        clear hx HK hxt
        go_wp2_with fail
        go_round
        case rel => exact ⟨k + 1, by omega, by go_num, HN⟩
        case measure => simp [intOf]; omega
    · have HR : Hid (false = decide (t ∈ l)) := hide (by have := HK.out; rw [List.take_of_length_le (by omega)] at this; rw [decide_eq_false this])
      clear HK
      go_wp2_with fail
      go_ret
      exact ⟨ret_bool HR.out, rfl⟩

theorem any_step {p : Int → Bool} {l : List Int} {k : Nat} {x : Int} (hx : l[k]? = some x) : (l.drop k).any p = (p x || (l.drop (k + 1)).any p) := by rw [drop_at hx]; rfl
theorem hs_no {x : Int} {t : Int} (h : hs m x t = false) : (bits .and .u8 (m.getD x.toNat 0) (bitM t) == 0) = true := by
  unfold hs hb at h
  simpa using h
theorem hs_yes {x : Int} {t : Int} (h : hs m x t = true) : (bits .and .u8 (m.getD x.toNat 0) (bitM t) == 0) = false := by
  unfold hs hb at h
  simpa using h
theorem hs_no2 {x : Int} {t : Int} (h : hs m x t = false) : (bits .and .u8 (m.getD x.toNat 0) (bitM t) != 0) = false := h
theorem hs_yes2 {x : Int} {t : Int} (h : hs m x t = true) : (bits .and .u8 (m.getD x.toNat 0) (bitM t) != 0) = true := h
set_option maxRecDepth 100000 in
set_option maxHeartbeats 6400000 in
theorem rall_any {a : Option Addr} {l : List Int} {c : Nat} {t : Int} (hm : At1 w ma (u8s m)) (hml : m.length = n) (h : At1 w a (ints l)) (hl : l.length ≤ 140737488351232) (hin : ∀ x ∈ l, 0 ≤ x ∧ x < (n : Int)) (ht : isTag t) :
    Calls Tryz.prog 83 #[.slice ma n mc, .slice a l.length c, .int .i64 t] w fun e w' => e = .returned (.bool (l.all fun x => hs m x t)) ∧ ∃ d, w' = w.drewN d := by
  have HM := hide hm
  have HML := hide hml
  have HA := hide h
  have HIn := hide hin
  have CB := hide fun W : World => rbit_any (w := W) ht
  obtain ⟨o, ho⟩ : ∃ o, (l.all fun x => hs m x t) = o := ⟨_, rfl⟩
  rw [ho]
  have HO : Hid ((l.drop 0).all (fun x => hs m x t) = o) := hide (by rw [List.drop_zero]; exact ho)
  clear hm hml h hin ho
  have HT := hide ht
  clear ht
  go_enter Tryz.func83, Tryz.ntmps83
  go_wp2_with fail
  go_loopw [7] (fun x wr => ∃ k : Nat, k ≤ l.length ∧ x = .int .i64 k ∧ Hid (∃ d, wr = w.drewN d) ∧ Hid ((l.drop k).all (fun x => hs m x t) = o)) (fun x _ => l.length - (intOf x).toNat)
  case atStart => exact ⟨0, by omega, rfl, hide ⟨0, rfl⟩, HO⟩
  case round =>
    clear HO
    obtain ⟨k, hk, rfl, HD, HK⟩ := hrel
    have HA2 := hide (HA.out.below (quiet_below HD.out))
    have HM2 := hide (HM.out.below (quiet_below HD.out))
    have HD2 := hide (quiet_more HD.out)
    clear HA HM
    by_cases hlt : k < l.length
    · obtain ⟨x, hx⟩ := get_at hlt
      obtain ⟨g, of, rfl, kc⟩ := HA2.out.get hx
      obtain ⟨x0, x1⟩ := HIn.out x (List.mem_of_getElem? hx)
      obtain ⟨q, rfl⟩ := Int.eq_ofNat_of_zero_le x0
      have hqn : q < n := by omega
      obtain ⟨g2, o2, rfl, cm⟩ := HM2.out q _ (u8s_at (by rw [HML.out]; exact hqn))
      have HS := hide (all_step (p := fun x => hs m x t) hx)
      clear hx x0 x1
      cases hh : hs m (q : Int) t with
      | false =>
        have HN : Hid (false = o) := hide (by rw [← HK.out, HS.out]; simp only [hh]; rfl)
        have hz := hs_no hh
        rw [Int.toNat_natCast] at hz
        generalize m.getD q 0 = z at *
        generalize bitM t = y at *
        clear HK HS hh
        go_wp2_with fail
        go_quiet ((go_at_call 45; exact Calls.quiet_of_same (CB.out _)))
        go_wp2_with fail
        go_ret
        exact ⟨ret_bool HN.out, HD2.out _⟩
      | true =>
        have HN : Hid ((l.drop (k + 1)).all (fun x => hs m x t) = o) := hide (by rw [← HK.out, HS.out]; simp only [hh, Bool.true_and])
        have hz := hs_yes hh
        rw [Int.toNat_natCast] at hz
        generalize m.getD q 0 = z at *
        generalize bitM t = y at *
        clear HK HS hh
        go_wp2_with fail
        go_quiet ((go_at_call 45; exact Calls.quiet_of_same (CB.out _)))
        go_wp2_with fail
        go_roundw
        case rel => exact ⟨k + 1, by omega, by go_num, hide (HD2.out _), HN⟩
        case measure => simp [intOf]; omega
    · have HN : Hid (true = o) := hide (by have := HK.out; rw [drop_end (by omega)] at this; exact this)
      go_wp2_with fail
      go_ret
      exact ⟨ret_bool HN.out, HD.out⟩
set_option maxRecDepth 100000 in
set_option maxHeartbeats 6400000 in
theorem rany_any {a : Option Addr} {l : List Int} {c : Nat} {t : Int} (hm : At1 w ma (u8s m)) (hml : m.length = n) (h : At1 w a (ints l)) (hl : l.length ≤ 140737488351232) (hin : ∀ x ∈ l, 0 ≤ x ∧ x < (n : Int)) (ht : isTag t) :
    Calls Tryz.prog 84 #[.slice ma n mc, .slice a l.length c, .int .i64 t] w fun e w' => e = .returned (.bool (l.any fun x => hs m x t)) ∧ ∃ d, w' = w.drewN d := by
  have HM := hide hm
  have HML := hide hml
  have HA := hide h
  have HIn := hide hin
  have CB := hide fun W : World => rbit_any (w := W) ht
  obtain ⟨o, ho⟩ : ∃ o, (l.any fun x => hs m x t) = o := ⟨_, rfl⟩
  rw [ho]
  have HO : Hid ((l.drop 0).any (fun x => hs m x t) = o) := hide (by rw [List.drop_zero]; exact ho)
  clear hm hml h hin ho
  have HT := hide ht
  clear ht
  go_enter Tryz.func84, Tryz.ntmps84
  go_wp2_with fail
  go_loopw [7] (fun x wr => ∃ k : Nat, k ≤ l.length ∧ x = .int .i64 k ∧ Hid (∃ d, wr = w.drewN d) ∧ Hid ((l.drop k).any (fun x => hs m x t) = o)) (fun x _ => l.length - (intOf x).toNat)
  case atStart => exact ⟨0, by omega, rfl, hide ⟨0, rfl⟩, HO⟩
  case round =>
    clear HO
    obtain ⟨k, hk, rfl, HD, HK⟩ := hrel
    have HA2 := hide (HA.out.below (quiet_below HD.out))
    have HM2 := hide (HM.out.below (quiet_below HD.out))
    have HD2 := hide (quiet_more HD.out)
    clear HA HM
    by_cases hlt : k < l.length
    · obtain ⟨x, hx⟩ := get_at hlt
      obtain ⟨g, of, rfl, kc⟩ := HA2.out.get hx
      obtain ⟨x0, x1⟩ := HIn.out x (List.mem_of_getElem? hx)
      obtain ⟨q, rfl⟩ := Int.eq_ofNat_of_zero_le x0
      have hqn : q < n := by omega
      obtain ⟨g2, o2, rfl, cm⟩ := HM2.out q _ (u8s_at (by rw [HML.out]; exact hqn))
      have HS := hide (any_step (p := fun x => hs m x t) hx)
      clear hx x0 x1
      cases hh : hs m (q : Int) t with
      | true =>
        have HN : Hid (true = o) := hide (by rw [← HK.out, HS.out]; simp only [hh]; rfl)
        have hz := hs_yes2 hh
        rw [Int.toNat_natCast] at hz
        generalize m.getD q 0 = z at *
        generalize bitM t = y at *
        clear HK HS hh
        go_wp2_with fail
        go_quiet ((go_at_call 45; exact Calls.quiet_of_same (CB.out _)))
        go_wp2_with fail
        go_ret
        exact ⟨ret_bool HN.out, HD2.out _⟩
      | false =>
        have HN : Hid ((l.drop (k + 1)).any (fun x => hs m x t) = o) := hide (by rw [← HK.out, HS.out]; simp only [hh, Bool.false_or])
        have hz := hs_no2 hh
        rw [Int.toNat_natCast] at hz
        generalize m.getD q 0 = z at *
        generalize bitM t = y at *
        clear HK HS hh
        go_wp2_with fail
        go_quiet ((go_at_call 45; exact Calls.quiet_of_same (CB.out _)))
        go_wp2_with fail
        go_roundw
        case rel => exact ⟨k + 1, by omega, by go_num, hide (HD2.out _), HN⟩
        case measure => simp [intOf]; omega
    · have HN : Hid (false = o) := hide (by have := HK.out; rw [drop_end (by omega)] at this; exact this)
      go_wp2_with fail
      go_ret
      exact ⟨ret_bool HN.out, HD.out⟩
set_option maxRecDepth 100000 in
set_option maxHeartbeats 3200000 in
theorem strict_any (h : Wd K A T F n w) {s : Nat} (hs : s < T.rules.length) :
    Calls Tryz.prog 82 #[ptr K, .int .i64 s] w fun e w' => e = .returned (.bool (pAt T kS s)) ∧ w' = w := by
  obtain ⟨g, o, a2, d2, e, k0, k2, -, -, -⟩ := h.rule hs
  have c2 := h.bx.get (i := 2) rfl
  rw [e] at c2
  have hrl := h.ta.rules.lim
  have HO := hide (pAt_kS hs)
  generalize pAt T kS s = o at *
  have HO2 : Hid ((kindM T s == 1) = o) := hide (by rw [HO.out]; rfl)
  generalize kindM T s = z at *
  clear h HO e
  go_enter Tryz.func82, Tryz.ntmps82
  go_wp2_with fail
  go_ret
  exact ⟨ret_bool HO2.out, rfl⟩
set_option maxRecDepth 100000 in
set_option maxHeartbeats 3200000 in
theorem support_any (h : Wd K A T F n w) {s : Nat} (hs : s < T.rules.length) :
    Calls Tryz.prog 85 #[ptr K, .int .i64 s] w fun e w' => e = .returned (.bool (pAt T kT s)) ∧ w' = w := by
  obtain ⟨g, o, a2, d2, e, k0, k2, -, -, -⟩ := h.rule hs
  have c2 := h.bx.get (i := 2) rfl
  rw [e] at c2
  have hrl := h.ta.rules.lim
  have HO := hide (pAt_kT hs)
  generalize pAt T kT s = o at *
  have HO2 : Hid ((kindM T s != 3) = o) := hide (by rw [HO.out]; rfl)
  generalize kindM T s = z at *
  clear h HO e
  go_enter Tryz.func85, Tryz.ntmps85
  go_wp2_with fail
  go_ret
  exact ⟨ret_bool HO2.out, rfl⟩
end
end Go.Proofs.YtcobmbclhhimjaaGreat.Rf
/- The document's answer, layer 15: plusD, minusD, beaten, stands (written by tools/gen17/rg2.py). -/
namespace Go.Proofs.YtcobmbclhhimjaaGreat.Rf
open Go.RowKit
section
variable {K n : Nat} {A : Wa} {T : Th} {F m : List Int} {ma : Option Addr} {mc : Nat} {w w' : World}
theorem below_q {w1 : World} (h : ∃ d, w' = w.drewN d) (h1 : ∃ d, w1 = w.drewN d) : Below w'.heap.size w' w1 := by
  obtain ⟨d, rfl⟩ := h
  obtain ⟨e, rfl⟩ := h1
  exact ⟨rfl, rfl, rfl, Nat.le_refl _, fun _ _ => rfl⟩
theorem cases4 {p : Int → Bool} {l : List Int} {k : Nat} {x : Int} {o : Bool} (hx : l[k]? = some x) (h : (l.drop k).any p = o) : (p x = true → true = o) ∧ (p x = false → (l.drop (k + 1)).any p = o) := by
  rw [any_step hx] at h
  exact ⟨fun e => by rw [e] at h; exact h, fun e => by rw [e] at h; exact h⟩
theorem cases5 {p : Int → Bool} {l : List Int} {k : Nat} {x : Int} {o : Bool} (hx : l[k]? = some x) (h : (l.drop k).all p = o) : (p x = false → false = o) ∧ (p x = true → (l.drop (k + 1)).all p = o) := by
  rw [all_step hx] at h
  exact ⟨fun e => by rw [e] at h; exact h, fun e => by rw [e] at h; exact h⟩
set_option maxRecDepth 100000 in
set_option maxHeartbeats 12800000 in
theorem plusD_any (h : Wd K A T F n w) (hm : At1 w ma (u8s m)) (hml : m.length = n) {q : Nat} (hq : q < n) :
    Calls Tryz.prog 55 #[ptr K, .slice ma n mc, .int .i64 q] w fun e w' => e = .returned (.bool (plusS T F m q)) ∧ ∃ d, w' = w.drewN d := by
  have HH := hide h
  have HM := hide hm
  have HML := hide hml
  have k4 := h.bx.get (i := 4) rfl
  have hfl := h.fi.lim
  have CI := hide (in15_any (c := A.xc) h.fi.at1 h.fi.lim (q : Int))
  have hn4 := h.pf.n4
  obtain ⟨o, ho⟩ : ∃ o, plusS T F m (q : Int) = o := ⟨_, rfl⟩
  rw [ho]
  unfold plusS at ho
  rw [any_rules] at ho
  have HZ := hide ho
  clear h hm hml ho
  go_enter Tryz.func55, Tryz.ntmps55
  by_cases hF : (q : Int) ∈ F
  · have HN : Hid (true = o) := hide (by rw [← HZ.out, decide_eq_true hF]; rfl)
    rw [decide_eq_true hF] at CI
    clear HZ hF
    go_wp2_with (go_at_call 81; refine CI.out.mono ?_; rintro _ w1 ⟨rfl, hw⟩; subst w1)
    go_ret
    exact ⟨ret_bool HN.out, 0, rfl⟩
  rw [decide_eq_false hF] at CI
  have HO : Hid (((rulesL T kA (q : Int)).drop 0).any (fun r => pAt T kS r && wholeB T m r 1) = o) := hide (by rw [List.drop_zero, ← HZ.out, decide_eq_false hF]; rfl)
  have HD0 : Hid (∃ d, w = w.drewN d) := hide ⟨0, rfl⟩
  clear HZ hF
  go_wp2_with (go_at_call 81; refine CI.out.mono ?_; rintro _ w1 ⟨rfl, hw⟩; subst w1)
  clear CI k4
  go_loopw [7] (fun x wr => ∃ k : Nat, k ≤ (rulesL T kA (q : Int)).length ∧ x = .int .i64 k ∧ Hid (∃ d, wr = w.drewN d) ∧ Hid (((rulesL T kA (q : Int)).drop k).any (fun r => pAt T kS r && wholeB T m r 1) = o)) (fun x _ => (rulesL T kA (q : Int)).length - (intOf x).toNat)
  case atStart => exact ⟨0, by omega, rfl, HD0, HO⟩
  case round =>
    clear HO HD0
    obtain ⟨k, hk, rfl, HD, HK⟩ := hrel
    have HD2 := hide (quiet_more HD.out)
    have HW := hide (HH.out.go (quiet_below HD.out))
    have k5 := HW.out.bx.get (i := 5) rfl
    obtain ⟨g, of, a2, d2, e, kc, hll, hI⟩ := HW.out.rules hq
    rw [e] at k5
    by_cases hlt : k < (rulesL T kA (q : Int)).length
    · obtain ⟨x, hx⟩ := get_at hlt
      obtain ⟨g3, o3, rfl, kx⟩ := hI.get hx
      obtain ⟨s, rfl, hsr⟩ := rules_mem (List.mem_of_getElem? hx)
      have CS := hide (strict_any HW.out hsr)
      obtain ⟨gr, ofr, a3, d3, er, -, kb, hbl, hB, hBin⟩ := HW.out.rule hsr
      have k2 := HW.out.bx.get (i := 2) rfl
      rw [er] at k2
      have hrl := HW.out.ta.rules.lim
      have CA := hide (rall_any (mc := mc) (c := d3) (HM.out.below (quiet_below HD.out)) HML.out hB hbl hBin (t := 1) (.inl rfl))
      have HC := hide (cases4 hx HK.out)
      clear hx HK hI hB hBin
      rw [show ((bodyM T s).all fun x => hs m x 1) = wholeB T m s 1 from rfl] at CA
      cases h1 : pAt T kS s with
      | false =>
        rw [h1] at CS
        clear CA
        have HN := hide (HC.out.2 (by simp only [h1]; rfl))
        clear HC
        go_wp2_with ((go_at_call 82; refine CS.out.mono ?_; rintro _ w1 ⟨rfl, hw⟩; subst w1))
        go_roundw
        case rel => exact ⟨k + 1, by omega, by go_num, HD, HN⟩
        case measure => simp [intOf]; omega
      | true =>
        rw [h1] at CS
        cases h2 : wholeB T m s 1 with
        | false =>
          rw [h2] at CA
          have HN := hide (HC.out.2 (by simp only [h1, h2]; rfl))
          clear HC
          go_wp2_with (first | (go_at_call 82; refine CS.out.mono ?_; rintro _ w1 ⟨rfl, hw⟩; subst w1) | (go_at_call 83; refine CA.out.mono ?_; rintro _ w1 ⟨rfl, hd⟩; have HD3 : Hid (∃ d, w1 = w.drewN d) := hide (by obtain ⟨d, rfl⟩ := hd; exact HD2.out d); clear hd))
          go_roundw
          case rel => exact ⟨k + 1, by omega, by go_num, HD3, HN⟩
          case measure => simp [intOf]; omega
        | true =>
          rw [h2] at CA
          have HN := hide (HC.out.1 (by simp only [h1, h2]; rfl))
          clear HC
          go_wp2_with (first | (go_at_call 82; refine CS.out.mono ?_; rintro _ w1 ⟨rfl, hw⟩; subst w1) | (go_at_call 83; refine CA.out.mono ?_; rintro _ w1 ⟨rfl, hd⟩; have HD3 : Hid (∃ d, w1 = w.drewN d) := hide (by obtain ⟨d, rfl⟩ := hd; exact HD2.out d); clear hd))
          go_ret
          exact ⟨ret_bool HN.out, HD3.out⟩
    · have HN : Hid (false = o) := hide (by have := HK.out; rw [drop_end (by omega)] at this; exact this)
      clear HK hI
      go_wp2_with fail
      go_ret
      exact ⟨ret_bool HN.out, HD.out⟩
set_option maxRecDepth 100000 in
set_option maxHeartbeats 12800000 in
theorem minusD_any (h : Wd K A T F n w) (hm : At1 w ma (u8s m)) (hml : m.length = n) {q : Nat} (hq : q < n) :
    Calls Tryz.prog 56 #[ptr K, .slice ma n mc, .int .i64 q] w fun e w' => e = .returned (.bool (minusS T F m q)) ∧ ∃ d, w' = w.drewN d := by
  have HH := hide h
  have HM := hide hm
  have HML := hide hml
  have k4 := h.bx.get (i := 4) rfl
  have hfl := h.fi.lim
  have CI := hide (in15_any (c := A.xc) h.fi.at1 h.fi.lim (q : Int))
  have hn4 := h.pf.n4
  obtain ⟨o, ho⟩ : ∃ o, minusS T F m (q : Int) = o := ⟨_, rfl⟩
  rw [ho]
  unfold minusS at ho
  rw [all_rules] at ho
  have HZ := hide ho
  clear h hm hml ho
  go_enter Tryz.func56, Tryz.ntmps56
  by_cases hF : (q : Int) ∈ F
  · have HN : Hid (false = o) := hide (by rw [← HZ.out, decide_eq_true hF]; rfl)
    rw [decide_eq_true hF] at CI
    clear HZ hF
    go_wp2_with (go_at_call 81; refine CI.out.mono ?_; rintro _ w1 ⟨rfl, hw⟩; subst w1)
    go_ret
    exact ⟨ret_bool HN.out, 0, rfl⟩
  rw [decide_eq_false hF] at CI
  have HO : Hid (((rulesL T kA (q : Int)).drop 0).all (fun r => !pAt T kS r || partB T m r 2) = o) := hide (by rw [List.drop_zero, ← HZ.out, decide_eq_false hF]; rfl)
  have HD0 : Hid (∃ d, w = w.drewN d) := hide ⟨0, rfl⟩
  clear HZ hF
  go_wp2_with (go_at_call 81; refine CI.out.mono ?_; rintro _ w1 ⟨rfl, hw⟩; subst w1)
  clear CI k4
  go_loopw [7] (fun x wr => ∃ k : Nat, k ≤ (rulesL T kA (q : Int)).length ∧ x = .int .i64 k ∧ Hid (∃ d, wr = w.drewN d) ∧ Hid (((rulesL T kA (q : Int)).drop k).all (fun r => !pAt T kS r || partB T m r 2) = o)) (fun x _ => (rulesL T kA (q : Int)).length - (intOf x).toNat)
  case atStart => exact ⟨0, by omega, rfl, HD0, HO⟩
  case round =>
    clear HO HD0
    obtain ⟨k, hk, rfl, HD, HK⟩ := hrel
    have HD2 := hide (quiet_more HD.out)
    have HW := hide (HH.out.go (quiet_below HD.out))
    have k5 := HW.out.bx.get (i := 5) rfl
    obtain ⟨g, of, a2, d2, e, kc, hll, hI⟩ := HW.out.rules hq
    rw [e] at k5
    by_cases hlt : k < (rulesL T kA (q : Int)).length
    · obtain ⟨x, hx⟩ := get_at hlt
      obtain ⟨g3, o3, rfl, kx⟩ := hI.get hx
      obtain ⟨s, rfl, hsr⟩ := rules_mem (List.mem_of_getElem? hx)
      have CS := hide (strict_any HW.out hsr)
      obtain ⟨gr, ofr, a3, d3, er, -, kb, hbl, hB, hBin⟩ := HW.out.rule hsr
      have k2 := HW.out.bx.get (i := 2) rfl
      rw [er] at k2
      have hrl := HW.out.ta.rules.lim
      have CA := hide (rany_any (mc := mc) (c := d3) (HM.out.below (quiet_below HD.out)) HML.out hB hbl hBin (t := 2) (.inr (.inl rfl)))
      have HC := hide (cases5 hx HK.out)
      clear hx HK hI hB hBin
      rw [show ((bodyM T s).any fun x => hs m x 2) = partB T m s 2 from rfl] at CA
      cases h1 : pAt T kS s with
      | false =>
        rw [h1] at CS
        clear CA
        have HN := hide (HC.out.2 (by simp only [h1]; rfl))
        clear HC
        go_wp2_with ((go_at_call 82; refine CS.out.mono ?_; rintro _ w1 ⟨rfl, hw⟩; subst w1))
        go_roundw
        case rel => exact ⟨k + 1, by omega, by go_num, HD, HN⟩
        case measure => simp [intOf]; omega
      | true =>
        rw [h1] at CS
        cases h2 : partB T m s 2 with
        | false =>
          rw [h2] at CA
          have HN := hide (HC.out.1 (by simp only [h1, h2]; rfl))
          clear HC
          go_wp2_with (first | (go_at_call 82; refine CS.out.mono ?_; rintro _ w1 ⟨rfl, hw⟩; subst w1) | (go_at_call 84; refine CA.out.mono ?_; rintro _ w1 ⟨rfl, hd⟩; have HD3 : Hid (∃ d, w1 = w.drewN d) := hide (by obtain ⟨d, rfl⟩ := hd; exact HD2.out d); clear hd))
          go_ret
          exact ⟨ret_bool HN.out, HD3.out⟩
        | true =>
          rw [h2] at CA
          have HN := hide (HC.out.2 (by simp only [h1, h2]; rfl))
          clear HC
          go_wp2_with (first | (go_at_call 82; refine CS.out.mono ?_; rintro _ w1 ⟨rfl, hw⟩; subst w1) | (go_at_call 84; refine CA.out.mono ?_; rintro _ w1 ⟨rfl, hd⟩; have HD3 : Hid (∃ d, w1 = w.drewN d) := hide (by obtain ⟨d, rfl⟩ := hd; exact HD2.out d); clear hd))
          go_roundw
          case rel => exact ⟨k + 1, by omega, by go_num, HD3, HN⟩
          case measure => simp [intOf]; omega
    · have HN : Hid (true = o) := hide (by have := HK.out; rw [drop_end (by omega)] at this; exact this)
      clear HK hI
      go_wp2_with fail
      go_ret
      exact ⟨ret_bool HN.out, HD.out⟩
set_option maxRecDepth 100000 in
set_option maxHeartbeats 12800000 in
theorem beaten_any (h : Wd K A T F n w) (hm : At1 w ma (u8s m)) (hml : m.length = n) {q : Nat} (hq : q < n) {z : Nat} :
    Calls Tryz.prog 86 #[ptr K, .slice ma n mc, .int .i64 q, .int .i64 z] w fun e w' => e = .returned (.bool ((rulesL T kT q).any fun t => beatB T t z && wholeB T m t 3)) ∧ ∃ d, w' = w.drewN d := by
  have HH := hide h
  have HM := hide hm
  have HML := hide hml
  have hn4 := h.pf.n4
  obtain ⟨o, ho⟩ : ∃ o, ((rulesL T kT (q : Int)).any fun t => beatB T t z && wholeB T m t 3) = o := ⟨_, rfl⟩
  rw [ho]
  rw [any_rules] at ho
  have HO : Hid (((rulesL T kA (q : Int)).drop 0).any (fun r => pAt T kT r && (wholeB T m r 3 && beatB T r z)) = o) := hide (by rw [List.drop_zero, ← ho]; congr 1; funext r; rw [Bool.and_comm (wholeB T m r 3)])
  have HD0 : Hid (∃ d, w = w.drewN d) := hide ⟨0, rfl⟩
  clear h hm hml ho
  go_enter Tryz.func86, Tryz.ntmps86
  go_wp2_with fail
  go_loopw [9] (fun x wr => ∃ k : Nat, k ≤ (rulesL T kA (q : Int)).length ∧ x = .int .i64 k ∧ Hid (∃ d, wr = w.drewN d) ∧ Hid (((rulesL T kA (q : Int)).drop k).any (fun r => pAt T kT r && (wholeB T m r 3 && beatB T r z)) = o)) (fun x _ => (rulesL T kA (q : Int)).length - (intOf x).toNat)
  case atStart => exact ⟨0, by omega, rfl, HD0, HO⟩
  case round =>
    clear HO HD0
    obtain ⟨k, hk, rfl, HD, HK⟩ := hrel
    have HD2 := hide (quiet_more HD.out)
    have HW := hide (HH.out.go (quiet_below HD.out))
    have k5 := HW.out.bx.get (i := 5) rfl
    obtain ⟨g, of, a2, d2, e, kc, hll, hI⟩ := HW.out.rules hq
    rw [e] at k5
    by_cases hlt : k < (rulesL T kA (q : Int)).length
    · obtain ⟨x, hx⟩ := get_at hlt
      obtain ⟨g3, o3, rfl, kx⟩ := hI.get hx
      obtain ⟨s, rfl, hsr⟩ := rules_mem (List.mem_of_getElem? hx)
      have CS := hide (support_any HW.out hsr)
      obtain ⟨gr, ofr, a3, d3, er, -, kb, hbl, hB, hBin⟩ := HW.out.rule hsr
      have k2 := HW.out.bx.get (i := 2) rfl
      rw [er] at k2
      have hrl := HW.out.ta.rules.lim
      have CA := hide (rall_any (mc := mc) (c := d3) (HM.out.below (quiet_below HD.out)) HML.out hB hbl hBin (t := 3) (.inr (.inr (.inl rfl))))
      obtain ⟨gb, ofb, a4, d4, eb, kt, htl, hT, hsb⟩ := HW.out.beats hsr
      have k3 := HW.out.bx.get (i := 3) rfl
      rw [eb] at k3
      have hbl2 := HW.out.ta.beats.lim
      have CI := hide fun (w1 : World) (hd : ∃ d, w1 = w.drewN d) => in15_any (w := w1) (c := d4) (hT.below (below_q HD.out hd)) htl (z : Int)
      have HC := hide (cases4 hx HK.out)
      clear hx HK hI hB hBin hT
      rw [show ((bodyM T s).all fun x => hs m x 3) = wholeB T m s 3 from rfl] at CA
      cases h1 : pAt T kT s with
      | false =>
        rw [h1] at CS
        clear CA CI
        have HN := hide (HC.out.2 (by simp only [h1]; rfl))
        clear HC
        go_wp2_with ((go_at_call 85; refine CS.out.mono ?_; rintro _ w1 ⟨rfl, hw⟩; subst w1))
        go_roundw
        case rel => exact ⟨k + 1, by omega, by go_num, HD, HN⟩
        case measure => simp [intOf]; omega
      | true =>
        rw [h1] at CS
        cases h2 : wholeB T m s 3 with
        | false =>
          rw [h2] at CA
          clear CI
          have HN := hide (HC.out.2 (by simp only [h1, h2]; rfl))
          clear HC
          go_wp2_with (first | (go_at_call 85; refine CS.out.mono ?_; rintro _ w1 ⟨rfl, hw⟩; subst w1) | (go_at_call 83; refine CA.out.mono ?_; rintro _ w1 ⟨rfl, dd, rfl⟩; have HD3 : Hid (∃ d, wr.drewN dd = w.drewN d) := hide (HD2.out dd)))
          go_roundw
          case rel => exact ⟨k + 1, by omega, by go_num, HD3, HN⟩
          case measure => simp [intOf]; omega
        | true =>
          rw [h2] at CA
          by_cases h3 : (z : Int) ∈ row T.beats s
          · rw [decide_eq_true h3] at CI
            have HN := hide (HC.out.1 (by simp only [h1, h2, beatB, decide_eq_true h3]; rfl))
            clear HC
            go_wp2_with (first | (go_at_call 85; refine CS.out.mono ?_; rintro _ w1 ⟨rfl, hw⟩; subst w1) | (go_at_call 83; refine CA.out.mono ?_; rintro _ w1 ⟨rfl, dd, rfl⟩; have HD3 : Hid (∃ d, wr.drewN dd = w.drewN d) := hide (HD2.out dd)) | (go_at_call 81; refine (CI.out _ HD3.out).mono ?_; rintro _ w2 ⟨rfl, hw⟩; subst w2))
            go_ret
            exact ⟨ret_bool HN.out, HD3.out⟩
          · rw [decide_eq_false h3] at CI
            have HN := hide (HC.out.2 (by simp only [h1, h2, beatB, decide_eq_false h3]; rfl))
            clear HC
            go_wp2_with (first | (go_at_call 85; refine CS.out.mono ?_; rintro _ w1 ⟨rfl, hw⟩; subst w1) | (go_at_call 83; refine CA.out.mono ?_; rintro _ w1 ⟨rfl, dd, rfl⟩; have HD3 : Hid (∃ d, wr.drewN dd = w.drewN d) := hide (HD2.out dd)) | (go_at_call 81; refine (CI.out _ HD3.out).mono ?_; rintro _ w2 ⟨rfl, hw⟩; subst w2))
            go_roundw
            case rel => exact ⟨k + 1, by omega, by go_num, HD3, HN⟩
            case measure => simp [intOf]; omega
    · have HN : Hid (false = o) := hide (by have := HK.out; rw [drop_end (by omega)] at this; exact this)
      clear HK hI
      go_wp2_with fail
      go_ret
      exact ⟨ret_bool HN.out, HD.out⟩
set_option maxRecDepth 100000 in
set_option maxHeartbeats 12800000 in
theorem stands_any (h : Wd K A T F n w) (hm : At1 w ma (u8s m)) (hml : m.length = n) {q : Nat} (hq : q < n) {z : Nat} (hz : z < T.rules.length) :
    Calls Tryz.prog 87 #[ptr K, .slice ma n mc, .int .i64 q, .int .i64 z] w fun e w' => e = .returned (.bool (atkM T m q z)) ∧ ∃ d, w' = w.drewN d := by
  have HH := hide h
  have HM := hide hm
  have HML := hide hml
  have hn4 := h.pf.n4
  obtain ⟨o, ho⟩ : ∃ o, atkM T m (q : Int) z = o := ⟨_, rfl⟩
  rw [ho]
  unfold atkM at ho
  rw [all_rules] at ho
  have HZ := hide ho
  obtain ⟨gr, ofr, a3, d3, er, -, kb, hbl, hB, hBin⟩ := h.rule hz
  have k2 := h.bx.get (i := 2) rfl
  rw [er] at k2
  have hrl := h.ta.rules.lim
  have CA := hide (rall_any (mc := mc) (c := d3) hm hml hB hbl hBin (t := 3) (.inr (.inr (.inl rfl))))
  rw [show ((bodyM T z).all fun x => hs m x 3) = wholeB T m z 3 from rfl] at CA
  clear h hm hml ho hB hBin
  go_enter Tryz.func87, Tryz.ntmps87
  cases h1 : wholeB T m z 3 with
  | false =>
    have HN : Hid (false = o) := hide (by rw [← HZ.out, h1]; rfl)
    rw [h1] at CA
    clear HZ h1
    go_wp2_with (go_at_call 83; refine CA.out.mono ?_; rintro _ w1 ⟨rfl, hd⟩; have HD3 := hide hd; clear hd)
    go_ret
    exact ⟨ret_bool HN.out, HD3.out⟩
  | true =>
  have HO : Hid (((rulesL T kA (q : Int)).drop 0).all (fun t => !pAt T kT t || (partB T m t 4 || !beatB T t z)) = o) := hide (by rw [List.drop_zero, ← HZ.out, h1]; rfl)
  rw [h1] at CA
  clear HZ h1
  go_wp2_with (go_at_call 83; refine CA.out.mono ?_; rintro _ w1 ⟨rfl, hd⟩; have HD0 := hide hd; clear hd)
  clear CA k2 kb er hbl hrl
  go_loopw [9] (fun x wr => ∃ k : Nat, k ≤ (rulesL T kA (q : Int)).length ∧ x = .int .i64 k ∧ Hid (∃ d, wr = w.drewN d) ∧ Hid (((rulesL T kA (q : Int)).drop k).all (fun t => !pAt T kT t || (partB T m t 4 || !beatB T t z)) = o)) (fun x _ => (rulesL T kA (q : Int)).length - (intOf x).toNat)
  case atStart => exact ⟨0, by omega, rfl, HD0, HO⟩
  case round =>
    clear HO HD0
    obtain ⟨k, hk, rfl, HD, HK⟩ := hrel
    have HD2 := hide (quiet_more HD.out)
    have HW := hide (HH.out.go (quiet_below HD.out))
    have k5 := HW.out.bx.get (i := 5) rfl
    obtain ⟨g, of, a2, d2, e, kc, hll, hI⟩ := HW.out.rules hq
    rw [e] at k5
    by_cases hlt : k < (rulesL T kA (q : Int)).length
    · obtain ⟨x, hx⟩ := get_at hlt
      obtain ⟨g3, o3, rfl, kx⟩ := hI.get hx
      obtain ⟨s, rfl, hsr⟩ := rules_mem (List.mem_of_getElem? hx)
      have CS := hide (support_any HW.out hsr)
      obtain ⟨gr, ofr, a3, d3, er, -, kb, hbl, hB, hBin⟩ := HW.out.rule hsr
      have k2 := HW.out.bx.get (i := 2) rfl
      rw [er] at k2
      have hrl := HW.out.ta.rules.lim
      have CA := hide (rany_any (mc := mc) (c := d3) (HM.out.below (quiet_below HD.out)) HML.out hB hbl hBin (t := 4) (.inr (.inr (.inr rfl))))
      obtain ⟨gb, ofb, a4, d4, eb, kt, htl, hT, hsb⟩ := HW.out.beats hsr
      have k3 := HW.out.bx.get (i := 3) rfl
      rw [eb] at k3
      have hbl2 := HW.out.ta.beats.lim
      have CI := hide fun (w1 : World) (hd : ∃ d, w1 = w.drewN d) => in15_any (w := w1) (c := d4) (hT.below (below_q HD.out hd)) htl (z : Int)
      have HC := hide (cases5 hx HK.out)
      clear hx HK hI hB hBin hT
      rw [show ((bodyM T s).any fun x => hs m x 4) = partB T m s 4 from rfl] at CA
      cases h1 : pAt T kT s with
      | false =>
        rw [h1] at CS
        clear CA CI
        have HN := hide (HC.out.2 (by simp only [h1]; rfl))
        clear HC
        go_wp2_with ((go_at_call 85; refine CS.out.mono ?_; rintro _ w1 ⟨rfl, hw⟩; subst w1))
        go_roundw
        case rel => exact ⟨k + 1, by omega, by go_num, HD, HN⟩
        case measure => simp [intOf]; omega
      | true =>
        rw [h1] at CS
        cases h2 : partB T m s 4 with
        | false =>
          rw [h2] at CA
          by_cases h3 : (z : Int) ∈ row T.beats s
          · rw [decide_eq_true h3] at CI
            have HN := hide (HC.out.1 (by simp only [h1, h2, beatB, decide_eq_true h3]; rfl))
            clear HC
            go_wp2_with (first | (go_at_call 85; refine CS.out.mono ?_; rintro _ w1 ⟨rfl, hw⟩; subst w1) | (go_at_call 84; refine CA.out.mono ?_; rintro _ w1 ⟨rfl, dd, rfl⟩; have HD3 : Hid (∃ d, wr.drewN dd = w.drewN d) := hide (HD2.out dd)) | (go_at_call 81; refine (CI.out _ HD3.out).mono ?_; rintro _ w2 ⟨rfl, hw⟩; subst w2))
            go_ret
            exact ⟨ret_bool HN.out, HD3.out⟩
          · rw [decide_eq_false h3] at CI
            have HN := hide (HC.out.2 (by simp only [h1, h2, beatB, decide_eq_false h3]; rfl))
            clear HC
            go_wp2_with (first | (go_at_call 85; refine CS.out.mono ?_; rintro _ w1 ⟨rfl, hw⟩; subst w1) | (go_at_call 84; refine CA.out.mono ?_; rintro _ w1 ⟨rfl, dd, rfl⟩; have HD3 : Hid (∃ d, wr.drewN dd = w.drewN d) := hide (HD2.out dd)) | (go_at_call 81; refine (CI.out _ HD3.out).mono ?_; rintro _ w2 ⟨rfl, hw⟩; subst w2))
            go_roundw
            case rel => exact ⟨k + 1, by omega, by go_num, HD3, HN⟩
            case measure => simp [intOf]; omega
        | true =>
          rw [h2] at CA
          clear CI
          have HN := hide (HC.out.2 (by simp only [h1, h2]; rfl))
          clear HC
          go_wp2_with (first | (go_at_call 85; refine CS.out.mono ?_; rintro _ w1 ⟨rfl, hw⟩; subst w1) | (go_at_call 84; refine CA.out.mono ?_; rintro _ w1 ⟨rfl, dd, rfl⟩; have HD3 : Hid (∃ d, wr.drewN dd = w.drewN d) := hide (HD2.out dd)))
          go_roundw
          case rel => exact ⟨k + 1, by omega, by go_num, HD3, HN⟩
          case measure => simp [intOf]; omega
    · have HN : Hid (true = o) := hide (by have := HK.out; rw [drop_end (by omega)] at this; exact this)
      clear HK hI
      go_wp2_with fail
      go_ret
      exact ⟨ret_bool HN.out, HD.out⟩
end
end Go.Proofs.YtcobmbclhhimjaaGreat.Rf
