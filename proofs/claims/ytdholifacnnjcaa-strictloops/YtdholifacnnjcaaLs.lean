/- standing, and the first rule that stands. -/
import Derived.Test.YtdholifacnnjcaaLf
namespace Go.Proofs.Ytdholifacnnjcaa
open Go.RowKit

def standM (sg : List Int) (T : Th) (r : Int) : Bool := !(idxF (fun x => decide (gi sg x = 2)) 0 ((T.rules[r.toNat]?).map RuleM.body |>.getD [])).isSome
section
variable {S sr n Tb Rb N : Nat} {rv : Value} {sg : List Int} {w : World} {T : Th} {fa ra ba : Option Addr} {fc rc bc : Nat}
/-- All that standing is asked with. -/
structure Sn (S sr n Tb Rb N : Nat) (rv : Value) (sg : List Int) (T : Th) (fa : Option Addr) (fc : Nat) (ra : Option Addr) (rc : Nat) (ba : Option Addr) (bc : Nat) (w : World) : Prop where
  sb : Sb S sr n rv sg w
  tb : w.heap[Tb]? = some (.cells #[.int .i64 T.lits, .slice fa T.foes.length fc, .slice ra T.rules.length rc, .slice ba T.beats.length bc] 25 (0, 0))
  rb : Fx Rb 54 [.func (.func 30) #[] #[ptr S]] w
  ru : Rules N w T.rules (.slice ra T.rules.length rc)
  bi : ∀ r ∈ T.rules, ∀ x ∈ r.body, 0 ≤ x ∧ x < (n : Int)
theorem Sn.drewN (h : Sn S sr n Tb Rb N rv sg T fa fc ra rc ba bc w) (q : Nat) : Sn S sr n Tb Rb N rv sg T fa fc ra rc ba bc (w.drewN q) := ⟨h.sb.keep rfl rfl, h.tb, h.rb, Rules.keep (fun _ _ => rfl) h.ru, h.bi⟩
set_option maxRecDepth 100000 in
set_option maxHeartbeats 3200000 in
theorem stand_any {r : Nat} {b : Bool} (h : Sn S sr n Tb Rb N rv sg T fa fc ra rc ba bc w) (hr : r < T.rules.length) (hb : standM sg T r = b) :
    Calls Try.prog 31 #[.int .i64 r, ptr Tb, ptr Rb] w fun e w' => e = .returned (.bool b) ∧ ∃ q, w' = w.drewN q := by
  obtain ⟨R, hR⟩ := get_at hr
  obtain ⟨gr, go, bd, bp, rfl, hgr, -, -, x2, -, hbl, hbody⟩ := at_R h.ru hR
  obtain ⟨c, hc⟩ : ∃ c, (idxF (fun x => decide (gi sg x = 2)) 0 R.body).isSome = c := ⟨_, rfl⟩
  have HB : Hid ((!c) = b) := hide (by rw [← hb, ← hc]; unfold standM; rw [Int.toNat_natCast, hR]; rfl)
  have CH := hide fun q : Nat => refHas_any (w := w.drewN q) (c := bp) (b := c) (h.drewN q).sb (show At1 (w.drewN q) bd (ints R.body) from hbody.at1) hbl (h.bi R (List.mem_of_getElem? hR)) hc
  obtain ⟨-, c0, c1, c2, c3⟩ := Bt.of h.tb
  have r0 := h.rb.get (i := 0) rfl
  clear h hb hc hR hbody
  go_enter Try.func31, Try.ntmps31
  go_upto_region 1 with fail
  go_quiet ((go_at_call 32; exact Calls.quiet_of_same (CH.out _)))
  go_wp2_with fail
  go_ret
  exact ⟨by rw [← HB.out]; rfl, _, rfl⟩
theorem drew_two (w : World) (a b : Nat) : (w.drewN a).drewN b = w.drewN (a + b) := by unfold World.drewN; simp [Nat.add_assoc]
set_option maxRecDepth 100000 in
set_option maxHeartbeats 3200000 in
theorem standIdx_any {l : List Int} {a : Option Addr} {c : Nat} (h : Sn S sr n Tb Rb N rv sg T fa fc ra rc ba bc w) (hl : At1 w a (ints l)) (hlim : l.length ≤ 140737488351232) (hin : ∀ x ∈ l, 0 ≤ x ∧ x < (T.rules.length : Int)) :
    Calls Try.prog 45 #[.slice a l.length c, .func (.func 31) #[] #[ptr Tb, ptr Rb]] w fun e w' => e = .returned (.int .i64 (idxV (idxF (standM sg T) 0 l))) ∧ ∃ q, w' = w.drewN q := by
  have HS := hide h
  have HL := hide hl
  have HIN := hide hin
  obtain ⟨o, ho⟩ : ∃ o, idxF (standM sg T) 0 l = o := ⟨_, rfl⟩
  rw [ho]
  have HO : Hid (idxF (standM sg T) 0 (l.drop 0) = o) := hide (by rw [List.drop_zero]; exact ho)
  clear h hl hin ho
  go_enter Try.func45, Try.ntmps45
  go_wp2_with fail
  go_loopw [8] (fun x wr => ∃ k : Nat, k ≤ l.length ∧ x = .int .i64 k ∧ Hid (idxF (standM sg T) k (l.drop k) = o) ∧ Hid (∃ q, wr = w.drewN q)) (fun x _ => l.length - (intOf x).toNat)
  case atStart => exact ⟨0, by omega, rfl, HO, hide ⟨0, rfl⟩⟩
  case round =>
    clear HO
    obtain ⟨k, hk, rfl, HO, HQ⟩ := hrel
    by_cases hlt : k < l.length
    · obtain ⟨x, hx⟩ := get_at hlt
      obtain ⟨g, gg, rfl, cx⟩ := HL.out.get hx
      have cx2 : wr.cell? ⟨g, gg + k, none⟩ = some (.int .i64 x) := by obtain ⟨q, rfl⟩ := HQ.out; exact cx
      have hx0 := HIN.out x (List.mem_of_getElem? hx)
      obtain ⟨r, rfl⟩ := Int.eq_ofNat_of_zero_le hx0.1
      obtain ⟨b, hb⟩ : ∃ b, standM sg T r = b := ⟨_, rfl⟩
      have CR : Hid (Calls Try.prog 31 #[.int .i64 r, ptr Tb, ptr Rb] wr fun e w' => e = .returned (.bool b) ∧ Hid (∃ q, w' = w.drewN q)) := hide (by
        obtain ⟨q, rfl⟩ := HQ.out
        refine (stand_any (HS.out.drewN q) (by omega) hb).mono ?_
        rintro e w' ⟨h1, q2, rfl⟩
        exact ⟨h1, hide ⟨_, drew_two _ _ _⟩⟩)
      clear cx hx0
      cases b with
      | true =>
        have HE : Hid (o = some k) := hide (by rw [← HO.out]; exact idxF_yes hx hb)
        clear hb hx HO
        go_wp2_with (go_at_call 31; refine CR.out.mono ?_; rintro _ w2 ⟨rfl, HQ2⟩)
        go_ret
        rw [HE.out]
        exact ⟨rfl, HQ2.out⟩
      | false =>
        have HE : Hid (idxF (standM sg T) (k + 1) (l.drop (k + 1)) = o) := hide (by rw [← HO.out]; exact (idxF_no hx hb).symm)
        clear hb hx HO
        go_wp2_with (go_at_call 31; refine CR.out.mono ?_; rintro _ w2 ⟨rfl, HQ2⟩)
        go_roundw
        case rel => exact ⟨k + 1, by omega, by go_num, HE, HQ2⟩
        case measure => simp [intOf]; omega
    · have HE : Hid (o = none) := hide (by rw [← HO.out]; exact idxF_end (by omega))
      clear HO
      go_wp2_with fail
      go_ret
      rw [HE.out]
      exact ⟨rfl, HQ.out⟩
set_option maxRecDepth 100000 in
set_option maxHeartbeats 3200000 in
theorem standFirst_any {l : List Int} {a : Option Addr} {c k : Nat} {x : Int} (h : Sn S sr n Tb Rb N rv sg T fa fc ra rc ba bc w) (hl : At1 w a (ints l)) (hlim : l.length ≤ 140737488351232) (hin : ∀ x ∈ l, 0 ≤ x ∧ x < (T.rules.length : Int)) (hk : idxF (standM sg T) 0 l = some k) (hx : l[k]? = some x) :
    Calls Try.prog 34 #[.slice a l.length c, .func (.func 31) #[] #[ptr Tb, ptr Rb]] w fun e w' => e = .returned (.int .i64 x) ∧ ∃ q, w' = w.drewN q := by
  have CI := hide (standIdx_any (c := c) h hl hlim hin)
  rw [hk] at CI
  unfold idxV at CI
  simp only at CI
  have hkl := (List.getElem?_eq_some_iff.1 hx).1
  obtain ⟨g, gg, rfl, cx⟩ := hl.get hx
  have HX := hide cx
  clear h hl hin hk hx cx
  go_enter Try.func34, Try.ntmps34
  go_wp2_with (go_at_call 45; refine CI.out.mono ?_; rintro _ w2 ⟨rfl, hq⟩; have HQ := hide hq; have cx : w2.cell? ⟨g, gg + k, none⟩ = some (.int .i64 x) := (by obtain ⟨q, rfl⟩ := HQ.out; exact HX.out); clear hq)
  go_ret
  exact ⟨rfl, HQ.out⟩
end
end Go.Proofs.Ytdholifacnnjcaa
