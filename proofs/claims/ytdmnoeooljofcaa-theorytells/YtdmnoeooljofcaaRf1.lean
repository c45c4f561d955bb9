/- The document's answer, layer 12: In, Rising. -/
import Derived.Test.YtdmnoeooljofcaaCheck
namespace Go.Proofs.Ytdmnoeooljofcaa.Rf
open Go.RowKit

theorem rises_bad {b p x : Int} {l : List Int} {k : Nat} (hx : l[k]? = some x) (h : x ≤ p ∨ b ≤ x) : risesF b p (l.drop k) = false := by
  rw [drop_at hx]; unfold risesF; rw [if_pos h]
theorem rises_go {b p x : Int} {l : List Int} {k : Nat} (hx : l[k]? = some x) (h : ¬ (x ≤ p ∨ b ≤ x)) : risesF b p (l.drop k) = risesF b x (l.drop (k + 1)) := by
  rw [drop_at hx]; conv => lhs; unfold risesF
  rw [if_neg h]
theorem not_take {l : List Int} {k : Nat} {t x : Int} (hx : l[k]? = some x) (hn : t ∉ l.take k) (he : x ≠ t) : t ∉ l.take (k + 1) := by
  rw [take_snoc hx, List.mem_append]
  rintro (h | h)
  · exact hn h
  · simp at h; exact he h.symm

set_option maxRecDepth 100000 in
set_option maxHeartbeats 6400000 in
theorem rin_any {w : World} {a : Option Addr} {l : List Int} {c : Nat} (h : At1 w a (ints l)) (hl : l.length ≤ 140737488351232) (t : Int) :
    Calls Try.prog 47 #[.slice a l.length c, .int .i64 t] w fun e w' => e = .returned (.bool (decide (t ∈ l))) ∧ w' = w := by
  have HA := hide h
  clear h
  go_enter Try.func47, Try.ntmps47
  go_wp2_with fail
  go_loop [5] (fun x => ∃ k : Nat, k ≤ l.length ∧ x = .int .i64 k ∧ Hid (t ∉ l.take k)) (fun x => l.length - (intOf x).toNat)
  case atStart => exact ⟨0, by omega, rfl, hide (by simp)⟩
  case round =>
    obtain ⟨k, hk, rfl, HK⟩ := hrel
    by_cases hlt : k < l.length
    · obtain ⟨x, hx⟩ := get_at hlt
      obtain ⟨g, of, rfl, kc⟩ := HA.out.get hx
      by_cases hxt : x = t
      · subst hxt
        have HR : Hid (true = decide (x ∈ l)) := hide (by rw [decide_eq_true (List.mem_of_getElem? hx)])
        clear hx HK
        go_wp2_with fail
        go_ret
        exact ⟨ret_bool HR.out, rfl⟩
      · have HN : Hid (t ∉ l.take (k + 1)) := hide (not_take hx HK.out hxt)
        have hbb : (x == t) = false := beq_eq_false_iff_ne.2 hxt
        clear hx HK hxt
        go_wp2_with fail
        go_round
        case rel => exact ⟨k + 1, by omega, by go_num, HN⟩
        case measure => simp [intOf]; omega
    · have HR : Hid (false = decide (t ∈ l)) := hide (by have := HK.out; rw [List.take_of_length_le (by omega)] at this; rw [decide_eq_false this])
      clear HK
      go_wp2_with fail
      go_ret
      exact ⟨ret_bool HR.out, rfl⟩

set_option maxRecDepth 100000 in
set_option maxHeartbeats 6400000 in
theorem rising_any {w : World} {a : Option Addr} {l : List Int} {c : Nat} (h : At1 w a (ints l)) (hl : l.length ≤ 140737488351232) (b : Int) :
    Calls Try.prog 46 #[.slice a l.length c, .int .i64 b] w fun e w' => e = .returned (.bool (risesM l b)) ∧ ∃ m, w' = w.drewN m := by
  have HA := hide h
  obtain ⟨o, ho⟩ : ∃ o, risesM l b = o := ⟨_, rfl⟩
  rw [ho]
  have HO : Hid (risesF b (-1) (l.drop 0) = o) := hide (by rw [List.drop_zero]; exact ho)
  clear h ho
  go_enter Try.func46, Try.ntmps46
  go_wp2_with fail
  go_loopw [5] (fun x wr => ∃ (k : Nat) (p : Int), k ≤ l.length ∧ x = .int .i64 k ∧ Hid (∃ m, wr = w.drewN m) ∧ -1 ≤ p ∧ (k = 0 → p = -1) ∧ Hid (k ≠ 0 → l[k - 1]? = some p) ∧ Hid (risesF b p (l.drop k) = o)) (fun x _ => l.length - (intOf x).toNat)
  case atStart => exact ⟨0, -1, by omega, rfl, hide ⟨0, rfl⟩, by omega, fun _ => rfl, hide (fun h => (h rfl).elim), HO⟩
  case round =>
    clear HO
    obtain ⟨k, p, hk, rfl, HD, hp1, hp0, HP, HK⟩ := hrel
    have HA2 : Hid (At1 wr a (ints l)) := hide (by obtain ⟨m, rfl⟩ := HD.out; exact HA.out)
    have HD2 : Hid (∀ q, ∃ m, wr.drewN q = w.drewN m) := hide (by obtain ⟨m, rfl⟩ := HD.out; exact fun q => ⟨m + q, World.drewN_drewN ..⟩)
    clear HA
    by_cases hlt : k < l.length
    · obtain ⟨x, hx⟩ := get_at hlt
      obtain ⟨g, of, rfl, kc⟩ := HA2.out.get hx
      have HX := hide hx
      clear hx
      have hkb : (k = 0 ∧ p = -1) ∨ (1 ≤ k ∧ wr.cell? ⟨g, of + (k - 1), none⟩ = some (.int .i64 p)) := by
        by_cases h0 : k = 0
        · exact .inl ⟨h0, hp0 h0⟩
        · obtain ⟨_, _, e, hc⟩ := HA2.out.get (HP.out h0)
          cases e
          exact .inr ⟨by omega, hc⟩
      clear HP
      by_cases h1 : x < 0
      · have HN : Hid (false = o) := hide (by rw [← HK.out, rises_bad HX.out (by omega)])
        clear HK HX hkb
        go_wp2_with fail
        go_quiet (fail)
        go_wp2_with fail
        go_ret
        exact ⟨ret_bool HN.out, HD2.out _⟩
      · by_cases h2 : b ≤ x
        · have HN : Hid (false = o) := hide (by rw [← HK.out, rises_bad HX.out (by omega)])
          have hd1 : decide (x < 0) = false := decide_eq_false h1
          have hd2 : decide (b ≤ x) = true := decide_eq_true h2
          clear HK HX hkb
          go_wp2_with fail
          go_quiet (fail)
          go_wp2_with fail
          go_ret
          exact ⟨ret_bool HN.out, HD2.out _⟩
        · have hd1 : decide (x < 0) = false := decide_eq_false h1
          have hd2 : decide (b ≤ x) = false := decide_eq_false h2
          rcases hkb with ⟨hk0, rfl⟩ | ⟨hk1, kp⟩
          · have hd3 : decide ((0 : Int) < (k : Int)) = false := decide_eq_false (by omega)
            have hd5 : decide (0 < k) = false := decide_eq_false (by omega)
            clear hk0 hp0
            have HN : Hid (risesF b x (l.drop (k + 1)) = o) := hide (by rw [← HK.out, rises_go HX.out (by omega)])
            have HX2 : Hid (k + 1 ≠ 0 → l[k + 1 - 1]? = some x) := hide fun _ => HX.out
            clear HK HX
            go_wp2_with fail
            go_quiet (fail)
            go_wp2_with fail
            go_roundw
            case rel => exact ⟨k + 1, x, by omega, by go_num, hide (HD2.out _), by omega, by omega, HX2, HN⟩
            case measure => simp [intOf]; omega
          · have hd3 : decide ((0 : Int) < (k : Int)) = true := decide_eq_true (by omega)
            have hd5 : decide (0 < k) = true := decide_eq_true (by omega)
            have hki : ((k : Int) - 1).toNat = k - 1 := by omega
            by_cases h3 : x ≤ p
            · have HN : Hid (false = o) := hide (by rw [← HK.out, rises_bad HX.out (by omega)])
              have hd4 : decide (x ≤ p) = true := decide_eq_true h3
              clear HK HX
              go_wp2_with fail
              go_quiet (fail)
              go_wp2_with fail
              go_ret
              exact ⟨ret_bool HN.out, HD2.out _⟩
            · have HN : Hid (risesF b x (l.drop (k + 1)) = o) := hide (by rw [← HK.out, rises_go HX.out (by omega)])
              have HX2 : Hid (k + 1 ≠ 0 → l[k + 1 - 1]? = some x) := hide fun _ => HX.out
              have hd4 : decide (x ≤ p) = false := decide_eq_false h3
              clear HK HX
              go_wp2_with fail
              go_quiet (fail)
              go_wp2_with fail
              go_roundw
              case rel => exact ⟨k + 1, x, by omega, by go_num, hide (HD2.out _), by omega, by omega, HX2, HN⟩
              case measure => simp [intOf]; omega
    · have HN : Hid (true = o) := hide (by rw [← HK.out, drop_end (by omega)]; rfl)
      clear HK
      go_wp2_with fail
      go_ret
      exact ⟨ret_bool HN.out, HD.out⟩
end Go.Proofs.Ytdmnoeooljofcaa.Rf
/- The document's answer, layer 12: foes, CheckFacts. -/
namespace Go.Proofs.Ytdmnoeooljofcaa.Rf
open Go.RowKit

theorem rf_int {a b : Int} (h : a = b) : Ending.returned (.int .i64 a) = .returned (.int .i64 b) := by rw [h]

set_option maxRecDepth 100000 in
set_option maxHeartbeats 12800000 in
theorem rfoes_any {w : World} {T : Th} {fa ra ba : Option Addr} {fc rc bc q : Nat} {l : List Int} (h : Lists w.heap.size w T.foes (.slice fa T.foes.length fc)) (hlen : (T.foes.length : Int) = T.lits) (hq : T.foes[q]? = some l) :
    Calls Try.prog 45 #[tv T fa fc ra rc ba bc, .int .i64 q] w fun e w' => e = .returned (.bool (!badFoe T q l)) ∧ Below w.heap.size w w' := by
  have hB := below_new w (.cells #[.int .i64 T.lits, .slice fa T.foes.length fc, .slice ra T.rules.length rc, .slice ba T.beats.length bc] 27)
  have hL := h.go hB
  have hX := heap_alloc_new w (.cells #[.int .i64 T.lits, .slice fa T.foes.length fc, .slice ra T.rules.length rc, .slice ba T.beats.length bc] 27)
  have hil : q < T.foes.length := (List.getElem?_eq_some_iff.1 hq).1
  have hfl := h.lim
  obtain ⟨o, ho⟩ : ∃ o, (!badFoe T q l) = o := ⟨_, rfl⟩
  rw [ho]
  unfold badFoe returnedM at ho
  have HO := hide ho
  have HLen := hide hlen
  clear h ho hlen
  go_enter Try.func45, Try.ntmps45
  go_upto_region 1 with fail
  generalize w.alloc (.cells #[.int .i64 T.lits, .slice fa T.foes.length fc, .slice ra T.rules.length rc, .slice ba T.beats.length bc] 27) = W at *
  obtain ⟨-, c0, c1, c2, c3⟩ := Bt.of hX
  have HX := hide hX
  obtain ⟨g, of, a2, d2, rfl, -, kc, hc2, hll, hI⟩ := at_L hL hq
  have HL := hide hL
  have HI := hide hI.at1
  have HB := hide hB
  have CR := hide (rising_any (c := d2) hI.at1 hll T.lits)
  have CI := hide (fun (w1 : World) (hb : Below W.heap.size W w1) => rin_any (w := w1) (c := d2) (hI.at1.below hb) hll (q : Int))
  have HBX := hide (fun (X : World) (hX : Below W.heap.size W X) => HB.out.trans (hX.mono HB.out.size))
  clear hL hI hB hq hX
  by_cases h64 : 64 < l.length
  · have HN : Hid (false = o) := hide (by rw [← HO.out, decide_eq_true h64]; rfl)
    clear HO CR CI
    go_wp2_with fail
    go_ret
    exact ⟨ret_bool HN.out, HB.out⟩
  · by_cases hri : risesM l T.lits = true
    · rw [hri] at CR
      by_cases hin : (q : Int) ∈ l
      · have HN : Hid (false = o) := hide (by rw [← HO.out, decide_eq_true hin]; simp)
        rw [decide_eq_true hin] at CI
        clear HO hri hin
        go_wp2_with (first
          | (go_at_call 46; refine CR.out.mono ?_; rintro _ w1 ⟨rfl, hd⟩; have HX1 : Hid (Below W.heap.size W w1) := hide (by obtain ⟨m, rfl⟩ := hd; exact below_drewN W m); clear hd)
          | (go_at_call 47; refine (CI.out _ HX1.out).mono ?_; rintro _ w2 ⟨rfl, hw⟩; subst w2))
        go_ret
        exact ⟨ret_bool HN.out, HBX.out _ HX1.out⟩
      · have HO2 : Hid ((l.drop 0).all (fun f => decide ((q : Int) ∈ row T.foes f)) = o) := hide (by rw [List.drop_zero, ← HO.out, decide_eq_false h64, hri, decide_eq_false hin]; simp)
        have HMem : Hid (∀ f ∈ l, 0 ≤ f ∧ f < (T.foes.length : Int)) := hide fun f hf => by have := (rises_iff.1 hri).1 f hf; have := HLen.out; omega
        rw [decide_eq_false hin] at CI
        clear HO hri hin
        go_wp2_with (first
          | (go_at_call 46; refine CR.out.mono ?_; rintro _ w1 ⟨rfl, hd⟩; have HX1 : Hid (Below W.heap.size W w1) := hide (by obtain ⟨m, rfl⟩ := hd; exact below_drewN W m); clear hd)
          | (go_at_call 47; refine (CI.out _ HX1.out).mono ?_; rintro _ w2 ⟨rfl, hw⟩; subst w2))
        clear c0 c1 c2 c3 CR CI kc
        go_loopw [6] (fun x wr => ∃ k : Nat, k ≤ l.length ∧ x = .int .i64 k ∧ Hid ((l.drop k).all (fun f => decide ((q : Int) ∈ row T.foes f)) = o) ∧ Hid (Below W.heap.size W wr)) (fun x _ => l.length - (intOf x).toNat)
        case atStart => exact ⟨0, by omega, rfl, HO2, HX1⟩
        case round =>
          clear HO2 HX1
          obtain ⟨k, hk, rfl, HK, HW⟩ := hrel
          by_cases hlt : k < l.length
          · obtain ⟨-, c0, c1, c2, c3⟩ := Bt.of ((HW.out.block _ (loc_lt HX.out)).trans HX.out)
            obtain ⟨x, hx⟩ := get_at hlt
            obtain ⟨g1, o1, rfl, kc1⟩ := (HI.out.below HW.out).get hx
            obtain ⟨y, rfl⟩ := Int.eq_ofNat_of_zero_le (HMem.out x (List.mem_of_getElem? hx)).1
            have hy : y < T.foes.length := by have := (HMem.out _ (List.mem_of_getElem? hx)).2; omega
            obtain ⟨m, hm⟩ := get_at hy
            obtain ⟨_, _, a3, d3, e3, -, kc2, -, hml, hI2⟩ := at_L (Lists.go HW.out HL.out) hm
            cases e3
            have CH := hide (fun n => rin_any (w := wr.drewN n) (c := d3) hI2.at1 hml (q : Int))
            have HS := hide (all_step (p := fun f => decide ((q : Int) ∈ row T.foes f)) hx)
            have HRow : Hid (row T.foes (y : Int) = m) := hide (row_at (by simpa using hm))
            have HW2 := hide (fun n => HW.out.trans ((below_drewN wr n).mono HW.out.size))
            clear hx hI2 hm
            by_cases hin : (q : Int) ∈ m
            · have HN : Hid ((l.drop (k + 1)).all (fun f => decide ((q : Int) ∈ row T.foes f)) = o) := hide (by
                have := HK.out
                rw [HS.out, HRow.out, decide_eq_true hin, Bool.true_and] at this
                exact this)
              rw [decide_eq_true hin] at CH
              clear HK HS HRow hin
              go_wp2_with fail
              go_quiet ((go_at_call 47; exact Calls.quiet_of_same (CH.out _)))
              go_wp2_with fail
              go_roundw
              case rel => exact ⟨k + 1, by omega, by go_num, HN, hide (HW2.out _)⟩
              case measure => simp [intOf]; omega
            · have HN : Hid (false = o) := hide (by
                have := HK.out
                rw [HS.out, HRow.out, decide_eq_false hin, Bool.false_and] at this
                exact this)
              rw [decide_eq_false hin] at CH
              clear HK HS HRow hin
              go_wp2_with fail
              go_quiet ((go_at_call 47; exact Calls.quiet_of_same (CH.out _)))
              go_wp2_with fail
              go_ret
              exact ⟨ret_bool HN.out, HBX.out _ (HW2.out _)⟩
          · have HN : Hid (true = o) := hide (by
              have := HK.out
              rw [drop_end (by omega)] at this
              exact this)
            go_wp2_with fail
            go_ret
            exact ⟨ret_bool HN.out, HBX.out _ HW.out⟩
    · have hri' : risesM l T.lits = false := by simpa using hri
      have HN : Hid (false = o) := hide (by rw [← HO.out, hri']; simp)
      rw [hri'] at CR
      clear HO hri CI
      go_wp2_with (go_at_call 46; refine CR.out.mono ?_; rintro _ w1 ⟨rfl, hd⟩; have HX1 : Hid (Below W.heap.size W w1) := hide (by obtain ⟨m, rfl⟩ := hd; exact below_drewN W m); clear hd)
      go_ret
      exact ⟨ret_bool HN.out, HBX.out _ HX1.out⟩

end Go.Proofs.Ytdmnoeooljofcaa.Rf
/- The document's answer, layer 12: count, pairs. -/
namespace Go.Proofs.Ytdmnoeooljofcaa.Rf
open Go.RowKit

theorem cell_below {w w' : World} {p : Addr} {v : Value} (h : w.cell? p = some v) (hb : Below w.heap.size w w') : w'.cell? p = some v := (World.cell?_of_block (hb.block _ (World.block_lt_of_cell? w _ h))).trans h

set_option maxRecDepth 100000 in
set_option maxHeartbeats 12800000 in
theorem rcount_any {w : World} {T : Th} {n : Nat} {fa ra ba : Option Addr} {fc rc bc : Nat} (h : TA w.heap.size w T fa fc ra rc ba bc) (hn : T.lits = n) (hn4 : n ≤ 4096) (hru : (ruleM T).1 = 0) :
    Calls Try.prog 56 #[tv T fa fc ra rc ba bc] w fun e w' => e = .returned (.slice (some ⟨w.heap.size + 1, 0, none⟩) n n) ∧ (∀ z : Nat, z < n → w'.cell? ⟨w.heap.size + 1, z, none⟩ = some (.int .i64 (cntM T z : Nat))) ∧ Below w.heap.size w w' := by
  obtain ⟨iI, hiI, zI0, zI1, zI2⟩ := info_parts infoI
  obtain ⟨r1, r2⟩ := rule_ok hru
  have hpos : ∀ r ∈ T.rules, 0 ≤ r.head := fun r hr => (r2 r hr).2.2.1
  have HN0 := hide hn
  have hB := below_new w (.cells #[.int .i64 T.lits, .slice fa T.foes.length fc, .slice ra T.rules.length rc, .slice ba T.beats.length bc] 27)
  have hX := heap_alloc_new w (.cells #[.int .i64 T.lits, .slice fa T.foes.length fc, .slice ra T.rules.length rc, .slice ba T.beats.length bc] 27)
  have PQ0 : Hid (Pq w (.int .i64 T.lits) (.slice fa T.foes.length fc) (.slice ra T.rules.length rc) (.slice ba T.beats.length bc) (cntL n (T.rules.take 0)) ((w.alloc (.cells #[.int .i64 T.lits, .slice fa T.foes.length fc, .slice ra T.rules.length rc, .slice ba T.beats.length bc] 27)).alloc (.cells (Array.replicate n (.int .i64 0)) 3))) := hide (by
    refine ⟨hB.alloc hB.size _, (Below.heap_alloc _ _ _ (by simp)).trans hX, ?_⟩
    have e := heap_alloc_new (w.alloc (.cells #[.int .i64 T.lits, .slice fa T.foes.length fc, .slice ra T.rules.length rc, .slice ba T.beats.length bc] 27)) (.cells (Array.replicate n (.int .i64 0)) 3)
    have e2 : cntL n (T.rules.take 0) = List.replicate n 0 := by simp [cntL]
    unfold Fx
    rw [e2, ← ints_rep]
    simpa using e)
  have hc0 : (w.alloc (.cells #[.int .i64 T.lits, .slice fa T.foes.length fc, .slice ra T.rules.length rc, .slice ba T.beats.length bc] 27)).cell? ⟨w.heap.size, 0, none⟩ = some (.int .i64 T.lits) := cell_of_row _ _ 0 _ _ _ hX
  have HH := hide h
  have HR2 := hide r2
  have HPos := hide hpos
  have hrl := h.rules.lim
  clear h hru r2 hpos hX hB hn
  go_enter Try.func56, Try.ntmps56
  go_upto_region 1 with fail
  generalize hW : w.alloc (.cells #[.int .i64 T.lits, .slice fa T.foes.length fc, .slice ra T.rules.length rc, .slice ba T.beats.length bc] 27) = W at *
  have hWs : W.heap.size = w.heap.size + 1 := by rw [← hW]; simp
  have HWs := hide hWs
  clear hW hWs
  go_upto_region 2 with (at_make; go_must (refine wpList_make_fix _ rfl _ _ 38 rfl 3 iI _ Try.underlying38 hiI zI0 zI1 rfl _ _ n rfl rfl HN0.out HN0.out (by rw [zI2]; omega) (by unfold maxLen; omega) ?_))
  rw [HWs.out]
  generalize W.alloc (.cells (Array.replicate n (.int .i64 0)) 3) = W1 at *
  clear HWs hc0
  go_wp2_with fail
  go_loopw [4] (fun x wr => ∃ k : Nat, k ≤ T.rules.length ∧ x = .int .i64 k ∧ Hid (Pq w (.int .i64 T.lits) (.slice fa T.foes.length fc) (.slice ra T.rules.length rc) (.slice ba T.beats.length bc) (cntL n (T.rules.take k)) wr)) (fun x _ => T.rules.length - (intOf x).toNat)
  case atStart => exact ⟨0, by omega, rfl, PQ0⟩
  case round =>
    clear PQ0
    obtain ⟨k, hk, rfl, PQ⟩ := hrel
    obtain ⟨-, c0, c1, c2, c3⟩ := Bt.of PQ.out.bx
    by_cases hlt : k < T.rules.length
    · obtain ⟨x, hx⟩ := get_at hlt
      obtain ⟨g, of, a2, d2, rfl, -, k0, k1, k2, -, -, -⟩ := at_R (HH.out.rules.keep PQ.out.low.block) hx
      obtain ⟨-, -, hh0, hh1, -, -⟩ := HR2.out x (List.mem_of_getElem? hx)
      obtain ⟨m, hm⟩ := Int.eq_ofNat_of_zero_le hh0
      have HS := hide (cntL_snoc (n := n) hx)
      have hcn := cntL_le (n := n) (z := m) (rs := T.rules.take k) (by have := HN0.out; omega) (fun r hr => HPos.out r (List.mem_of_mem_take hr))
      rw [List.length_take] at hcn
      have hmn : m < n := by have := HN0.out; omega
      have HI := hide (ints_at (l := cntL n (T.rules.take k)) (i := m) (by rw [cntL_len]; have := HN0.out; omega))
      have HU : Hid (upM (cntL n (T.rules.take k)) x.head = (cntL n (T.rules.take k)).set m ((cntL n (T.rules.take k)).getD m 0 + 1)) := hide (by unfold upM; rw [show x.head.toNat = m by omega])
      rw [hm] at k1
      clear hx
      generalize x.head = hd at *
      subst hd
      generalize hC : (cntL n (T.rules.take k)).getD m 0 = cv at *
      have hcv0 : 0 ≤ cv := hcn.1
      have hcv1 : cv ≤ 4096 := by have := hcn.2; omega
      have kcell := PQ.out.fx.get HI.out
      have kfr := PQ.out.fx.frz m
      have PS := hide (PQ.out.set m (cv + 1))
      rw [← HU.out, ← HS.out] at PS
      clear k0 k2 PQ HI HU HS hC hcn hh0 hh1
      go_wp2_with fail
      go_roundw
      case rel => exact ⟨k + 1, by omega, by go_num, PS⟩
      case measure => simp [intOf]; omega
    · have hkn : k = T.rules.length := by omega
      rw [hkn, List.take_length] at PQ
      have HLow := hide PQ.out.low
      have HCell : Hid (∀ z : Nat, z < n → wr.cell? ⟨w.heap.size + 1, z, none⟩ = some (.int .i64 (cntM T z : Nat))) := hide fun z hz => by
        have := PQ.out.fx.get (ints_at (l := cntL n T.rules) (i := z) (by rw [cntL_len]; omega))
        rw [cntL_at hz HPos.out] at this
        exact this
      clear PQ HH hkn
      go_wp2_with fail
      go_ret
      exact ⟨rfl, HCell.out, HLow.out⟩

def prM (T : Th) : Int := if 65536 < pairsM T then 65537 else pairsM T
set_option maxRecDepth 100000 in
set_option maxHeartbeats 12800000 in
theorem rpairs_any {w : World} {T : Th} {fa ra ba : Option Addr} {fc rc bc : Nat} (h : TA w.heap.size w T fa fc ra rc ba bc) (h0 : 0 ≤ T.lits) (h1 : T.lits ≤ 4096) (hf : (foeM T).1 = 0) (hru : (ruleM T).1 = 0) :
    Calls Try.prog 35 #[tv T fa fc ra rc ba bc] w fun e w' => e = .returned (.int .i64 (prM T)) ∧ Below w.heap.size w w' := by
  obtain ⟨f1, f2⟩ := foe_ok hf
  obtain ⟨r1, r2⟩ := rule_ok hru
  have h64 : ∀ l ∈ T.foes, l.length ≤ 64 := fun l hl => by
    obtain ⟨i, hi, rfl⟩ := List.mem_iff_getElem.1 hl
    exact (f2 i _ (List.getElem?_eq_getElem hi)).1
  have HPB : Hid (pairsM T ≤ T.foes.length * 1073741824) := hide (pairsFrom_le r1 h64)
  obtain ⟨z, hz⟩ : ∃ z, prM T = z := ⟨_, rfl⟩
  rw [hz]
  unfold prM at hz
  have HZ := hide hz
  obtain ⟨P, hP⟩ : ∃ P, pairsM T = P := ⟨_, rfl⟩
  rw [hP] at HPB HZ
  have HP : Hid (0 + pairsFrom T 0 (T.foes.drop 0) = P) := hide (by rw [List.drop_zero, Nat.zero_add]; exact hP)
  obtain ⟨n, hn⟩ := Int.eq_ofNat_of_zero_le h0
  have hnf1 : n ≤ T.foes.length := by omega
  have hnf2 : T.foes.length ≤ n := by omega
  have hn4 : n ≤ 4096 := by omega
  have HN0 := hide hn
  have hB := below_new w (.cells #[.int .i64 T.lits, .slice fa T.foes.length fc, .slice ra T.rules.length rc, .slice ba T.beats.length bc] 27)
  have hX := heap_alloc_new w (.cells #[.int .i64 T.lits, .slice fa T.foes.length fc, .slice ra T.rules.length rc, .slice ba T.beats.length bc] 27)
  have hL := TR.go hB h
  have CC := hide (rcount_any hL hn hn4 hru)
  have HF2 := hide f2
  have hfl := h.foes.lim
  have HB := hide hB
  have HL := hide hL.foes
  clear h hf hru f1 f2 r2 hP h64 hB hL hn h0 h1 hz
  go_enter Try.func35, Try.ntmps35
  go_upto_region 1 with fail
  generalize w.alloc (.cells #[.int .i64 T.lits, .slice fa T.foes.length fc, .slice ra T.rules.length rc, .slice ba T.beats.length bc] 27) = W at *
  obtain ⟨-, c0, c1, c2, c3⟩ := Bt.of hX
  have HX := hide hX
  clear hX
  go_wp2_with (go_at_call 56; refine CC.out.mono ?_; rintro _ w1 ⟨rfl, hcell, hw1⟩; have HW1 := hide hw1; have HCell := hide hcell; clear hw1 hcell)
  clear c0 c1 c2 c3 CC
  have HL1 := hide (Lists.go HW1.out HL.out)
  have HX1 := hide ((HW1.out.block _ (loc_lt HX.out)).trans HX.out)
  have HBX := hide (fun (X : World) (hX : Below w1.heap.size w1 X) => HB.out.trans ((HW1.out.trans (hX.mono HW1.out.size)).mono HB.out.size))
  generalize W.heap.size + 1 = cb at *
  clear HL HX HW1 HB
  go_loopw [4, 5] (fun y x wr => ∃ (k s : Nat), k ≤ n ∧ x = .int .i64 k ∧ y = .int .i64 s ∧ s ≤ 65536 ∧ Hid (s + pairsFrom T k (T.foes.drop k) = P) ∧ Hid (Below w1.heap.size w1 wr)) (fun _ x _ => n - (intOf x).toNat)
  case atStart => exact ⟨0, 0, by omega, rfl, rfl, by omega, HP, hide (Below.refl _ _)⟩
  case round =>
    clear HP
    obtain ⟨k, s, hk, rfl, rfl, hs, HK, HW⟩ := hrel
    obtain ⟨-, c0, c1, c2, c3⟩ := Bt.of ((HW.out.block _ (loc_lt HX1.out)).trans HX1.out)
    rw [HN0.out] at c0
    by_cases hlt : k < n
    · obtain ⟨l, hl⟩ := get_at (l := T.foes) (i := k) (by omega)
      obtain ⟨-, hri, -, -⟩ := HF2.out k l hl
      have HMem : Hid (∀ f ∈ l, 0 ≤ f ∧ f < (n : Int)) := hide fun f hf => by have := (rises_iff.1 hri).1 f hf; have := HN0.out; omega
      have HSt : Hid (s + (pairsRow T k (l.drop 0) + pairsFrom T (k + 1) (T.foes.drop (k + 1))) = P) := hide (by have := HK.out; rw [drop_at hl] at this; rw [List.drop_zero]; exact this)
      have hA4 : cntM T k ≤ 4096 := Nat.le_trans cntM_le r1
      have HL2 := hide hl
      have hll : l.length ≤ 140737488351232 := by obtain ⟨_, _, _, _, _, _, _, _, h, _⟩ := at_L HL1.out hl; exact h
      clear hri HK hl
      generalize hA : cntM T k = A at *
      have HA := hide hA
      clear hA
      go_wp2_with fail
      clear c0 c1 c2 c3
      go_loopw [4, 6] (fun y x ws => ∃ (j s2 : Nat), j ≤ l.length ∧ x = .int .i64 j ∧ y = .int .i64 s2 ∧ Hid (s2 + (pairsRow T k (l.drop j) + pairsFrom T (k + 1) (T.foes.drop (k + 1))) = P) ∧ Hid (Below w1.heap.size w1 ws)) (fun _ x _ => l.length - (intOf x).toNat)
      case atStart => exact ⟨0, s, by omega, rfl, rfl, HSt, HW⟩
      case round =>
        clear HSt HW
        obtain ⟨j, s2, hj, rfl, rfl, HJ, HW⟩ := hrel
        obtain ⟨-, c0, c1, c2, c3⟩ := Bt.of ((HW.out.block _ (loc_lt HX1.out)).trans HX1.out)
        obtain ⟨g, of, a2, d2, rfl, -, kc, hc2, -, hI⟩ := at_L (Lists.go HW.out HL1.out) HL2.out
        by_cases hlj : j < l.length
        · obtain ⟨x, hx⟩ := get_at hlj
          obtain ⟨g3, o3, rfl, kc3⟩ := hI.at1.get hx
          obtain ⟨hx0, hx1⟩ := HMem.out x (List.mem_of_getElem? hx)
          obtain ⟨m, rfl⟩ := Int.eq_ofNat_of_zero_le hx0
          have hmn : m < n := by omega
          have kc4 := cell_below (HCell.out m hmn) HW.out
          have kc5 := cell_below (HCell.out k hlt) HW.out
          rw [HA.out] at kc5
          have hB4 : cntM T m ≤ 4096 := Nat.le_trans cntM_le r1
          have HN : Hid (s2 + A * cntM T m + (pairsRow T k (l.drop (j + 1)) + pairsFrom T (k + 1) (T.foes.drop (k + 1))) = P) := hide (by
            have := HJ.out
            rw [drop_at hx, pairsRow, HA.out] at this
            omega)
          have HW2 := hide (fun n => HW.out.trans ((below_drewN wr n).mono HW.out.size))
          clear hx hx0 hx1 HJ hI
          generalize cntM T (m : Int) = B at *
          obtain ⟨M, hM⟩ : ∃ M, A * B = M := ⟨_, rfl⟩
          have hM2 : (A : Int) * (B : Int) = (M : Int) := by rw [← hM]; simp
          have hMb : M ≤ 16777216 := by rw [← hM]; exact Nat.mul_le_mul hA4 hB4
          have hs2 : s2 + M ≤ 4398046511104 := by have h1 := HN.out; have h2 := HPB.out; rw [hM] at h1; omega
          rw [hM] at HN
          clear hM
          go_wp2_with fail
          go_quiet (fail)
          go_wp2_with fail
          go_roundw
          case rel => exact ⟨j + 1, s2 + M, by omega, by go_num, by go_num, HN, hide (HW2.out _)⟩
          case measure => simp [intOf]; omega
        · have HN : Hid (s2 + pairsFrom T (k + 1) (T.foes.drop (k + 1)) = P) := hide (by have := HJ.out; rw [drop_end (by omega)] at this; simpa [pairsRow] using this)
          clear HJ hI
          by_cases hbig : 65536 < s2
          · have HE : Hid ((65537 : Int) = z) := hide (by rw [← HZ.out, if_pos (by have := HN.out; omega)])
            clear HZ HN
            go_wp2_with fail
            go_ret
            exact ⟨rf_int HE.out, HBX.out _ HW.out⟩
          · go_wp2_with fail
            go_roundw
            case rel => exact ⟨k + 1, s2, by omega, by go_num, rfl, by omega, HN, HW⟩
            case measure => simp [intOf]; omega
    · have HN : Hid ((s : Int) = z) := hide (by
        have := HK.out
        rw [drop_end (by omega)] at this
        have h2 : s = P := by simpa [pairsFrom] using this
        rw [← HZ.out, if_neg (by omega), h2])
      clear HK
      go_wp2_with fail
      go_ret
      exact ⟨rf_int HN.out, HBX.out _ HW.out⟩
end Go.Proofs.Ytdmnoeooljofcaa.Rf
