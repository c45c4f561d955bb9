/- The document's answer, layer 15: given, Run, Solve. -/
import Derived.Test.YtcobmbclhhimjaaGreatRg3
import Derived.Test.YtcobmbclhhimjaaGreatRg6
import Derived.Test.YtcobmbclhhimjaaGreatRf7
import Derived.Test.YtcobmbclhhimjaaGreatSok
namespace Go.Proofs.YtcobmbclhhimjaaGreat.Rf
open Go.RowKit

theorem list_eq_drop {l k : List Int} (h : ∀ i : Nat, i < l.length → l.getD i 0 = k.getD i 0) (hl : l.length = k.length) : l = k := by
  apply List.ext_getElem?
  intro i
  by_cases hi : i < l.length
  · have := h i hi
    rw [List.getD_eq_getElem?_getD, List.getD_eq_getElem?_getD, List.getElem?_eq_getElem hi, List.getElem?_eq_getElem (by omega)] at this
    rw [List.getElem?_eq_getElem hi, List.getElem?_eq_getElem (by omega)]
    exact congrArg some this
  · rw [List.getElem?_eq_none (by omega), List.getElem?_eq_none (by omega)]
set_option maxRecDepth 100000 in
set_option maxHeartbeats 6400000 in
theorem sameM_any {w : World} {a b : Option Addr} {c d : Nat} {l k : List Int} (hl : At1 w a (u8s l)) (hk : At1 w b (u8s k)) (hlim : l.length ≤ 4096) (he : l.length = k.length) :
    Calls Tryz.prog 12 #[.slice a l.length c, .slice b k.length d] w fun e w' => e = .returned (.bool (decide (l = k))) ∧ ∃ q, w' = w.drewN q := by
  have HL := hide hl
  have HK := hide hk
  obtain ⟨o, ho⟩ : ∃ o, decide (l = k) = o := ⟨_, rfl⟩
  rw [ho]
  have HO := hide ho
  clear hl hk ho
  go_enter Tryz.func12, Tryz.ntmps12
  go_wp2_with fail
  go_loopw [5] (fun x wr => ∃ i : Nat, i ≤ l.length ∧ x = .int .i64 i ∧ Hid (∀ j : Nat, j < i → l.getD j 0 = k.getD j 0) ∧ Hid (∃ q, wr = w.drewN q)) (fun x _ => l.length - (intOf x).toNat)
  case atStart => exact ⟨0, by omega, rfl, hide fun j hj => by omega, hide ⟨0, rfl⟩⟩
  case round =>
    obtain ⟨i, hi, rfl, HA, HQ⟩ := hrel
    by_cases hlt : i < l.length
    · have hlt2 : i < k.length := by omega
      obtain ⟨g, gg, rfl, cx⟩ := HL.out i _ (u8s_at hlt)
      obtain ⟨g2, gg2, rfl, cy⟩ := HK.out i _ (u8s_at hlt2)
      have cx2 : wr.cell? ⟨g, gg + i, none⟩ = some (.int .u8 (l.getD i 0)) := by obtain ⟨q, rfl⟩ := HQ.out; exact cx
      have cy2 : wr.cell? ⟨g2, gg2 + i, none⟩ = some (.int .u8 (k.getD i 0)) := by obtain ⟨q, rfl⟩ := HQ.out; exact cy
      clear cx cy
      by_cases hxy : l.getD i 0 = k.getD i 0
      · have HA2 : Hid (∀ j : Nat, j < i + 1 → l.getD j 0 = k.getD j 0) := hide fun j hj => by
          by_cases e : j = i
          · subst e; exact hxy
          · exact HA.out j (by omega)
        generalize l.getD i 0 = x at *
        generalize k.getD i 0 = y at *
        subst hxy
        clear HA
        go_wp2_with fail
        go_quiet (fail)
        have HQ2 : Hid (∃ q, wr.drewN nq = w.drewN q) := hide (by obtain ⟨q, rfl⟩ := HQ.out; exact ⟨q + nq, by unfold World.drewN; simp [Nat.add_assoc]⟩)
        go_wp2_with fail
        go_roundw
        case rel => exact ⟨i + 1, by omega, by go_num, HA2, HQ2⟩
        case measure => simp [intOf]; omega
      · have HE : Hid (o = false) := hide (by rw [← HO.out]; exact decide_eq_false fun e => hxy (by rw [e]))
        have hne : (l.getD i 0 == k.getD i 0) = false := by simpa using hxy
        generalize l.getD i 0 = x at *
        generalize k.getD i 0 = y at *
        clear HA hxy
        go_wp2_with fail
        go_quiet (fail)
        have HQ2 : Hid (∃ q, wr.drewN nq = w.drewN q) := hide (by obtain ⟨q, rfl⟩ := HQ.out; exact ⟨q + nq, by unfold World.drewN; simp [Nat.add_assoc]⟩)
        go_wp2_with fail
        go_ret
        exact ⟨by rw [HE.out]; rfl, HQ2.out⟩
    · have HE : Hid (o = true) := hide (by rw [← HO.out]; exact decide_eq_true (list_eq_drop (fun j hj => HA.out j (by omega)) he))
      go_wp2_with fail
      go_ret
      exact ⟨by rw [HE.out]; rfl, HQ.out⟩

theorem zero_bys {n : Nat} : Bys (List.replicate n 0) := fun q => by
  rw [List.getD_eq_getElem?_getD, List.getElem?_replicate]
  split <;> exact ⟨by decide, by decide⟩
theorem iter_bys {T : Th} {F : List Int} {k : Nat} : ∀ {m : List Int}, Bys m → Bys (iterM T F k m) := by
  induction k with
  | zero => exact fun h => h
  | succ k ih => intro m h; rw [iterM]; exact ih (round_bys h)
section
variable {w : World} {T : Th} {F : List Int} {fa ra ba xa : Option Addr} {fc rc bc xc : Nat}
set_option maxRecDepth 100000 in
set_option maxHeartbeats 6400000 in
theorem given_any (h : TA w.heap.size w T fa fc ra rc ba bc) (hF : Ints w.heap.size w F (.slice xa F.length xc)) :
    Calls Tryz.prog 50 #[tv T fa fc ra rc ba bc, .slice xa F.length xc] w fun e w' => e = .returned (.int .i64 (faultM T F)) ∧ Below w.heap.size w w' := by
  have hB := below_new w (.cells #[.int .i64 T.lits, .slice fa T.foes.length fc, .slice ra T.rules.length rc, .slice ba T.beats.length bc] 25)
  have hX := heap_alloc_new w (.cells #[.int .i64 T.lits, .slice fa T.foes.length fc, .slice ra T.rules.length rc, .slice ba T.beats.length bc] 25)
  have CC := hide (rcheck_any (TR.go hB h))
  have HF := hide (hF.at1.below hB)
  have hfl := hF.lim
  have HB := hide hB
  obtain ⟨z, hz⟩ : ∃ z, faultM T F = z := ⟨_, rfl⟩
  rw [hz]
  unfold faultM at hz
  have HZ := hide hz
  obtain ⟨c, d, hcd⟩ : ∃ c d, checkM T = (c, d) := ⟨_, _, rfl⟩
  rw [hcd] at CC HZ
  unfold dup at CC
  simp only at CC HZ
  clear h hF hB hz hcd
  go_enter Tryz.func50, Tryz.ntmps50
  go_upto_region 1 with fail
  generalize w.alloc (.cells #[.int .i64 T.lits, .slice fa T.foes.length fc, .slice ra T.rules.length rc, .slice ba T.beats.length bc] 25) = W at *
  obtain ⟨-, c0, c1, c2, c3⟩ := Bt.of hX
  have HX := hide hX
  clear hX
  by_cases hc : c = 0
  · subst hc
    go_upto_region 4 with (go_at_call 78; refine CC.out.mono ?_; rintro _ w1 ⟨rfl, hw1⟩; have HW1 := hide hw1; clear hw1)
    clear c0 c1 c2 c3 CC
    obtain ⟨-, c0, c1, c2, c3⟩ := Bt.of ((HW1.out.block _ (loc_lt HX.out)).trans HX.out)
    have CF := hide (checkFacts_any (T := T) (fa := fa) (ra := ra) (ba := ba) (fc := fc) (rc := rc) (bc := bc) (xc := xc) (HF.out.below HW1.out) hfl)
    have HE : Hid ((if risesM F T.lits then (0 : Int) else 181) = z) := hide (by rw [← HZ.out]; rfl)
    rw [HE.out] at CF
    clear HZ HE
    go_wp2_with (go_at_call 79; refine CF.out.mono ?_; rintro _ w2 ⟨rfl, hw2⟩; have HW2 := hide (HB.out.trans ((HW1.out.trans (hw2.mono HW1.out.size)).mono HB.out.size)); clear hw2)
    go_ret
    exact ⟨rfl, HW2.out⟩
  · have HE : Hid (c = z) := hide (by rw [← HZ.out, if_pos hc])
    have hcb : (c != 0) = true := by simpa using hc
    clear HZ
    go_wp2_with (go_at_call 78; refine CC.out.mono ?_; rintro _ w1 ⟨rfl, hw1⟩; have HW1 := hide (HB.out.trans (hw1.mono HB.out.size)); clear hw1)
    go_ret
    exact ⟨rf_int HE.out, HW1.out⟩

set_option maxRecDepth 100000 in
set_option maxHeartbeats 12800000 in
theorem rrun_any {n : Nat} (hp : Pf T F n) (h : TA w.heap.size w T fa fc ra rc ba bc) (hF : Ints w.heap.size w F (.slice xa F.length xc)) :
    Calls Tryz.prog 51 #[tv T fa fc ra rc ba bc, .slice xa F.length xc] w fun e w' => ∃ (ma : Option Addr) (m : List Int) (k : Nat), e = .returned (.tuple #[.slice ma n n, .int .i64 k]) ∧ (Sol T F m k ∧ m.length = n ∧ At1 w' ma (u8s m)) ∧ Below w.heap.size w w' := by
  obtain ⟨iB, hiB, zB0, zB1, zB2⟩ := info_parts infoM8
  have hB := below_new w (.cells #[.int .i64 T.lits, .slice fa T.foes.length fc, .slice ra T.rules.length rc, .slice ba T.beats.length bc] 25)
  have hX := heap_alloc_new w (.cells #[.int .i64 T.lits, .slice fa T.foes.length fc, .slice ra T.rules.length rc, .slice ba T.beats.length bc] 25)
  have CN := hide (newWorld_any hp (TR.go hB h) (Ints.go hB hF))
  have hn4 := hp.n4
  have HLn := hide hp.ln
  have HB := hide hB
  clear h hF hB hp
  go_enter Tryz.func51, Tryz.ntmps51
  go_upto_region 1 with fail
  generalize w.alloc (.cells #[.int .i64 T.lits, .slice fa T.foes.length fc, .slice ra T.rules.length rc, .slice ba T.beats.length bc] 25) = W at *
  obtain ⟨-, c0, c1, c2, c3⟩ := Bt.of hX
  have HX := hide hX
  clear hX
  go_upto_region 2 with (go_at_call 43; refine CN.out.mono ?_; rintro _ w1 ⟨K, rfl, hWd, hw1⟩; have HWd := hide hWd; have HW1 := hide hw1; clear hWd hw1)
  clear c0 c1 c2 c3 CN
  obtain ⟨A, hA⟩ := HWd.out
  have HA := hide hA
  clear HWd hA
  obtain ⟨-, c0, c1, c2, c3⟩ := Bt.of ((HW1.out.block _ (loc_lt HX.out)).trans HX.out)
  have hn1 := below_new w1 (.cells (Array.replicate n (.int .u8 0)) 77)
  have HM0 : Hid (At1 (w1.alloc (.cells (Array.replicate n (.int .u8 0)) 77)) (some ⟨w1.heap.size, 0, none⟩) (u8s (iterM T F 0 (List.replicate n 0)))) := hide (by
    have h1 : Fx w1.heap.size 77 (u8s (List.replicate n 0)) (w1.alloc (.cells (Array.replicate n (.int .u8 0)) 77)) := by
      unfold Fx
      rw [heap_alloc_new, rep8]
    exact fun i v hi => ⟨_, _, rfl, by rw [Nat.zero_add]; exact h1.get hi⟩)
  have HBn := hide hn1
  clear hn1
  go_upto_region 3 with (at_make; go_must (refine wpList_make_fix _ rfl _ _ 29 rfl 77 iB _ Tryz.underlying29 hiB zB0 zB1 rfl _ _ n rfl rfl HLn.out HLn.out (by rw [zB2]; omega) (by unfold maxLen; omega) ?_))
  generalize w1.alloc (.cells (Array.replicate n (.int .u8 0)) 77) = w2 at *
  clear c0 c1 c2 c3
  have HBW := hide (fun (X : World) (hX : Below w1.heap.size w1 X) => HB.out.trans ((HW1.out.trans (hX.mono HW1.out.size)).mono HB.out.size))
  go_wp2_with fail
  go_loopw [7, 8] (fun y x wr => ∃ (i : Nat) (ma : Option Addr), i ≤ 4 * n ∧ x = .int .i64 i ∧ y = .slice ma n n ∧ Hid (i ≤ Fa.cntF (iterM T F i (List.replicate n 0)) n) ∧ Hid (At1 wr ma (u8s (iterM T F i (List.replicate n 0)))) ∧ Hid (Below w1.heap.size w1 wr)) (fun _ x _ => 4 * n + 1 - (intOf x).toNat)
  case atStart => exact ⟨0, _, by omega, rfl, rfl, hide (Nat.zero_le _), HM0, HBn⟩
  case round =>
    clear HM0 HBn
    obtain ⟨i, ma, hi, rfl, rfl, HC, HM, HW⟩ := hrel
    obtain ⟨m, hm⟩ : ∃ m, iterM T F i (List.replicate n 0) = m := ⟨_, rfl⟩
    have hml : m.length = n := by rw [← hm, iter_len, List.length_replicate]
    have hby : Bys m := by rw [← hm]; exact iter_bys zero_bys
    have HI := hide hm
    rw [hm] at HC HM
    have CR := hide (rround_any (mc := n) (HA.out.go HW.out) HM.out hml fun q _ => hby q)
    have HML := hide hml
    have HBy := hide hby
    have HRL : Hid ((roundM T F m).length = n) := hide (by rw [round_len, hml])
    clear hm hby hml
    go_upto_region 5 with (go_at_call 80; refine CR.out.mono ?_; rintro _ w3 ⟨rfl, hat, hw3⟩; have HAt := hide hat; have HW3 := hide hw3; clear hat hw3)
    have CS := hide (sameM_any (c := n) (d := n) (HM.out.below HW3.out) HAt.out (by rw [HML.out]; exact hn4) (by rw [HML.out, HRL.out]))
    rw [HML.out, HRL.out] at CS
    have HX3 := hide (HW.out.trans (HW3.out.mono HW.out.size))
    by_cases heq : m = roundM T F m
    · have HS : Hid (Sol T F m i) := hide ⟨by rw [show T.lits.toNat = n by rw [HLn.out]; simp]; exact HI.out.symm, heq.symm⟩
      rw [decide_eq_true heq] at CS
      have HM3 := hide (HM.out.below HW3.out)
      clear heq CR HAt
      go_wp2_with (go_at_call 12; refine CS.out.mono ?_; rintro _ w4 ⟨rfl, hd⟩; have HD := hide (quiet_below hd); clear hd)
      go_ret2
      exact ⟨_, m, i, rfl, ⟨HS.out, HML.out, HM3.out.below HD.out⟩, HBW.out _ (HX3.out.trans (HD.out.mono HX3.out.size))⟩
    · have hmore := Fa.round_more HBy.out (fun e => heq e.symm)
      rw [HML.out] at hmore
      have HC2 : Hid (i + 1 ≤ Fa.cntF (iterM T F (i + 1) (List.replicate n 0)) n) := hide (by rw [iter_succ, HI.out]; have := HC.out; omega)
      have hi2 : i + 1 ≤ 4 * n := by have := HC2.out; have := Fa.cntF_le (m := iterM T F (i + 1) (List.replicate n 0)) (k := n); omega
      have HM2 : Hid (iterM T F (i + 1) (List.replicate n 0) = roundM T F m) := hide (by rw [iter_succ, HI.out])
      rw [decide_eq_false heq] at CS
      clear heq CR hmore
      go_wp2_with (go_at_call 12; refine CS.out.mono ?_; rintro _ w4 ⟨rfl, hd⟩; have HD := hide (quiet_below hd); clear hd)
      go_roundw
      case rel => exact ⟨i + 1, _, hi2, by go_num, rfl, HC2, hide (by rw [HM2.out]; exact HAt.out.below HD.out), hide (HX3.out.trans (HD.out.mono HX3.out.size))⟩
      case measure => simp [intOf]; omega
set_option maxRecDepth 100000 in
set_option maxHeartbeats 6400000 in
theorem rsolve_ok (h0 : faultM T F = 0) (h : TA w.heap.size w T fa fc ra rc ba bc) (hF : Ints w.heap.size w F (.slice xa F.length xc)) :
    Calls Tryz.prog 31 #[tv T fa fc ra rc ba bc, .slice xa F.length xc] w fun e w' => ∃ (ma : Option Addr) (m : List Int) (k : Nat), e = .returned (.tuple #[.slice ma T.lits.toNat T.lits.toNat, .int .i64 0]) ∧ (Sol T F m k ∧ m.length = T.lits.toNat ∧ At1 w' ma (u8s m)) ∧ Below w.heap.size w w' := by
  have hB := below_new w (.cells #[.int .i64 T.lits, .slice fa T.foes.length fc, .slice ra T.rules.length rc, .slice ba T.beats.length bc] 25)
  have hX := heap_alloc_new w (.cells #[.int .i64 T.lits, .slice fa T.foes.length fc, .slice ra T.rules.length rc, .slice ba T.beats.length bc] 25)
  have HL := hide (TR.go hB h)
  have HF := hide (Ints.go hB hF)
  have CG := hide (given_any HL.out HF.out)
  rw [h0] at CG
  have HP := hide (pf_of h0)
  have HB := hide hB
  clear h hF hB h0
  go_enter Tryz.func31, Tryz.ntmps31
  go_upto_region 1 with fail
  generalize w.alloc (.cells #[.int .i64 T.lits, .slice fa T.foes.length fc, .slice ra T.rules.length rc, .slice ba T.beats.length bc] 25) = W at *
  obtain ⟨-, c0, c1, c2, c3⟩ := Bt.of hX
  have HX := hide hX
  clear hX
  go_upto_region 4 with (go_at_call 50; refine CG.out.mono ?_; rintro _ w1 ⟨rfl, hw1⟩; have HW1 := hide hw1; clear hw1)
  clear c0 c1 c2 c3 CG
  obtain ⟨-, c0, c1, c2, c3⟩ := Bt.of ((HW1.out.block _ (loc_lt HX.out)).trans HX.out)
  have CR := hide (rrun_any HP.out (TR.go HW1.out HL.out) (Ints.go HW1.out HF.out))
  have HBW := hide (fun (X : World) (hX : Below w1.heap.size w1 X) => HB.out.trans ((HW1.out.trans (hX.mono HW1.out.size)).mono HB.out.size))
  clear HX HW1 HL HF HP
  go_wp2_with (go_at_call 51; refine CR.out.mono ?_; rintro _ w2 ⟨ma, m, k, rfl, hm, hw2⟩; have HM := hide hm; have HW2 := hide (HBW.out w2 hw2); clear hm hw2)
  go_ret2
  exact ⟨_, m, k, rfl, HM.out, HW2.out⟩
set_option maxRecDepth 100000 in
set_option maxHeartbeats 6400000 in
theorem rsolve_bad (h0 : faultM T F ≠ 0) (h : TA w.heap.size w T fa fc ra rc ba bc) (hF : Ints w.heap.size w F (.slice xa F.length xc)) :
    Calls Tryz.prog 31 #[tv T fa fc ra rc ba bc, .slice xa F.length xc] w fun e w' => e = .returned (.tuple #[.slice none 0 0, .int .i64 (faultM T F)]) ∧ Below w.heap.size w w' := by
  have hB := below_new w (.cells #[.int .i64 T.lits, .slice fa T.foes.length fc, .slice ra T.rules.length rc, .slice ba T.beats.length bc] 25)
  have hX := heap_alloc_new w (.cells #[.int .i64 T.lits, .slice fa T.foes.length fc, .slice ra T.rules.length rc, .slice ba T.beats.length bc] 25)
  have CG := hide (given_any (TR.go hB h) (Ints.go hB hF))
  have HB := hide hB
  generalize faultM T F = z at *
  have hzb : (z != 0) = true := by simpa using h0
  clear h hF hB h0
  go_enter Tryz.func31, Tryz.ntmps31
  go_upto_region 1 with fail
  generalize w.alloc (.cells #[.int .i64 T.lits, .slice fa T.foes.length fc, .slice ra T.rules.length rc, .slice ba T.beats.length bc] 25) = W at *
  obtain ⟨-, c0, c1, c2, c3⟩ := Bt.of hX
  clear hX
  go_wp2_with (go_at_call 50; refine CG.out.mono ?_; rintro _ w1 ⟨rfl, hw1⟩; have HW1 := hide (HB.out.trans (hw1.mono HB.out.size)); clear hw1)
  go_ret2
  exact ⟨rfl, HW1.out⟩
end
end Go.Proofs.YtcobmbclhhimjaaGreat.Rf
/- The document's answer, layer 16: Run, Has, Tags, Total. -/
namespace Go.Proofs.YtcobmbclhhimjaaGreat.Rf
open Go.RowKit

def tagsTo (x : Int) : Nat → Nat
  | 0 => 0
  | k + 1 => tagsTo x k + Fa.b2n (hb x ((k + 1 : Nat) : Int))
theorem tagsTo_le {x : Int} : ∀ {k : Nat}, tagsTo x k ≤ k
  | 0 => Nat.le_refl _
  | k + 1 => by
    have := tagsTo_le (x := x) (k := k)
    have := Fa.b2n_le (hb x ((k + 1 : Nat) : Int))
    unfold tagsTo
    omega
theorem tagsTo_cnt {m : List Int} {q : Nat} : tagsTo (m.getD q 0) 4 = Fa.cntT m q := by
  unfold Fa.cntT hs
  rw [Int.toNat_natCast]
  show 0 + Fa.b2n (hb (m.getD q 0) 1) + Fa.b2n (hb (m.getD q 0) 2) + Fa.b2n (hb (m.getD q 0) 3) + Fa.b2n (hb (m.getD q 0) 4) = _
  rw [Nat.zero_add]
section
variable {w : World}
set_option maxRecDepth 100000 in
set_option maxHeartbeats 3200000 in
theorem rhas_any {x t : Int} (ht : isTag t) : Calls Tryz.prog 37 #[.int .u8 x, .int .i64 t] w fun e w' => e = .returned (.bool (hb x t)) ∧ w' = w := by
  have CB := hide (rbit_any (w := w) ht)
  have HO : Hid ((bits .and .u8 x (bitM t) != 0) = hb x t) := hide rfl
  generalize hb x t = o at *
  generalize bitM t = y at *
  clear ht
  go_enter Tryz.func37, Tryz.ntmps37
  go_wp2_with (go_at_call 45; refine CB.out.mono ?_; rintro _ w1 ⟨rfl, hw⟩; subst w1)
  go_ret
  exact ⟨ret_bool HO.out, rfl⟩
set_option maxRecDepth 100000 in
set_option maxHeartbeats 3200000 in
theorem rtags_any {x : Int} : Calls Tryz.prog 32 #[.int .u8 x] w fun e w' => e = .returned (.int .i64 (tagsTo x 4 : Nat)) ∧ w' = w := by
  go_enter Tryz.func32, Tryz.ntmps32
  go_wp2_with fail
  go_loop [3, 4] (fun y z => ∃ (k s : Nat), k ≤ 4 ∧ z = .int .i64 (k + 1 : Nat) ∧ y = .int .i64 s ∧ s ≤ 4 ∧ Hid (s = tagsTo x k)) (fun _ z => 5 - (intOf z).toNat)
  case atStart => exact ⟨0, 0, by omega, rfl, rfl, by omega, hide rfl⟩
  case round =>
    obtain ⟨k, s, hk4, rfl, rfl, hs4, HS⟩ := hrel
    by_cases hk : k < 4
    · have CH := hide (rhas_any (w := w) (x := x) (t := ((k + 1 : Nat) : Int)) (by unfold isTag; omega))
      have hkt : (((k + 1 : Nat) : Int)) ≤ 4 := by omega
      have HT : Hid (tagsTo x (k + 1) = s + Fa.b2n (hb x ((k + 1 : Nat) : Int))) := hide (by rw [HS.out]; rfl)
      have hle := tagsTo_le (x := x) (k := k + 1)
      cases hh : hb x ((k + 1 : Nat) : Int) with
      | true =>
        have HN : Hid (s + 1 = tagsTo x (k + 1)) := hide (by rw [HT.out, hh]; rfl)
        have hs5 : s + 1 ≤ 4 := by have := HN.out; omega
        rw [hh] at CH
        clear HS HT hh hle
        go_wp2_with (go_at_call 37; refine CH.out.mono ?_; rintro _ w1 ⟨rfl, hw⟩; subst w1)
        go_round
        case rel => exact ⟨k + 1, s + 1, by omega, by go_num, by go_num, hs5, HN⟩
        case measure => simp [intOf]; omega
      | false =>
        have HN : Hid (s = tagsTo x (k + 1)) := hide (by rw [HT.out, hh]; rfl)
        rw [hh] at CH
        clear HS HT hh hle
        go_wp2_with (go_at_call 37; refine CH.out.mono ?_; rintro _ w1 ⟨rfl, hw⟩; subst w1)
        go_round
        case rel => exact ⟨k + 1, s, by omega, by go_num, rfl, hs4, HN⟩
        case measure => simp [intOf]; omega
    · have hk5 : k = 4 := by omega
      subst hk5
      have HE : Hid ((s : Int) = ((tagsTo x 4 : Nat) : Int)) := hide (by rw [← HS.out])
      go_wp2_with fail
      go_ret
      exact ⟨rf_int HE.out, rfl⟩
set_option maxRecDepth 100000 in
set_option maxHeartbeats 3200000 in
theorem rtotal_any {m : List Int} {n : Nat} {ma : Option Addr} {mc : Nat} (hm : At1 w ma (u8s m)) (hml : m.length = n) (hn4 : n ≤ 4096) :
    Calls Tryz.prog 13 #[.slice ma n mc] w fun e w' => e = .returned (.int .i64 (Fa.cntF m n : Nat)) ∧ w' = w := by
  have HM := hide hm
  have HML := hide hml
  clear hm hml
  go_enter Tryz.func13, Tryz.ntmps13
  go_wp2_with fail
  go_loop [3, 4] (fun y z => ∃ (k s : Nat), k ≤ n ∧ z = .int .i64 k ∧ y = .int .i64 s ∧ s ≤ 4 * k ∧ Hid (s = Fa.cntF m k)) (fun _ z => n - (intOf z).toNat)
  case atStart => exact ⟨0, 0, by omega, rfl, rfl, by omega, hide rfl⟩
  case round =>
    obtain ⟨k, s, hk, rfl, rfl, hs4, HS⟩ := hrel
    by_cases hlt : k < n
    · obtain ⟨g, o, rfl, cm⟩ := HM.out k _ (u8s_at (by rw [HML.out]; exact hlt))
      have CT := hide (rtags_any (w := w) (x := m.getD k 0))
      have hle := tagsTo_le (x := m.getD k 0) (k := 4)
      have HN : Hid (s + tagsTo (m.getD k 0) 4 = Fa.cntF m (k + 1)) := hide (by rw [HS.out, tagsTo_cnt]; rfl)
      generalize tagsTo (m.getD k 0) 4 = tg at *
      generalize m.getD k 0 = x at *
      clear HS
      go_wp2_with (go_at_call 32; refine CT.out.mono ?_; rintro _ w1 ⟨rfl, hw⟩; subst w1)
      go_round
      case rel => exact ⟨k + 1, s + tg, by omega, by go_num, by go_num, by omega, HN⟩
      case measure => simp [intOf]; omega
    · have HE : Hid ((s : Int) = ((Fa.cntF m n : Nat) : Int)) := hide (by rw [HS.out, show k = n by omega])
      go_wp2_with fail
      go_ret
      exact ⟨rf_int HE.out, rfl⟩
end
section
variable {w : World} {T : Th} {F : List Int} {fa ra ba xa : Option Addr} {fc rc bc xc : Nat}
set_option maxRecDepth 100000 in
set_option maxHeartbeats 6400000 in
theorem rRun_ok (h0 : faultM T F = 0) (h : TA w.heap.size w T fa fc ra rc ba bc) (hF : Ints w.heap.size w F (.slice xa F.length xc)) :
    Calls Tryz.prog 10 #[tv T fa fc ra rc ba bc, .slice xa F.length xc] w fun e w' => ∃ (ma : Option Addr) (m : List Int) (k : Nat), e = .returned (.tuple #[.slice ma T.lits.toNat T.lits.toNat, .int .i64 0]) ∧ (Sol T F m k ∧ m.length = T.lits.toNat ∧ At1 w' ma (u8s m)) ∧ Below w.heap.size w w' := by
  have hB := below_new w (.cells #[.int .i64 T.lits, .slice fa T.foes.length fc, .slice ra T.rules.length rc, .slice ba T.beats.length bc] 25)
  have hX := heap_alloc_new w (.cells #[.int .i64 T.lits, .slice fa T.foes.length fc, .slice ra T.rules.length rc, .slice ba T.beats.length bc] 25)
  have CS := hide (rsolve_ok h0 (TR.go hB h) (Ints.go hB hF))
  have HB := hide hB
  clear h hF hB h0
  go_enter Tryz.func10, Tryz.ntmps10
  go_upto_region 1 with fail
  generalize w.alloc (.cells #[.int .i64 T.lits, .slice fa T.foes.length fc, .slice ra T.rules.length rc, .slice ba T.beats.length bc] 25) = W at *
  obtain ⟨-, c0, c1, c2, c3⟩ := Bt.of hX
  clear hX
  go_wp2_with (go_at_call 31; refine CS.out.mono ?_; rintro _ w2 ⟨ma, m, k, rfl, hm, hw2⟩; have HM := hide hm; have HW2 := hide (HB.out.trans (hw2.mono HB.out.size)); clear hm hw2)
  go_ret2
  exact ⟨_, m, k, rfl, HM.out, HW2.out⟩
set_option maxRecDepth 100000 in
set_option maxHeartbeats 6400000 in
theorem rRun_bad (h0 : faultM T F ≠ 0) (h : TA w.heap.size w T fa fc ra rc ba bc) (hF : Ints w.heap.size w F (.slice xa F.length xc)) :
    Calls Tryz.prog 10 #[tv T fa fc ra rc ba bc, .slice xa F.length xc] w fun e w' => e = .returned (.tuple #[.slice none 0 0, .int .i64 (faultM T F)]) ∧ Below w.heap.size w w' := by
  have hB := below_new w (.cells #[.int .i64 T.lits, .slice fa T.foes.length fc, .slice ra T.rules.length rc, .slice ba T.beats.length bc] 25)
  have hX := heap_alloc_new w (.cells #[.int .i64 T.lits, .slice fa T.foes.length fc, .slice ra T.rules.length rc, .slice ba T.beats.length bc] 25)
  have CS := hide (rsolve_bad h0 (TR.go hB h) (Ints.go hB hF))
  have HB := hide hB
  generalize faultM T F = z at *
  clear h hF hB h0
  go_enter Tryz.func10, Tryz.ntmps10
  go_upto_region 1 with fail
  generalize w.alloc (.cells #[.int .i64 T.lits, .slice fa T.foes.length fc, .slice ra T.rules.length rc, .slice ba T.beats.length bc] 25) = W at *
  obtain ⟨-, c0, c1, c2, c3⟩ := Bt.of hX
  clear hX
  go_wp2_with (go_at_call 31; refine CS.out.mono ?_; rintro _ w2 ⟨rfl, hw2⟩; have HW2 := hide (HB.out.trans (hw2.mono HB.out.size)); clear hw2)
  go_ret2
  exact ⟨rfl, HW2.out⟩
end
end Go.Proofs.YtcobmbclhhimjaaGreat.Rf
