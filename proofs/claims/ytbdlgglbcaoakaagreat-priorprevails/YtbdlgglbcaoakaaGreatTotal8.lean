/- Totals. -/
import Derived.Test.YtbdlgglbcaoakaaGreatPred8
namespace Go.Proofs.YtbdlgglbcaoakaaGreat
open Go.RowKit Go.Shelf Go.Maps Go.WideMaps

theorem bind_assoc3 {α β γ : Type} {x : Er α} {f : α → Er β} {g : β → Er γ} {o : Er γ} (h : ((x >>= f) >>= g) = o) : (x >>= fun a => f a >>= g) = o := by rw [← h]; cases x <;> rfl
section
variable {R : Nat} {S : StatM} {st : St9} {mp : Mp8} {it : Nat} {seen : List Bytes} {w : World}
def oneM (C : Ctx) (t : TotalM) (i : Nat) (s : Bytes) : Er Unit := findPredM C s >>= fun p => wantM (decide (p.sort = 3)) 84 >>= fun _ => wantM (decide ((p.kinds.length : Int) = 1) && decide (p.kinds.getD 0 [] = t.kind)) 83 >>= fun _ => wantM (!decide (s ∈ t.preds.take i)) 6

set_option maxRecDepth 100000 in
set_option maxHeartbeats 6400000 in
theorem total_any (h : Res R S st mp it seen w) (n : Nat) (t : TotalM) {ka : Option Addr} {kc : Nat} (h1 : t.name.length ≤ maxLen) (h2 : t.kind.length ≤ maxLen) (hk : Strs R w t.preds (.slice ka t.preds.length kc)) :
    Calls Tryz.prog 76 #[ptr R, .int .i64 n, .agg #[.string ⟨t.name.toArray⟩, .string ⟨t.kind.toArray⟩, .slice ka t.preds.length kc, .bool t.hasCap, .int .i64 t.cap]] w fun e w' => Ed w it rU (totalM S.ctx S.sums n t) e w' := by
  have hA : Below w.heap.size w (w.alloc (.cells #[.string ⟨t.name.toArray⟩, .string ⟨t.kind.toArray⟩, .slice ka t.preds.length kc, .bool t.hasCap, .int .i64 t.cap] 129)) := (Below.refl _ _).alloc (Nat.le_refl _) _
  have hR := h.below hA
  have hRl := loc_lt h.box
  have HRl := hide (show R < (w.alloc (.cells #[.string ⟨t.name.toArray⟩, .string ⟨t.kind.toArray⟩, .slice ka t.preds.length kc, .bool t.hasCap, .int .i64 t.cap] 129)).heap.size by have := hA.size; omega)
  have HRS := hide (fun X (hX : Below (w.alloc (.cells #[.string ⟨t.name.toArray⟩, .string ⟨t.kind.toArray⟩, .slice ka t.preds.length kc, .bool t.hasCap, .int .i64 t.cap] 129)).heap.size (w.alloc (.cells #[.string ⟨t.name.toArray⟩, .string ⟨t.kind.toArray⟩, .slice ka t.preds.length kc, .bool t.hasCap, .int .i64 t.cap] 129)) X) => hR.below hX)
  have HD := hide (fun X (hX : Below (w.alloc (.cells #[.string ⟨t.name.toArray⟩, .string ⟨t.kind.toArray⟩, .slice ka t.preds.length kc, .bool t.hasCap, .int .i64 t.cap] 129)).heap.size (w.alloc (.cells #[.string ⟨t.name.toArray⟩, .string ⟨t.kind.toArray⟩, .slice ka t.preds.length kc, .bool t.hasCap, .int .i64 t.cap] 129)) X) => hA.trans (hX.mono hA.size))
  have C := hide (fun X (hX : Lk (w.alloc (.cells #[.string ⟨t.name.toArray⟩, .string ⟨t.kind.toArray⟩, .slice ka t.preds.length kc, .bool t.hasCap, .int .i64 t.cap] 129)) X) => called_any (hR.like hX).c9 (hR.like hX).mT t.name h1 n)
  have CF := hide (fun X (hX : Lk (w.alloc (.cells #[.string ⟨t.name.toArray⟩, .string ⟨t.kind.toArray⟩, .slice ka t.preds.length kc, .bool t.hasCap, .int .i64 t.cap] 129)) X) => find_any (hR.like hX).c9 (hR.like hX).mK' t.kind h2 81)
  have CW := hide (fun X (hX : Below (w.alloc (.cells #[.string ⟨t.name.toArray⟩, .string ⟨t.kind.toArray⟩, .slice ka t.preds.length kc, .bool t.hasCap, .int .i64 t.cap] 129)).heap.size (w.alloc (.cells #[.string ⟨t.name.toArray⟩, .string ⟨t.kind.toArray⟩, .slice ka t.preds.length kc, .bool t.hasCap, .int .i64 t.cap] 129)) X) b c => want_any (hR.below hX).c9 b c)
  have HKS := hide (fun X (hX : Below (w.alloc (.cells #[.string ⟨t.name.toArray⟩, .string ⟨t.kind.toArray⟩, .slice ka t.preds.length kc, .bool t.hasCap, .int .i64 t.cap] 129)).heap.size (w.alloc (.cells #[.string ⟨t.name.toArray⟩, .string ⟨t.kind.toArray⟩, .slice ka t.preds.length kc, .bool t.hasCap, .int .i64 t.cap] 129)) X) => (hk.keep (w' := (w.alloc (.cells #[.string ⟨t.name.toArray⟩, .string ⟨t.kind.toArray⟩, .slice ka t.preds.length kc, .bool t.hasCap, .int .i64 t.cap] 129))) (fun g hg => hA.block g (by omega))).keep (w' := X) (fun g hg => hX.block g (by have := hA.size; omega)))
  obtain ⟨hkc, hkl⟩ : t.preds.length ≤ kc ∧ t.preds.length ≤ 140737488351232 := by obtain ⟨_, _, e, h, h'⟩ := hk.form; cases e; exact ⟨h, h'⟩
  have c10 := hR.c10
  have c16 := hR.c16
  have hbx := heap_alloc_new w (.cells #[.string ⟨t.name.toArray⟩, .string ⟨t.kind.toArray⟩, .slice ka t.preds.length kc, .bool t.hasCap, .int .i64 t.cap] 129)
  have HBX := hide hbx
  have b1 := cell_of_row _ w.heap.size 1 _ _ _ hbx
  have b2 := cell_of_row _ w.heap.size 2 _ _ _ hbx
  have b3 := cell_of_row _ w.heap.size 3 _ _ _ hbx
  have b4 := cell_of_row _ w.heap.size 4 _ _ _ hbx
  simp only [List.getElem?_toArray, List.getElem?_cons_zero, List.getElem?_cons_succ] at b1 b2 b3 b4
  obtain ⟨o, ho⟩ : ∃ o, totalM S.ctx S.sums n t = o := ⟨_, rfl⟩
  rw [ho]
  have HO := hide ho
  unfold totalM at HO
  unfold str at *
  clear h hA hR ho hk hRl hbx
  go_enter Tryz.func76, Tryz.ntmps76
  go_upto_region 1 with fail
  refine region_last (by kernel_rfl) (by kernel_rfl) (by kernel_rfl) (by kernel_rfl) (by kernel_rfl) ?_
  dsimp only [List.dropLast, List.getLast, List.cons_append, List.nil_append]
  repeat (go_big_quiet_step (fail))
  refine wpQuiet_nil ?_
  rintro _ ⟨nq, rfl⟩
  go_wp2_with fail
  refine (C.out _ .of).mono ?_
  intro e w1 hE
  rcases hE.no with ⟨c1, h3, rfl, hw⟩ | ⟨v1, h3, rfl, hw⟩
  · subst w1
    exact on_panic rfl (Ed.bad (ex_no HO.out h3) (HD.out _ (Lk.below .of)))
  subst w1
  have HO1 := hide (ex_go HO.out h3)
  clear hE h3 HO C
  go_upto_region 2 with fail
  refine region_last (by kernel_rfl) (by kernel_rfl) (by kernel_rfl) (by kernel_rfl) (by kernel_rfl) ?_
  dsimp only [List.dropLast, List.getLast, List.cons_append, List.nil_append]
  repeat (go_big_quiet_step (fail))
  refine wpQuiet_nil ?_
  rintro _ ⟨nq2, rfl⟩
  go_wp2_with fail
  refine (CF.out _ .of).mono ?_
  intro e w1 hE
  rcases hE.no with ⟨c1, h3, rfl, hw⟩ | ⟨v1, h3, rfl, hw⟩
  · subst w1
    exact on_panic rfl (Ed.bad (ex_no HO1.out h3) (HD.out _ (Lk.below .of)))
  subst w1
  have HO2 := hide (ex_go HO1.out h3)
  clear hE h3 HO1 CF
  by_cases hp1 : (t.preds.length : Int) < 1
  · have hp1' : ¬ (1 ≤ (t.preds.length : Int)) := by omega
    rw [decide_eq_false hp1', Bool.false_and] at HO2
    go_wp2_with fail
    refine (CW.out _ (Lk.below .of) _ _).mono ?_
    intro e w1 hE
    rcases hE.no with ⟨c1, h3, rfl, hw⟩ | ⟨_, h3, rfl, hw⟩
    · subst w1
      exact on_panic rfl (Ed.bad (ex_no HO2.out h3) (HD.out _ (Lk.below .of)))
    · cases h3
  have hp1' : 1 ≤ (t.preds.length : Int) := by omega
  rw [decide_eq_true hp1', Bool.true_and] at HO2
  go_wp2_with fail
  refine (CW.out _ (Lk.below .of) _ _).mono ?_
  intro e w1 hE
  rcases hE.no with ⟨c1, h3, rfl, hw⟩ | ⟨v1, h3, rfl, hw⟩
  · subst w1
    exact on_panic rfl (Ed.bad (ex_no HO2.out h3) (HD.out _ (Lk.below .of)))
  subst w1
  have HO3 := hide (ex_go HO2.out h3)
  clear hE h3 HO2
  have HZ : Hid ((allM (oneM S.ctx t) 0 (t.preds.drop 0) >>= fun _ => wantM (!t.hasCap || awardB t.cap) 22 >>= fun _ => wantM (t.hasCap || decide (t.cap = 0)) 1) = o) := HO3
  clear HO3
  go_wp2_with fail
  go_loopw [41] (fun x wr => ∃ k : Nat, k ≤ t.preds.length ∧ x = .int .i64 k ∧ Hid ((allM (oneM S.ctx t) k (t.preds.drop k) >>= fun _ => wantM (!t.hasCap || awardB t.cap) 22 >>= fun _ => wantM (t.hasCap || decide (t.cap = 0)) 1) = o) ∧ Hid (Below (w.alloc (.cells #[.string ⟨t.name.toArray⟩, .string ⟨t.kind.toArray⟩, .slice ka t.preds.length kc, .bool t.hasCap, .int .i64 t.cap] 129)).heap.size (w.alloc (.cells #[.string ⟨t.name.toArray⟩, .string ⟨t.kind.toArray⟩, .slice ka t.preds.length kc, .bool t.hasCap, .int .i64 t.cap] 129)) wr)) (fun x _ => t.preds.length - (intOf x).toNat)
  case atStart => exact ⟨0, by omega, rfl, HZ, hide (Lk.below .of)⟩
  case round =>
    obtain ⟨k, hk, rfl, HK, HB⟩ := hrel
    clear HZ
    have hw0 : w.heap.size < (w.alloc (.cells #[.string ⟨t.name.toArray⟩, .string ⟨t.kind.toArray⟩, .slice ka t.preds.length kc, .bool t.hasCap, .int .i64 t.cap] 129)).heap.size := by simp
    have d1 := (World.cell?_of_block (HB.out.block w.heap.size hw0)).trans b1
    have d2 := (World.cell?_of_block (HB.out.block w.heap.size hw0)).trans b2
    have d3 := (World.cell?_of_block (HB.out.block w.heap.size hw0)).trans b3
    have d4 := (World.cell?_of_block (HB.out.block w.heap.size hw0)).trans b4
    have hb0 : w.heap.size < wr.heap.size := Nat.lt_of_lt_of_le hw0 HB.out.size
    clear hw0
    by_cases hlt : k < t.preds.length
    · obtain ⟨x, hx⟩ : ∃ x, t.preds[k]? = some x := ⟨t.preds[k], List.getElem?_eq_getElem hlt⟩
      have hks := HKS.out wr HB.out
      obtain ⟨g, oo, rfl, hg, e0, hs⟩ := at_S hks hx
      have HS0 := hide (allM_step HK.out hx)
      unfold oneM at HS0
      have HS := hide (bind_assoc3 HS0.out)
      have HKR := hide hks
      have CP := hide (findPred_any (HRS.out wr HB.out) x hs)
      unfold str at e0 CP
      clear hx HK HS0 hks
      go_wp2_with fail
      refine CP.out.mono ?_
      intro e w1 hE
      rcases hE.no with ⟨c1, h3, rfl, hb⟩ | ⟨p, v, h3, rfl, hrp, hb⟩
      · exact ⟨rfl, Ed.bad (ex_no HS.out h3) (HD.out _ (HB.out.trans (hb.mono HB.out.size)))⟩
      obtain ⟨pa, pc, va, vc, rfl, hpn, hpk, hpv⟩ := hrp
      have hs2 := ex_go HS.out h3
      have HS2 := hide (bind_assoc3 hs2)
      have hA : Below w1.heap.size w1 (w1.alloc (.cells (predV p pa pc va vc) 119)) := (Below.refl _ _).alloc (Nat.le_refl _) _
      have hB2 : Below wr.heap.size wr (w1.alloc (.cells (predV p pa pc va vc) 119)) := hb.trans (hA.mono hb.size)
      have HB2 := hide (HB.out.trans (hB2.mono HB.out.size))
      have p1 := cell_of_row _ w1.heap.size 1 _ _ _ (heap_alloc_new w1 (.cells (predV p pa pc va vc) 119))
      have p2 := cell_of_row _ w1.heap.size 2 _ _ _ (heap_alloc_new w1 (.cells (predV p pa pc va vc) 119))
      simp only [predV, List.getElem?_toArray, List.getElem?_cons_zero, List.getElem?_cons_succ] at p1 p2
      have q1 := (World.cell?_of_block (hB2.block w.heap.size hb0)).trans d1
      have q2 := (World.cell?_of_block (hB2.block w.heap.size hb0)).trans d2
      have hRw : R < wr.heap.size := Nat.lt_of_lt_of_le HRl.out HB.out.size
      have hks2 := hpk.keep (w' := w1.alloc (.cells (predV p pa pc va vc) 119)) (fun g hg => hA.block g (by have := hb.size; omega))
      have HPK := hide hks2.at1
      have HAT := hide ((HKR.out.keep (w' := w1.alloc (.cells (predV p pa pc va vc) 119)) (fun g hg => hB2.block g (by omega))).at1)
      have HCW := hide (fun X (hX : Lk (w1.alloc (.cells (predV p pa pc va vc) 119)) X) => HB2.out.trans (hX.below.mono HB2.out.size))
      simp only [predV] at *
      clear hE h3 hs2 HS hb hA hB2 CP hpk hpv hpn e0 d1 d2 d3 d4 hks2 HKR
      go_wp2_with fail
      refine (CW.out _ HB2.out _ _).mono ?_
      intro e w2 hE
      rcases hE.no with ⟨c1, h3, rfl, hw⟩ | ⟨_, h3, rfl, hw⟩
      · subst w2
        exact ⟨rfl, Ed.bad (ex_no HS2.out h3) (HD.out _ HB2.out)⟩
      subst w2
      have hs3 := ex_go HS2.out h3
      have HS3 := hide (bind_assoc3 hs3)
      clear hE h3 HS2 hs3
      have hlm : (t.preds.take k).length = k := by simp; omega
      by_cases hk1 : (p.kinds.length : Int) = 1
      · have hk1n : p.kinds.length = 1 := by omega
        obtain ⟨g2, o2, hpa, f0⟩ := HPK.out.str (i := 0) (by omega)
        subst hpa
        rw [Nat.add_zero] at f0
        rw [decide_eq_true hk1, Bool.true_and] at HS3
        generalize p.kinds.getD 0 [] = kk at f0 HS3
        clear HPK hk1
        generalize p.kinds.length = kn at *
        subst kn
        go_upto_region 9 with fail
        refine region_last (by kernel_rfl) (by kernel_rfl) (by kernel_rfl) (by kernel_rfl) (by kernel_rfl) ?_
        dsimp only [List.dropLast, List.getLast, List.cons_append, List.nil_append]
        repeat (go_big_quiet_step (fail))
        refine wpQuiet_nil ?_
        rintro _ ⟨nq3, rfl⟩
        rw [show decide (kk = t.kind) = (kk == t.kind) from by rw [Bool.eq_iff_iff]; simp] at HS3
        go_wp2_with fail
        refine (CW.out _ (HCW.out _ .of) _ _).mono ?_
        intro e w2 hE
        rcases hE.no with ⟨c1, h3, rfl, hw⟩ | ⟨_, h3, rfl, hw⟩
        · subst w2
          exact ⟨rfl, Ed.bad (ex_no HS3.out h3) (HD.out _ (HCW.out _ .of))⟩
        subst w2
        have HS4 := hide (ex_go HS3.out h3)
        clear hE h3 HS3
        generalize hbx : decide (x ∈ t.preds.take k) = bx at HS4
        have CH := hide (fun X (hX : Lk (w1.alloc (.cells #[.string ⟨p.name.toArray⟩, .int .i64 p.sort, .slice (some ⟨g2, o2, none⟩) 1 pc, .slice va p.values.length vc] 119)) X) => hasS_any (w := X) (c := kc) ((HAT.out.like hX).takeS k) (by rw [hlm]; omega) x)
        rw [hlm, hbx] at CH
        unfold str at CH
        clear hbx hlm
        go_wp2_with (go_at_call 103; refine (CH.out _ .of).mono ?_; rintro _ wn ⟨rfl, hwn⟩; subst wn)
        refine (CW.out _ (HCW.out _ .of) _ _).mono ?_
        intro e w2 hE
        rcases hE.no with ⟨c1, h3, rfl, hw⟩ | ⟨_, h3, rfl, hw⟩
        · subst w2
          exact ⟨rfl, Ed.bad (ex_no HS4.out h3) (HD.out _ (HCW.out _ .of))⟩
        subst w2
        have HS5 := hide (ex_go HS4.out h3)
        clear hE h3 HS4 CH
        go_wp2_with fail
        go_roundw
        case rel => exact ⟨k + 1, by omega, by go_num, HS5, hide (HCW.out _ .of)⟩
        case measure => simp [intOf]; omega
      · rw [decide_eq_false hk1, Bool.false_and] at HS3
        have hk1b : ((p.kinds.length : Int) == 1) = false := beq_eq_false_iff_ne.2 hk1
        go_upto_region 9 with fail
        refine region_last (by kernel_rfl) (by kernel_rfl) (by kernel_rfl) (by kernel_rfl) (by kernel_rfl) ?_
        dsimp only [List.dropLast, List.getLast, List.cons_append, List.nil_append]
        repeat (go_big_quiet_step (fail))
        refine wpQuiet_nil ?_
        rintro _ ⟨nq3, rfl⟩
        go_wp2_with fail
        refine (CW.out _ (HCW.out _ .of) _ _).mono ?_
        intro e w2 hE
        rcases hE.no with ⟨c1, h3, rfl, hw⟩ | ⟨_, h3, rfl, hw⟩
        · subst w2
          exact ⟨rfl, Ed.bad (ex_no HS3.out h3) (HD.out _ (HCW.out _ .of))⟩
        · cases h3
    · have HO9 := hide (allM_end HK.out (by omega))
      have CA := hide (award_any t.cap wr)
      clear HK
      cases hcap : t.hasCap with
      | true =>
        rw [hcap] at HO9 d3
        rw [Bool.not_true, Bool.false_or, Bool.true_or] at HO9
        go_wp2_with (go_at_call 96; refine CA.out.mono ?_; rintro _ wn ⟨rfl, hwn⟩; subst wn)
        refine (CW.out _ HB.out _ _).mono ?_
        intro e w2 hE
        rcases hE.no with ⟨c1, h3, rfl, hw⟩ | ⟨_, h3, rfl, hw⟩
        · subst w2
          exact ⟨rfl, Ed.bad (ex_no HO9.out h3) (HD.out _ HB.out)⟩
        subst w2
        have HO10 := hide (ex_go HO9.out h3)
        clear hE h3 HO9 CA
        go_wp2_with fail
        refine (CW.out _ HB.out _ _).mono ?_
        intro e w2 hE
        rcases hE.no with ⟨c1, h3, rfl, hw⟩ | ⟨_, h3, rfl, hw⟩
        · subst w2
          exact ⟨rfl, Ed.bad (h3.symm.trans HO10.out) (HD.out _ HB.out)⟩
        subst w2
        go_wp2_with fail
        go_end0
        exact Ed.ok (h3.symm.trans HO10.out) rfl (HD.out _ HB.out)
      | false =>
        rw [hcap] at HO9 d3
        rw [Bool.not_false, Bool.true_or, Bool.false_or] at HO9
        go_wp2_with fail
        refine (CW.out _ HB.out _ _).mono ?_
        intro e w2 hE
        rcases hE.no with ⟨c1, h3, rfl, hw⟩ | ⟨_, h3, rfl, hw⟩
        · subst w2
          exact ⟨rfl, Ed.bad (ex_no HO9.out h3) (HD.out _ HB.out)⟩
        subst w2
        have HO10 := hide (ex_go HO9.out h3)
        clear hE h3 HO9 CA
        go_wp2_with fail
        refine (CW.out _ HB.out _ _).mono ?_
        intro e w2 hE
        rcases hE.no with ⟨c1, h3, rfl, hw⟩ | ⟨_, h3, rfl, hw⟩
        · subst w2
          exact ⟨rfl, Ed.bad (h3.symm.trans HO10.out) (HD.out _ HB.out)⟩
        subst w2
        go_wp2_with fail
        go_end0
        exact Ed.ok (h3.symm.trans HO10.out) rfl (HD.out _ HB.out)
end
end Go.Proofs.YtbdlgglbcaoakaaGreat
