/- Totals. -/
import Derived.Test.YtfnobccminhjpaaGreatPred8
namespace Go.Proofs.YtfnobccminhjpaaGreat
open Go.RowKit Go.Shelf Go.Maps Go.WideMaps

theorem bind_assoc3 {α β γ : Type} {x : Er α} {f : α → Er β} {g : β → Er γ} {o : Er γ} (h : ((x >>= f) >>= g) = o) : (x >>= fun a => f a >>= g) = o := by rw [← h]; cases x <;> rfl
section
variable {R : Nat} {S : StatM} {st : St9} {mp : Mp8} {it : Nat} {seen : List Bytes} {w : World}
def oneM (C : Ctx) (t : TotalM) (i : Nat) (s : Bytes) : Er Unit := findPredM C s >>= fun p => wantM (decide (p.sort = 3)) 84 >>= fun _ => wantM (decide ((p.kinds.length : Int) = 1) && decide (p.kinds.getD 0 [] = t.kind)) 83 >>= fun _ => wantM (!decide (s ∈ t.preds.take i)) 6

set_option maxRecDepth 100000 in
set_option maxHeartbeats 6400000 in
theorem total_any (h : Res R S st mp it seen w) (n : Nat) (t : TotalM) {ka : Option Addr} {kc : Nat} (h1 : t.name.length ≤ maxLen) (h2 : t.kind.length ≤ maxLen) (hk : Strs R w t.preds (.slice ka t.preds.length kc)) :
    Calls Tryz.prog 152 #[ptr R, .int .i64 n, .agg #[.string ⟨t.name.toArray⟩, .string ⟨t.kind.toArray⟩, .slice ka t.preds.length kc, .bool t.hasCap, .int .i64 t.cap]] w fun e w' => Ed w it rU (totalM S.ctx S.sums n t) e w' := by
  have hA : Below w.heap.size w (w.alloc (.cells #[.string ⟨t.name.toArray⟩, .string ⟨t.kind.toArray⟩, .slice ka t.preds.length kc, .bool t.hasCap, .int .i64 t.cap] 142)) := (Below.refl _ _).alloc (Nat.le_refl _) _
  have hR := h.below hA
  have hRl := loc_lt h.box
  have HRl := hide (show R < (w.alloc (.cells #[.string ⟨t.name.toArray⟩, .string ⟨t.kind.toArray⟩, .slice ka t.preds.length kc, .bool t.hasCap, .int .i64 t.cap] 142)).heap.size by have := hA.size; omega)
  have HRS := hide (fun X (hX : Below (w.alloc (.cells #[.string ⟨t.name.toArray⟩, .string ⟨t.kind.toArray⟩, .slice ka t.preds.length kc, .bool t.hasCap, .int .i64 t.cap] 142)).heap.size (w.alloc (.cells #[.string ⟨t.name.toArray⟩, .string ⟨t.kind.toArray⟩, .slice ka t.preds.length kc, .bool t.hasCap, .int .i64 t.cap] 142)) X) => hR.below hX)
  have HD := hide (fun X (hX : Below (w.alloc (.cells #[.string ⟨t.name.toArray⟩, .string ⟨t.kind.toArray⟩, .slice ka t.preds.length kc, .bool t.hasCap, .int .i64 t.cap] 142)).heap.size (w.alloc (.cells #[.string ⟨t.name.toArray⟩, .string ⟨t.kind.toArray⟩, .slice ka t.preds.length kc, .bool t.hasCap, .int .i64 t.cap] 142)) X) => hA.trans (hX.mono hA.size))
  have C := hide (fun X (hX : Lk (w.alloc (.cells #[.string ⟨t.name.toArray⟩, .string ⟨t.kind.toArray⟩, .slice ka t.preds.length kc, .bool t.hasCap, .int .i64 t.cap] 142)) X) => called_any (hR.like hX).c9 (hR.like hX).mT t.name h1 n)
  have CF := hide (fun X (hX : Lk (w.alloc (.cells #[.string ⟨t.name.toArray⟩, .string ⟨t.kind.toArray⟩, .slice ka t.preds.length kc, .bool t.hasCap, .int .i64 t.cap] 142)) X) => find_any (hR.like hX).c9 (hR.like hX).mK' t.kind h2 81)
  have CW := hide (fun X (hX : Below (w.alloc (.cells #[.string ⟨t.name.toArray⟩, .string ⟨t.kind.toArray⟩, .slice ka t.preds.length kc, .bool t.hasCap, .int .i64 t.cap] 142)).heap.size (w.alloc (.cells #[.string ⟨t.name.toArray⟩, .string ⟨t.kind.toArray⟩, .slice ka t.preds.length kc, .bool t.hasCap, .int .i64 t.cap] 142)) X) b c => want_any (hR.below hX).c9 b c)
  have HKS := hide (fun X (hX : Below (w.alloc (.cells #[.string ⟨t.name.toArray⟩, .string ⟨t.kind.toArray⟩, .slice ka t.preds.length kc, .bool t.hasCap, .int .i64 t.cap] 142)).heap.size (w.alloc (.cells #[.string ⟨t.name.toArray⟩, .string ⟨t.kind.toArray⟩, .slice ka t.preds.length kc, .bool t.hasCap, .int .i64 t.cap] 142)) X) => (hk.keep (w' := (w.alloc (.cells #[.string ⟨t.name.toArray⟩, .string ⟨t.kind.toArray⟩, .slice ka t.preds.length kc, .bool t.hasCap, .int .i64 t.cap] 142))) (fun g hg => hA.block g (by omega))).keep (w' := X) (fun g hg => hX.block g (by have := hA.size; omega)))
  obtain ⟨hkc, hkl⟩ : t.preds.length ≤ kc ∧ t.preds.length ≤ 140737488351232 := by obtain ⟨_, _, e, h, h'⟩ := hk.form; cases e; exact ⟨h, h'⟩
  have c10 := hR.c10
  have c16 := hR.c16
  have hbx := heap_alloc_new w (.cells #[.string ⟨t.name.toArray⟩, .string ⟨t.kind.toArray⟩, .slice ka t.preds.length kc, .bool t.hasCap, .int .i64 t.cap] 142)
  have HBX := hide hbx
  have b1 := cell_of_row _ w.heap.size 1 _ _ _ hbx
  have b2 := cell_of_row _ w.heap.size 2 _ _ _ hbx
  have b3 := cell_of_row _ w.heap.size 3 _ _ _ hbx
  have b4 := cell_of_row _ w.heap.size 4 _ _ _ hbx
  simp only [List.getElem?_toArray, List.getElem?_cons_zero, List.getElem?_cons_succ] at b1 b2 b3 b4
  obtain ⟨o, ho⟩ : ∃ o, totalM S.ctx S.sums n t = o := ⟨_, rfl⟩
  rw [ho]
  have HO := hide ho
  unfold totalM at HO
  unfold str at *
  clear h hA hR ho hk hRl hbx
  go_enter Tryz.func152, Tryz.ntmps152
  go_upto_region 1 with fail
  refine region_last (by kernel_rfl) (by kernel_rfl) (by kernel_rfl) (by kernel_rfl) (by kernel_rfl) ?_
  dsimp only [List.dropLast, List.getLast, List.cons_append, List.nil_append]
  repeat (go_big_quiet_step (fail))
  refine wpQuiet_nil ?_
  rintro _ ⟨nq, rfl⟩
  go_wp2_with fail
  refine (C.out _ .of).mono ?_
  intro e w1 hE
  rcases hE.no with ⟨c1, h3, rfl, hw⟩ | ⟨v1, h3, rfl, hw⟩
  · subst w1
    exact on_panic rfl (Ed.bad (ex_no HO.out h3) (HD.out _ (Lk.below .of)))
  subst w1
  have HO1 := hide (ex_go HO.out h3)
  clear hE h3 HO C
  go_upto_region 2 with fail
  refine region_last (by kernel_rfl) (by kernel_rfl) (by kernel_rfl) (by kernel_rfl) (by kernel_rfl) ?_
  dsimp only [List.dropLast, List.getLast, List.cons_append, List.nil_append]
  repeat (go_big_quiet_step (fail))
  refine wpQuiet_nil ?_
  rintro _ ⟨nq2, rfl⟩
  go_wp2_with fail
  refine (CF.out _ .of).mono ?_
  intro e w1 hE
  rcases hE.no with ⟨c1, h3, rfl, hw⟩ | ⟨v1, h3, rfl, hw⟩
  · subst w1
    exact on_panic rfl (Ed.bad (ex_no HO1.out h3) (HD.out _ (Lk.below .of)))
  subst w1
  have HO2 := hide (ex_go HO1.out h3)
  clear hE h3 HO1 CF
  by_cases hp1 : (t.preds.length : Int) < 1
  · have hp1' : ¬ (1 ≤ (t.preds.length : Int)) := by omega
    rw [decide_eq_false hp1', Bool.false_and] at HO2
    go_wp2_with fail
    refine (CW.out _ (Lk.below .of) _ _).mono ?_
    intro e w1 hE
    rcases hE.no with ⟨c1, h3, rfl, hw⟩ | ⟨_, h3, rfl, hw⟩
    · subst w1
      exact on_panic rfl (Ed.bad (ex_no HO2.out h3) (HD.out _ (Lk.below .of)))
    · cases h3
  have hp1' : 1 ≤ (t.preds.length : Int) := by omega
  rw [decide_eq_true hp1', Bool.true_and] at HO2
  go_wp2_with fail
  refine (CW.out _ (Lk.below .of) _ _).mono ?_
  intro e w1 hE
  rcases hE.no with ⟨c1, h3, rfl, hw⟩ | ⟨v1, h3, rfl, hw⟩
  · subst w1
    exact on_panic rfl (Ed.bad (ex_no HO2.out h3) (HD.out _ (Lk.below .of)))
  subst w1
  have HO3 := hide (ex_go HO2.out h3)
  clear hE h3 HO2
  have HZ : Hid ((allM (oneM S.ctx t) 0 (t.preds.drop 0) >>= fun _ => wantM (!t.hasCap || awardB t.cap) 22 >>= fun _ => wantM (t.hasCap || decide (t.cap = 0)) 1) = o) := HO3
  clear HO3
  go_wp2_with fail
  go_loopw [41] (fun x wr => ∃ k : Nat, k ≤ t.preds.length ∧ x = .int .i64 k ∧ Hid ((allM (oneM S.ctx t) k (t.preds.drop k) >>= fun _ => wantM (!t.hasCap || awardB t.cap) 22 >>= fun _ => wantM (t.hasCap || decide (t.cap = 0)) 1) = o) ∧ Hid (Below (w.alloc (.cells #[.string ⟨t.name.toArray⟩, .string ⟨t.kind.toArray⟩, .slice ka t.preds.length kc, .bool t.hasCap, .int .i64 t.cap] 142)).heap.size (w.alloc (.cells #[.string ⟨t.name.toArray⟩, .string ⟨t.kind.toArray⟩, .slice ka t.preds.length kc, .bool t.hasCap, .int .i64 t.cap] 142)) wr)) (fun x _ => t.preds.length - (intOf x).toNat)
  case atStart => exact ⟨0, by omega, rfl, HZ, hide (Lk.below .of)⟩
  case round =>
    obtain ⟨k, hk, rfl, HK, HB⟩ := hrel
    clear HZ
    have hw0 : w.heap.size < (w.alloc (.cells #[.string ⟨t.name.toArray⟩, .string ⟨t.kind.toArray⟩, .slice ka t.preds.length kc, .bool t.hasCap, .int .i64 t.cap] 142)).heap.size := by simp
    have d1 := (World.cell?_of_block (HB.out.block w.heap.size hw0)).trans b1
    have d2 := (World.cell?_of_block (HB.out.block w.heap.size hw0)).trans b2
    have d3 := (World.cell?_of_block (HB.out.block w.heap.size hw0)).trans b3
    have d4 := (World.cell?_of_block (HB.out.block w.heap.size hw0)).trans b4
    have hb0 : w.heap.size < wr.heap.size := Nat.lt_of_lt_of_le hw0 HB.out.size
    clear hw0
    by_cases hlt : k < t.preds.length
    · obtain ⟨x, hx⟩ : ∃ x, t.preds[k]? = some x := ⟨t.preds[k], List.getElem?_eq_getElem hlt⟩
      have hks := HKS.out wr HB.out
      obtain ⟨g, oo, rfl, hg, e0, hs⟩ := at_S hks hx
      have HS0 := hide (allM_step HK.out hx)
      unfold oneM at HS0
      have HS := hide (bind_assoc3 HS0.out)
      have HKR := hide hks
      have CP := hide (findPred_any (HRS.out wr HB.out) x hs)
      unfold str at e0 CP
      clear hx HK HS0 hks
      go_wp2_with fail
      refine CP.out.mono ?_
      intro e w1 hE
      rcases hE.no with ⟨c1, h3, rfl, hb⟩ | ⟨p, v, h3, rfl, hrp, hb⟩
      · exact ⟨rfl, Ed.bad (ex_no HS.out h3) (HD.out _ (HB.out.trans (hb.mono HB.out.size)))⟩
      obtain ⟨pa, pc, va, vc, rfl, hpn, hpk, hpv⟩ := hrp
      have hs2 := ex_go HS.out h3
      have HS2 := hide (bind_assoc3 hs2)
      have hA : Below w1.heap.size w1 (w1.alloc (.cells (predV p pa pc va vc) 132)) := (Below.refl _ _).alloc (Nat.le_refl _) _
      have hB2 : Below wr.heap.size wr (w1.alloc (.cells (predV p pa pc va vc) 132)) := hb.trans (hA.mono hb.size)
      have HB2 := hide (HB.out.trans (hB2.mono HB.out.size))
      have p1 := cell_of_row _ w1.heap.size 1 _ _ _ (heap_alloc_new w1 (.cells (predV p pa pc va vc) 132))
      have p2 := cell_of_row _ w1.heap.size 2 _ _ _ (heap_alloc_new w1 (.cells (predV p pa pc va vc) 132))
      simp only [predV, List.getElem?_toArray, List.getElem?_cons_zero, List.getElem?_cons_succ] at p1 p2
      have q1 := (World.cell?_of_block (hB2.block w.heap.size hb0)).trans d1
      have q2 := (World.cell?_of_block (hB2.block w.heap.size hb0)).trans d2
      have hRw : R < wr.heap.size := Nat.lt_of_lt_of_le HRl.out HB.out.size
      have hks2 := hpk.keep (w' := w1.alloc (.cells (predV p pa pc va vc) 132)) (fun g hg => hA.block g (by have := hb.size; omega))
      have HPK := hide hks2.at1
      have HAT := hide ((HKR.out.keep (w' := w1.alloc (.cells (predV p pa pc va vc) 132)) (fun g hg => hB2.block g (by omega))).at1)
      have HCW := hide (fun X (hX : Lk (w1.alloc (.cells (predV p pa pc va vc) 132)) X) => HB2.out.trans (hX.below.mono HB2.out.size))
      simp only [predV] at *
      clear hE h3 hs2 HS hb hA hB2 CP hpk hpv hpn e0 d1 d2 d3 d4 hks2 HKR
      go_wp2_with fail
      refine (CW.out _ HB2.out _ _).mono ?_
      intro e w2 hE
      rcases hE.no with ⟨c1, h3, rfl, hw⟩ | ⟨_, h3, rfl, hw⟩
      · subst w2
        exact ⟨rfl, Ed.bad (ex_no HS2.out h3) (HD.out _ HB2.out)⟩
      subst w2
      have hs3 := ex_go HS2.out h3
      have HS3 := hide (bind_assoc3 hs3)
      clear hE h3 HS2 hs3
      have hlm : (t.preds.take k).length = k := by simp; omega
      by_cases hk1 : (p.kinds.length : Int) = 1
      · have hk1n : p.kinds.length = 1 := by omega
        obtain ⟨g2, o2, hpa, f0⟩ := HPK.out.str (i := 0) (by omega)
        subst hpa
        rw [Nat.add_zero] at f0
        rw [decide_eq_true hk1, Bool.true_and] at HS3
        generalize p.kinds.getD 0 [] = kk at f0 HS3
        clear HPK hk1
        generalize p.kinds.length = kn at *
        subst kn
        go_upto_region 9 with fail
        refine region_last (by kernel_rfl) (by kernel_rfl) (by kernel_rfl) (by kernel_rfl) (by kernel_rfl) ?_
        dsimp only [List.dropLast, List.getLast, List.cons_append, List.nil_append]
        repeat (go_big_quiet_step (fail))
        refine wpQuiet_nil ?_
        rintro _ ⟨nq3, rfl⟩
        rw [show decide (kk = t.kind) = (kk == t.kind) from by rw [Bool.eq_iff_iff]; simp] at HS3
        go_wp2_with fail
        refine (CW.out _ (HCW.out _ .of) _ _).mono ?_
        intro e w2 hE
        rcases hE.no with ⟨c1, h3, rfl, hw⟩ | ⟨_, h3, rfl, hw⟩
        · subst w2
          exact ⟨rfl, Ed.bad (ex_no HS3.out h3) (HD.out _ (HCW.out _ .of))⟩
        subst w2
        have HS4 := hide (ex_go HS3.out h3)
        clear hE h3 HS3
        generalize hbx : decide (x ∈ t.preds.take k) = bx at HS4
        have CH := hide (fun X (hX : Lk (w1.alloc (.cells #[.string ⟨p.name.toArray⟩, .int .i64 p.sort, .slice (some ⟨g2, o2, none⟩) 1 pc, .slice va p.values.length vc] 132)) X) => hasS_any (w := X) (c := kc) ((HAT.out.like hX).takeS k) (by rw [hlm]; omega) x)
        rw [hlm, hbx] at CH
        unfold str at CH
        clear hbx hlm
        go_wp2_with (go_at_call 176; refine (CH.out _ .of).mono ?_; rintro _ wn ⟨rfl, hwn⟩; subst wn)
        refine (CW.out _ (HCW.out _ .of) _ _).mono ?_
        intro e w2 hE
        rcases hE.no with ⟨c1, h3, rfl, hw⟩ | ⟨_, h3, rfl, hw⟩
        · subst w2
          exact ⟨rfl, Ed.bad (ex_no HS4.out h3) (HD.out _ (HCW.out _ .of))⟩
        subst w2
        have HS5 := hide (ex_go HS4.out h3)
        clear hE h3 HS4 CH
        go_wp2_with fail
        go_roundw
        case rel => exact ⟨k + 1, by omega, by go_num, HS5, hide (HCW.out _ .of)⟩
        case measure => simp [intOf]; omega
      · rw [decide_eq_false hk1, Bool.false_and] at HS3
        have hk1b : ((p.kinds.length : Int) == 1) = false := beq_eq_false_iff_ne.2 hk1
        go_upto_region 9 with fail
        refine region_last (by kernel_rfl) (by kernel_rfl) (by kernel_rfl) (by kernel_rfl) (by kernel_rfl) ?_
        dsimp only [List.dropLast, List.getLast, List.cons_append, List.nil_append]
        repeat (go_big_quiet_step (fail))
        refine wpQuiet_nil ?_
        rintro _ ⟨nq3, rfl⟩
        go_wp2_with fail
        refine (CW.out _ (HCW.out _ .of) _ _).mono ?_
        intro e w2 hE
        rcases hE.no with ⟨c1, h3, rfl, hw⟩ | ⟨_, h3, rfl, hw⟩
        · subst w2
          exact ⟨rfl, Ed.bad (ex_no HS3.out h3) (HD.out _ (HCW.out _ .of))⟩
        · cases h3
    · have HO9 := hide (allM_end HK.out (by omega))
      have CA := hide (award_any t.cap wr)
      clear HK
      cases hcap : t.hasCap with
      | true =>
        rw [hcap] at HO9 d3
        rw [Bool.not_true, Bool.false_or, Bool.true_or] at HO9
        go_wp2_with (go_at_call 172; refine CA.out.mono ?_; rintro _ wn ⟨rfl, hwn⟩; subst wn)
        refine (CW.out _ HB.out _ _).mono ?_
        intro e w2 hE
        rcases hE.no with ⟨c1, h3, rfl, hw⟩ | ⟨_, h3, rfl, hw⟩
        · subst w2
          exact ⟨rfl, Ed.bad (ex_no HO9.out h3) (HD.out _ HB.out)⟩
        subst w2
        have HO10 := hide (ex_go HO9.out h3)
        clear hE h3 HO9 CA
        go_wp2_with fail
        refine (CW.out _ HB.out _ _).mono ?_
        intro e w2 hE
        rcases hE.no with ⟨c1, h3, rfl, hw⟩ | ⟨_, h3, rfl, hw⟩
        · subst w2
          exact ⟨rfl, Ed.bad (h3.symm.trans HO10.out) (HD.out _ HB.out)⟩
        subst w2
        go_wp2_with fail
        go_end0
        exact Ed.ok (h3.symm.trans HO10.out) rfl (HD.out _ HB.out)
      | false =>
        rw [hcap] at HO9 d3
        rw [Bool.not_false, Bool.true_or, Bool.false_or] at HO9
        go_wp2_with fail
        refine (CW.out _ HB.out _ _).mono ?_
        intro e w2 hE
        rcases hE.no with ⟨c1, h3, rfl, hw⟩ | ⟨_, h3, rfl, hw⟩
        · subst w2
          exact ⟨rfl, Ed.bad (ex_no HO9.out h3) (HD.out _ HB.out)⟩
        subst w2
        have HO10 := hide (ex_go HO9.out h3)
        clear hE h3 HO9 CA
        go_wp2_with fail
        refine (CW.out _ HB.out _ _).mono ?_
        intro e w2 hE
        rcases hE.no with ⟨c1, h3, rfl, hw⟩ | ⟨_, h3, rfl, hw⟩
        · subst w2
          exact ⟨rfl, Ed.bad (h3.symm.trans HO10.out) (HD.out _ HB.out)⟩
        subst w2
        go_wp2_with fail
        go_end0
        exact Ed.ok (h3.symm.trans HO10.out) rfl (HD.out _ HB.out)
end
end Go.Proofs.YtfnobccminhjpaaGreat
/- A rule's variables in memory: stand, bind. -/
namespace Go.Proofs.YtfnobccminhjpaaGreat
open Go.RowKit Go.Shelf Go.Maps Go.WideMaps

theorem info_parts' {P : Program} {e : Nat} {z : Option Value} {k b : Nat} (h : (P.info? e).map (fun i => (i.zero, i.size, i.bytes)) = some (z, k, b)) : ∃ i, P.info? e = some i ∧ i.zero = z ∧ i.size = k ∧ i.bytes = b := by
  cases hi : P.info? e with
  | none => rw [hi] at h; cases h
  | some i => rw [hi] at h; simp at h; exact ⟨i, rfl, h⟩
theorem infoS : (Tryz.prog.info? 9).map (fun i => (i.zero, i.size, i.bytes)) = some (some (.string ⟨#[]⟩), 1, 16) := by kernel_rfl
theorem infoI : (Tryz.prog.info? 3).map (fun i => (i.zero, i.size, i.bytes)) = some (some (.int .i64 0), 1, 8) := by kernel_rfl
theorem news_at {w : World} {cs : List Value} {t : Nat} {g : Nat} (hg : g = w.heap.size) : ∀ j u, cs[j]? = some u → (w.alloc (.cells cs.toArray t)).cell? ((⟨g, 0, none⟩ : Addr).add j) = some u := by
  subst hg
  intro j u hu
  rw [show ((⟨w.heap.size, 0, none⟩ : Addr).add j) = ⟨w.heap.size, j, none⟩ from by unfold Addr.add; split <;> simp_all, cell_of_row _ _ _ _ t _ (heap_alloc_new w _)]
  simpa using hu
theorem owns_keep {w w' : World} {base e k : Nat} {v : Value} {n : Nat} {xs : List Value} (h : w.ownsRow base e k v n xs) (hb : ∀ g, v.ownBlock = some g → w'.heap[g]? = w.heap[g]?) : w'.ownsRow base e k v n xs := by
  obtain ⟨h1, h2⟩ := h
  refine ⟨h1, ?_⟩
  rcases h2 with h2 | ⟨g, cap, cur, rfl, h3, h4, h5⟩
  · exact .inl h2
  · exact .inr ⟨g, cap, cur, rfl, h3, (hb g rfl).trans h4, h5⟩
theorem owns_slice {w : World} {base e k : Nat} {v : Value} {n : Nat} {xs : List Value} (h : w.ownsRow base e k v n xs) : ∃ a c, v = .slice a n c := by
  rcases h.2 with ⟨h1, h2⟩ | ⟨g, cap, cur, h1, _⟩
  · exact ⟨none, 0, by rw [h1, h2]⟩
  · exact ⟨_, _, h1⟩
theorem owns_lt {w : World} {base e k : Nat} {v : Value} {n : Nat} {xs : List Value} (h : w.ownsRow base e k v n xs) {g : Nat} (hg : v.ownBlock = some g) : g < w.heap.size := (h.lt g hg).2
theorem owns_at {w : World} {e : Nat} {v : Value} {n : Nat} {xs : List Value} (h : w.ownsRow 0 e 1 v n xs) {i : Nat} {x : Value} (hx : xs[i]? = some x) : ∃ g c, v = .slice (some ⟨g, 0, none⟩) n c ∧ w.cell? ⟨g, i, none⟩ = some x ∧ (∀ j, w.frozen? ⟨g, j, none⟩ = false) ∧ i < n := by
  obtain ⟨h1, h2⟩ := h
  have hi : i < xs.length := by
    apply Classical.byContradiction
    intro hn
    rw [List.getElem?_eq_none (by omega)] at hx
    cases hx
  rcases h2 with ⟨rfl, rfl⟩ | ⟨g, cap, cur, rfl, h3, h4, h5, h6, h7, h8⟩
  · omega
  · refine ⟨g, cap, rfl, ?_, fun j => frozen_of_row w g j cur e h4, by omega⟩
    rw [cell_of_row w g i cur e _ h4, ← Array.getElem?_toList]
    rw [← h8, List.getElem?_take] at hx
    split at hx
    · exact hx
    · cases hx

theorem grown_old {w w1 w2 : World} {o : Obj} {tv : Value} {g k : Nat} (hw : w1 = w.alloc o) (hg : (tv.ownBlock = some g ∧ w1.grownBy w2 (some g)) ∨ (g = w.heap.size + 1 ∧ w1.grownBy w2 none)) (hk : k < w.heap.size) (hn : tv.ownBlock ≠ some k) : w2.heap[k]? = w.heap[k]? := by
  have hk1 : k < w1.heap.size := by rw [hw]; simp; omega
  have e1 : w1.heap[k]? = w.heap[k]? := by rw [hw]; exact Below.heap_alloc w o k hk
  rcases hg with ⟨h1, h2⟩ | ⟨_, h2⟩
  · rw [h2.block k hk1 (fun e => hn (by rw [h1, e])), e1]
  · rw [h2.block k hk1 (by simp), e1]
theorem grown_fr {Z : Nat → Prop} {w w1 w2 : World} {o : Obj} {tv : Value} {g : Nat} (hw : w1 = w.alloc o) (hg : (tv.ownBlock = some g ∧ w1.grownBy w2 (some g)) ∨ (g = w.heap.size + 1 ∧ w1.grownBy w2 none)) (hz : ∀ g, tv.ownBlock = some g → Z g) : Fr Z w w2 := by
  have h1 : Fr Z w w1 := by rw [hw]; exact .of_below ((Below.refl _ _).alloc (Nat.le_refl _) _)
  rcases hg with ⟨h1', h2⟩ | ⟨_, h2⟩
  · exact h1.trans (.of_grown h2 fun k e => by cases e; exact hz _ h1')
  · exact h1.trans (.of_grown h2 fun k e => by cases e)

/-- The variables at block V, all of whose blocks are Z's. -/
structure Scp (Z : Nat → Prop) (V M : Nat) (nv kv : Value) (v : Scope) (w : World) : Prop where
  box : w.heap[V]? = some (.cells #[nv, kv, .map (some M)] 100 (0, 0))
  rowN : w.ownsRow 0 9 1 nv v.length (strs v.names)
  rowK : w.ownsRow 0 3 1 kv v.length (ints v.kinds)
  map : KMap 9 w M v.names
  zV : Z V
  zM : Z M
  zn : ∀ g, nv.ownBlock = some g → Z g
  zk : ∀ g, kv.ownBlock = some g → Z g
  short : ∀ s ∈ v.names, s.length ≤ maxLen
theorem Scp.keep {Z : Nat → Prop} {V M : Nat} {nv kv : Value} {v : Scope} {w w' : World} (h : Scp Z V M nv kv v w) (hb : ∀ k, Z k → k < w.heap.size → w'.heap[k]? = w.heap[k]?) : Scp Z V M nv kv v w' :=
  ⟨(hb V h.zV (loc_lt h.box)).trans h.box, owns_keep h.rowN fun g hg => hb g (h.zn g hg) (owns_lt h.rowN hg), owns_keep h.rowK fun g hg => hb g (h.zk g hg) (owns_lt h.rowK hg), h.map.keep (hb M h.zM h.map.lt), h.zV, h.zM, h.zn, h.zk, h.short⟩
theorem Scp.below {Z : Nat → Prop} {V M : Nat} {nv kv : Value} {v : Scope} {w w' : World} (h : Scp Z V M nv kv v w) (hb : Below w.heap.size w w') : Scp Z V M nv kv v w' := h.keep fun k _ hk => hb.block k hk
theorem own_ne {w : World} {q e e2 : Nat} {v : Value} {n : Nat} {xs : List Value} {cs : Array Value} (h : w.ownsRow 0 e 1 v n xs) (hq : w.heap[q]? = some (.cells cs e2 (0, 0))) (hne : e ≠ e2) : v.ownBlock ≠ some q := by
  intro hg
  rcases h.2 with ⟨h1, _⟩ | ⟨g', _, cur, h1, _, h3, _⟩
  · rw [h1] at hg; cases hg
  · rw [h1] at hg; cases hg; rw [hq] at h3; cases h3; exact hne rfl
theorem own_ne2 {w : World} {e e2 : Nat} {v u : Value} {n m : Nat} {xs ys : List Value} (h : w.ownsRow 0 e 1 v n xs) (hq : w.ownsRow 0 e2 1 u m ys) (hne : e ≠ e2) {g : Nat} (hg : u.ownBlock = some g) : v.ownBlock ≠ some g := by
  rcases hq.2 with ⟨h1, _⟩ | ⟨g', _, cur, h1, _, h3, _⟩
  · rw [h1] at hg; cases hg
  · rw [h1] at hg; cases hg
    exact own_ne h h3 hne
theorem own_neM {w : World} {e : Nat} {v : Value} {n : Nat} {xs : List Value} {kt M : Nat} {l : List Bytes} (h : w.ownsRow 0 e 1 v n xs) (hm : KMap kt w M l) : v.ownBlock ≠ some M := by
  intro hg
  obtain ⟨_, _, ⟨es, c, hb, _⟩, _⟩ := hm
  rcases h.2 with ⟨h1, _⟩ | ⟨g', _, cur, h1, _, h3, _⟩
  · rw [h1] at hg; cases hg
  · rw [h1] at hg; cases hg; rw [hb] at h3; cases h3
theorem box_neM {w : World} {V e : Nat} {cs : Array Value} {kt M : Nat} {l : List Bytes} (h : w.heap[V]? = some (.cells cs e (0, 0))) (hm : KMap kt w M l) : V ≠ M := by
  rintro rfl
  obtain ⟨_, _, ⟨es, c, hb, _⟩, _⟩ := hm
  rw [hb] at h
  cases h

theorem putS_in {w : World} {b : Nat} {l : List Bytes} (hm : KMap 9 w b l) (hl : l.length ≤ 4096) (s : Bytes) (hs : s.length ≤ maxLen) (h : s ∈ l) :
    Calls Tryz.prog 87 #[.map (some b), str s, .int .i64 l.length] w fun e w' => e = .returned (.bool false) ∧ w' = w := by
  obtain ⟨n, D, h1, h2, h3⟩ := hm
  refine (put_map h1 (by omega) s hs l.length (by omega)).mono ?_
  rintro e w' ⟨rfl, hd⟩
  rw [(h2 s).1, decide_eq_true h] at hd ⊢
  rcases hd with ⟨_, rfl⟩ | ⟨hf, _⟩
  · exact ⟨rfl, rfl⟩
  · cases hf
theorem putS_new {w : World} {b : Nat} {l : List Bytes} (hm : KMap 9 w b l) (hl : l.length ≤ 4096) (s : Bytes) (hs : s.length ≤ maxLen) (h : s ∉ l) :
    Calls Tryz.prog 87 #[.map (some b), str s, .int .i64 l.length] w fun e w' => e = .returned (.bool true) ∧ KMap 9 w' b (l ++ [s]) ∧ Fr (fun k => k = b) w w' := by
  refine (putS_any hm (by omega) s hs).mono ?_
  rintro e w' ⟨rfl, h2⟩
  rw [decide_eq_false h]
  exact ⟨rfl, h2⟩

section
variable {Z : Nat → Prop} {V M : Nat} {nv kv : Value} {v : Scope} {w : World}
theorem stand_in {s : Bytes} (h : s ∈ v.names) : standM v s = v := by unfold standM; rw [if_pos h]
theorem stand_new {s : Bytes} (h : s ∉ v.names) : standM v s = v ++ [(s, -1)] := by unfold standM; rw [if_neg h]

set_option maxRecDepth 100000 in
set_option maxHeartbeats 6400000 in
theorem stand_any (h : Scp Z V M nv kv v w) (hz : ∀ g, w.heap.size ≤ g → Z g) (hl : v.length + 1 ≤ 4096) (s : Bytes) (hs : s.length ≤ maxLen) :
    Calls Tryz.prog 155 #[ptr V, str s] w fun e w' => e = .returned (.int .i64 (posB (standM v s).names s)) ∧ (∃ nv' kv', Scp Z V M nv' kv' (standM v s) w') ∧ Fr Z w w' := by
  have H := hide h
  have HZ := hide hz
  have hvn : v.names.length = v.length := by unfold Scope.names; simp
  have v0 := cell_of_row w V 0 _ _ _ h.box
  have v2 := cell_of_row w V 2 _ _ _ h.box
  simp only [List.getElem?_toArray, List.getElem?_cons_zero, List.getElem?_cons_succ] at v0 v2
  obtain ⟨na, nc, rfl⟩ := owns_slice h.rowN
  by_cases hm : s ∈ v.names
  · rw [stand_in hm]
    have CP := hide (fun X (hX : Lk w X) => putS_in (w := X) (h.map.keep (by rw [hX.heap])) (by omega) s hs hm)
    have hlk := fun q => look_S (w := w.drewN q) (h.map.keep rfl) s hs
    rw [hvn] at CP
    unfold str at *
    clear h
    go_enter Tryz.func155, Tryz.ntmps155
    go_upto_region 1 with fail
    refine region_last (by kernel_rfl) (by kernel_rfl) (by kernel_rfl) (by kernel_rfl) (by kernel_rfl) ?_
    dsimp only [List.dropLast, List.getLast, List.cons_append, List.nil_append]
    repeat (go_big_quiet_step (fail))
    refine wpQuiet_nil ?_
    rintro _ ⟨nq, rfl⟩
    go_wp2_with fail
    refine (CP.out _ .of).mono ?_
    rintro _ w1 ⟨rfl, hw1⟩
    subst w1
    go_wp2_with fail
    go_ret
    exact ⟨rfl, ⟨_, _, H.out.below (below_drewN _ _)⟩, .of_below (below_drewN _ _)⟩
  · rw [stand_new hm]
    have CP := hide (fun X (hX : Lk w X) => putS_new (w := X) (h.map.keep (by rw [hX.heap])) (by omega) s hs hm)
    rw [hvn] at CP
    obtain ⟨iM, hiM, zM0, zM1, zM2⟩ := info_parts' infoS
    obtain ⟨jM, hjM, yM0, yM1, yM2⟩ := info_parts' infoI
    unfold str at *
    clear h
    go_enter Tryz.func155, Tryz.ntmps155
    go_upto_region 1 with fail
    refine region_last (by kernel_rfl) (by kernel_rfl) (by kernel_rfl) (by kernel_rfl) (by kernel_rfl) ?_
    dsimp only [List.dropLast, List.getLast, List.cons_append, List.nil_append]
    repeat (go_big_quiet_step (fail))
    refine wpQuiet_nil ?_
    rintro _ ⟨nq, rfl⟩
    go_wp2_with fail
    refine (CP.out _ .of).mono ?_
    rintro _ w1 ⟨rfl, hm1, hf1⟩
    have hfw : Fr (fun k => k = M) w w1 := (Fr.of_below (below_drewN w nq)).trans hf1
    have HF1 := hide (hfw.mono (Z' := Z) fun k _ e => by rw [e]; exact H.out.zM)
    have hVM := box_neM H.out.box H.out.map
    have hb1 := (hfw.block V (loc_lt H.out.box) hVM).trans H.out.box
    have HN1 := hide (owns_keep (w' := w1) H.out.rowN fun g hg => hfw.block g (owns_lt H.out.rowN hg) (fun e => own_neM H.out.rowN H.out.map (by rw [← e]; exact hg)))
    have HK1 := hide (owns_keep (w' := w1) H.out.rowK fun g hg => hfw.block g (owns_lt H.out.rowK hg) (fun e => own_neM H.out.rowK H.out.map (by rw [← e]; exact hg)))
    have HM1 := hide hm1
    have HB1 := hide hb1
    have v01 := cell_of_row w1 V 0 _ _ _ hb1
    have v11 := cell_of_row w1 V 1 _ _ _ hb1
    have v21 := cell_of_row w1 V 2 _ _ _ hb1
    simp only [List.getElem?_toArray, List.getElem?_cons_zero, List.getElem?_cons_succ] at v01 v11 v21
    clear hm1 hf1 hfw hVM hb1 CP v0 v2
    go_wp2_with (at_builtin; go_must (refine wpList_append_two _ rfl _ _ 22 rfl 0 9 iM _ 1 16 Tryz.underlying22 hiM zM0 zM1 zM2 rfl (by decide) _ _ _ rfl (HN1.out.alloc _) ⟨w1.heap.size, 0, none⟩ 1 [.string ⟨s.toArray⟩] rfl rfl (news_at rfl) (by simp [Value.oneCell']) (by unfold maxLen; omega) (by omega) (Nat.zero_le _) ?_))
    intro g cap w2 hown hg
    have hgB : g ≠ V := by
      rcases hg with ⟨h1, _⟩ | ⟨h1, _⟩
      · intro e; exact own_ne HN1.out HB1.out (by decide) (by rw [h1, e])
      · have := loc_lt HB1.out; omega
    have hgM : g ≠ M := by
      rcases hg with ⟨h1, _⟩ | ⟨h1, _⟩
      · intro e; exact own_neM HN1.out HM1.out (by rw [h1, e])
      · have := HM1.out.lt; omega
    have HGZ : Hid (Z g) := by
      rcases hg with ⟨h1, _⟩ | ⟨h1, _⟩
      · exact H.out.zn g h1
      · exact HZ.out g (by have := HF1.out.size; omega)
    have hb2 := (grown_old rfl hg (loc_lt HB1.out) (own_ne HN1.out HB1.out (by decide))).trans HB1.out
    have hk2 := owns_keep (w' := w2) HK1.out fun j hj => grown_old rfl hg (owns_lt HK1.out hj) (own_ne2 HN1.out HK1.out (by decide) hj)
    have hm2 := HM1.out.keep (w' := w2) (grown_old rfl hg HM1.out.lt (own_neM HN1.out HM1.out))
    have hf2 := HF1.out.trans (grown_fr (Z := Z) rfl hg H.out.zn)
    have hkV : ∀ j, kv.ownBlock = some j → j ≠ V := fun j hj e => own_ne hk2 hb2 (by decide) (by rw [← e]; exact hj)
    have o3 : ∀ j, j ≠ V → (w2.setCell ⟨V, 0, none⟩ (.slice (some ⟨g, 0, none⟩) (v.length + 1) cap)).heap[j]? = w2.heap[j]? := fun j hj => heap_setCell_other w2 ⟨V, 0, none⟩ j _ hj
    have hb3 := loc_set (i := 0) (v := .slice (some ⟨g, 0, none⟩) (v.length + 1) cap) hb2
    have HB3 := hide hb3
    have HN3 := hide (owns_keep hown fun j hj => o3 j (by cases hj; exact hgB))
    have HK3 := hide (owns_keep hk2 fun j hj => o3 j (hkV j hj))
    have HM3 := hide (hm2.keep (o3 M (fun e => box_neM hb2 hm2 e.symm)))
    have HF3 := hide (hf2.trans (.setCell ⟨V, 0, none⟩ (.slice (some ⟨g, 0, none⟩) (v.length + 1) cap) H.out.zV))
    have w20 := cell_of_row w2 V 0 _ _ _ hb2
    have wf := frozen_of_row w2 V 0 _ _ hb2
    have w31 := cell_of_row _ V 1 _ _ _ hb3
    simp only [List.getElem?_toArray, List.getElem?_cons_zero, List.getElem?_cons_succ, List.setIfInBounds_toArray, List.set_cons_zero] at w20 w31
    have HNE := hide (fun j (hj : kv.ownBlock = some j) => own_ne2 HN3.out HK3.out (by decide) hj)
    obtain ⟨ea, ec, rfl⟩ := owns_slice HK3.out
    clear hown hg hb2 hk2 hm2 hf2 hkV o3 hb3 HB1 HN1 HK1 HM1 HF1 v01 v11 v21
    go_upto_region 3 with fail
    generalize w2.setCell ⟨V, 0, none⟩ (.slice (some ⟨g, 0, none⟩) (v.length + 1) cap) = w3 at *
    go_wp2_with (at_builtin; go_must (refine wpList_append_two _ rfl _ _ 38 rfl 0 3 jM _ 1 8 Tryz.underlying38 hjM yM0 yM1 yM2 rfl (by decide) _ _ _ rfl (HK3.out.alloc _) ⟨w3.heap.size, 0, none⟩ 1 [.int .i64 (-1)] rfl rfl (news_at rfl) (by simp [Value.oneCell']) (by unfold maxLen; omega) (by omega) (Nat.zero_le _) ?_))
    intro g4 cap4 w4 hown4 hg4
    have hgB4 : g4 ≠ V := by
      rcases hg4 with ⟨h1, _⟩ | ⟨h1, _⟩
      · intro e; exact own_ne HK3.out HB3.out (by decide) (by rw [h1, e])
      · have := loc_lt HB3.out; omega
    have HGZ4 : Hid (Z g4) := by
      rcases hg4 with ⟨h1, _⟩ | ⟨h1, _⟩
      · exact H.out.zk g4 h1
      · exact HZ.out g4 (by have := HF3.out.size; omega)
    have hb4 := (grown_old rfl hg4 (loc_lt HB3.out) (own_ne HK3.out HB3.out (by decide))).trans HB3.out
    have hn4 := owns_keep (w' := w4) HN3.out fun j hj => grown_old rfl hg4 (owns_lt HN3.out hj) (fun e => HNE.out j e hj)
    have hm4 := HM3.out.keep (w' := w4) (grown_old rfl hg4 HM3.out.lt (own_neM HK3.out HM3.out))
    have hf4 := HF3.out.trans (grown_fr (Z := Z) rfl hg4 H.out.zk)
    have o5 : ∀ j, j ≠ V → (w4.setCell ⟨V, 1, none⟩ (.slice (some ⟨g4, 0, none⟩) (v.length + 1) cap4)).heap[j]? = w4.heap[j]? := fun j hj => heap_setCell_other w4 ⟨V, 1, none⟩ j _ hj
    have hb5 := loc_set (i := 1) (v := .slice (some ⟨g4, 0, none⟩) (v.length + 1) cap4) hb4
    have HB5 := hide hb5
    have HN5 := hide (owns_keep hn4 fun j hj => o5 j (by cases hj; exact hgB))
    have HK5 := hide (owns_keep hown4 fun j hj => o5 j (by cases hj; exact hgB4))
    have HM5 := hide (hm4.keep (o5 M (fun e => box_neM hb4 hm4 e.symm)))
    have HF5 := hide (hf4.trans (.setCell ⟨V, 1, none⟩ (.slice (some ⟨g4, 0, none⟩) (v.length + 1) cap4) H.out.zV))
    have x41 := cell_of_row w4 V 1 _ _ _ hb4
    have xf := frozen_of_row w4 V 1 _ _ hb4
    have x52 := cell_of_row _ V 2 _ _ _ hb5
    simp only [List.getElem?_toArray, List.getElem?_cons_zero, List.getElem?_cons_succ, List.setIfInBounds_toArray, List.set_cons_zero, List.set_cons_succ] at x41 x52
    have hlk := look_S HM5.out s hs
    clear hown4 hg4 hb4 hn4 hm4 hf4 o5 hb5 HB3 HN3 HK3 HM3 HF3 w20 wf w31 HNE
    go_wp2_with fail
    go_ret
    have hnm : (v ++ [(s, (-1 : Int))]).names = v.names ++ [s] := by unfold Scope.names; simp
    have hkd : (v ++ [(s, (-1 : Int))]).kinds = v.kinds ++ [-1] := by unfold Scope.kinds; simp
    have hln : (v ++ [(s, (-1 : Int))]).length = v.length + 1 := by simp
    refine ⟨by rw [hnm]; rfl, ⟨.slice (some ⟨g, 0, none⟩) (v.length + 1) cap, .slice (some ⟨g4, 0, none⟩) (v.length + 1) cap4, ⟨?_, ?_, ?_, ?_, H.out.zV, H.out.zM, fun j hj => by cases hj; exact HGZ.out, fun j hj => by cases hj; exact HGZ4.out, ?_⟩⟩, HF5.out⟩
    · simpa using HB5.out
    · rw [hln, hnm, show strs (v.names ++ [s]) = strs v.names ++ [.string ⟨s.toArray⟩] from by unfold strs str; simp]; exact HN5.out
    · rw [hln, hkd, show ints (v.kinds ++ [-1]) = ints v.kinds ++ [.int .i64 (-1)] from by unfold ints; simp]; exact HK5.out
    · rw [hnm]; exact HM5.out
    · intro u hu
      rw [hnm, List.mem_append] at hu
      rcases hu with hu | hu
      · exact H.out.short u hu
      · simp at hu; rw [hu]; exact hs
end
end Go.Proofs.YtfnobccminhjpaaGreat
