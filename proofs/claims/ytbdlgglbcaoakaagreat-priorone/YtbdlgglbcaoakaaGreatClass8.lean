/- Classes. -/
import Derived.Test.YtbdlgglbcaoakaaGreatFindP8
namespace Go.Proofs.YtbdlgglbcaoakaaGreat
open Go.RowKit Go.Shelf Go.Maps Go.WideMaps

section
variable {R : Nat} {S : StatM} {st : St9} {mp : Mp8} {it : Nat} {seen : List Bytes} {w : World}
/-- How a call ends that may write the map of classes. -/
def Ec (R : Nat) (S : StatM) (st : St9) (mp : Mp8) (it : Nat) (seen' : List Bytes) (w : World) (o : Er Unit) (e : Ending) (w' : World) : Prop := Fr (fun k => k = mp.C) w w' ∧ match o with
  | .ok _ => e = .returned (.tuple #[]) ∧ Res R S st mp it seen' w'
  | .error c => e = .panicked [fl c it]
theorem Ec.bad {seen' : List Bytes} {o : Er Unit} {c : Int} {w' : World} (h : .error c = o) (hf : Fr (fun k => k = mp.C) w w') : Ec R S st mp it seen' w o (.panicked [fl c it]) w' := by subst h; exact ⟨hf, rfl⟩
theorem Ec.ok {seen' : List Bytes} {o : Er Unit} {w' : World} (h : .ok () = o) (hf : Fr (fun k => k = mp.C) w w') (hr : Res R S st mp it seen' w') : Ec R S st mp it seen' w o (.returned (.tuple #[])) w' := by subst h; exact ⟨hf, rfl, hr⟩
theorem drop_cons {α : Type} {l : List α} {k : Nat} {x : α} (hx : l[k]? = some x) : l.drop k = x :: l.drop (k + 1) := by
  have hlt := (List.getElem?_eq_some_iff.1 hx).1
  rw [List.drop_eq_getElem_cons hlt]
  rw [List.getElem?_eq_getElem hlt] at hx
  cases hx
  rfl
theorem quiet_run {P : Program} {o : Oper} {a : Act} {C : World → Prop} {K : Act → Prop} (v : Value) (h : ∀ X, C X → (execOp a.eval o).run P X = .ok (.value v) X) (hk : K (a.put o.dst v)) : o.quiet P a C K := ⟨v, fun X hX => by
    unfold Oper.quietAt
    rw [h X hX]
    exact ⟨rfl, rfl⟩, hk⟩
theorem quiet_enter {P : Program} {o : Oper} {a : Act} {C : World → Prop} {K : Act → Prop} (v : Value) (f : FuncId) (args : Array Value) (h : ∀ X, C X → (execOp a.eval o).run P X = .ok (.enter f args) X) (hc : ∀ X, C X → Calls P f args X fun e w' => e = .returned v ∧ C w') (hk : K (a.put o.dst v)) : o.quiet P a C K := ⟨v, fun X hX => by
    unfold Oper.quietAt
    rw [h X hX]
    exact ⟨rfl, hc X hX⟩, hk⟩
theorem fld_kinds (p : PredM) (ka : Option Addr) (kc : Nat) (va : Option Addr) (vc : Nat) (w : World) : (Instr.field 119 (.agg (predV p ka kc va vc)) 2).run Tryz.prog w = .ok (.slice ka p.kinds.length kc) w := by kernel_rfl
/-- The map of classes written. -/
theorem Res.put {w' : World} {seen' : List Bytes} (h : Res R S st mp it seen w) (hf : Fr (fun k => k = mp.C) w w') (hc : CMap w' mp.C seen') : Res R S st mp it seen' w' := by
  have hb : ∀ k, k < w.heap.size → k ≠ mp.C → w'.heap[k]? = w.heap[k]? := hf.block
  have hR := loc_lt h.box
  obtain ⟨n1, n2, n3, n4, n5, n6, n7, n8⟩ := h.ne
  obtain ⟨m1, m2, m3, m4, m5, m6, m7⟩ := h.nc
  exact ⟨(hb R hR (by omega)).trans h.box, h.rep.keep fun g hg => hb g (by omega) (by omega), h.fit, h.mK.keep (hb _ h.mK.lt m1), h.mM.keep (hb _ h.mM.lt m2), h.mP.keep (hb _ h.mP.lt m3), h.mS.keep (hb _ h.mS.lt m4), h.mR.keep (hb _ h.mR.lt m5), h.mE.keep (hb _ h.mE.lt m6), h.mT.keep (hb _ h.mT.lt m7), hc, h.ne, h.nc⟩

set_option maxRecDepth 100000 in
set_option maxHeartbeats 6400000 in
theorem class_any (h : Res R S st mp it seen w) (n : Nat) (hn : n ≤ 4096) (l : List Bytes) {a : Option Addr} {c : Nat} (hl : Strs R w l (.slice a l.length c)) (hseen : seen.length + 16 ≤ 4096) :
    Calls Tryz.prog 68 #[ptr R, .int .i64 n, .slice a l.length c] w fun e w' => Ec R S st mp it (seen ++ l) w (classM S.ctx seen l) e w' := by
  have H := hide h
  have HL := hide hl
  have CW := hide (fun b c => want_any h.c9 b c)
  have hll : l.length ≤ 140737488351232 := by obtain ⟨_, _, _, _, h⟩ := hl.form; exact h
  have HCR := hide h.ne.2.2.2.2.2.2.2
  have HRl := hide (loc_lt h.box)
  obtain ⟨o, ho⟩ : ∃ o, classM S.ctx seen l = o := ⟨_, rfl⟩
  rw [ho]
  have HO := hide ho
  unfold classM at HO
  clear h hl ho
  go_enter Tryz.func68, Tryz.ntmps68
  by_cases h2 : (l.length : Int) < 2
  · have h2' : ¬ (2 ≤ (l.length : Int)) := by omega
    rw [decide_eq_false h2', Bool.false_and] at HO
    go_wp2_with fail
    refine (CW.out _ _).mono ?_
    intro e w1 hE
    rcases hE.no with ⟨c1, h3, rfl, hw⟩ | ⟨_, h3, rfl, hw⟩
    · subst w1
      exact on_panic rfl (Ec.bad (ex_no HO.out h3) (.refl _ _))
    · cases h3
  have h2' : 2 ≤ (l.length : Int) := by omega
  rw [decide_eq_true h2', Bool.true_and] at HO
  go_wp2_with fail
  refine (CW.out _ _).mono ?_
  intro e w1 hE
  rcases hE.no with ⟨c1, h3, rfl, hw⟩ | ⟨_, h3, rfl, hw⟩
  · subst w1
    exact on_panic rfl (Ec.bad (ex_no HO.out h3) (.refl _ _))
  subst w1
  have h16 : (l.length : Int) ≤ 16 := by
    by_cases hh : (l.length : Int) ≤ 16
    · exact hh
    · rw [decide_eq_false hh] at h3; cases h3
  have HO1 := hide (ex_go HO.out h3)
  clear hE h3 HO CW h2
  go_wp2_with fail
  go_loopw [21] (fun x wr => ∃ i : Nat, i ≤ l.length ∧ x = .int .i64 i ∧ Hid (Res R S st mp it (seen ++ l.take i) wr) ∧ Hid (Fr (fun k => k = mp.C) w wr) ∧ Hid (classNamesM S.ctx (l.headD []) (seen ++ l.take i) (l.drop i) = o) ∧ Hid (0 < i → ∃ q, findPredM S.ctx (l.headD []) = .ok q)) (fun x _ => l.length - (intOf x).toNat)
  case atStart => exact ⟨0, by omega, rfl, hide (by simpa using H.out), hide (.refl _ _), hide (by simpa using HO1.out), hide (fun h => absurd h (by omega))⟩
  case round =>
    obtain ⟨i, hi, rfl, HR, HF, HK, HQ⟩ := hrel
    clear HO1 H
    by_cases hlt : i < l.length
    · obtain ⟨x, hx⟩ : ∃ x, l[i]? = some x := ⟨l[i], List.getElem?_eq_getElem hlt⟩
      have hlr := HL.out.keep (w' := wr) (fun g hg => HF.out.block g (by have := HRl.out; omega) (by show ¬ g = mp.C; have := HCR.out; omega))
      have HLR := hide hlr
      obtain ⟨g, oo, rfl, hg, e0, hs⟩ := at_S hlr hx
      obtain ⟨f, hf0⟩ : ∃ f, l[0]? = some f := ⟨l[0], List.getElem?_eq_getElem (by omega)⟩
      obtain ⟨g1, oo1, hga, -, f0, hsf⟩ := at_S hlr hf0
      cases hga
      have hhd : l.headD [] = f := by rw [List.headD_eq_head?_getD, List.head?_eq_getElem?, hf0]; rfl
      have HHD := hide hhd
      rw [hhd] at HK HQ
      have HK1 : Hid (classNamesM S.ctx f (seen ++ l.take i) (x :: l.drop (i + 1)) = o) := by rw [← drop_cons hx]; exact HK.out
      unfold classNamesM at HK1
      have HT := hide (take_snoc hx)
      have HX : Hid (0 < i ∨ x = f) := by
        by_cases hi0 : 0 < i
        · exact .inl hi0
        · have : i = 0 := by omega
          subst this
          rw [hf0] at hx
          cases hx
          exact .inr rfl
      have CP := hide (findPred_any HR.out x hs)
      rw [Nat.add_zero] at f0
      have HGW : Hid (g < wr.heap.size) := World.block_lt_of_cell? wr _ e0
      unfold str at *
      clear hlr hx hf0 hhd HK
      go_wp2_with fail
      refine CP.out.mono ?_
      intro e w1 hE
      rcases hE.no with ⟨c1, h3, rfl, hb⟩ | ⟨p, v, h3, rfl, hrp, hb⟩
      · exact ⟨rfl, Ec.bad (ex_no HK1.out h3) (HF.out.trans (.of_below hb))⟩
      obtain ⟨ka, kc, va, vc, rfl, hpn, hpk, hpv⟩ := hrp
      have HK2 := hide (ex_go HK1.out h3)
      obtain ⟨q, hq⟩ : ∃ q, findPredM S.ctx f = .ok q := by
        rcases HX.out with h0 | h0
        · exact HQ.out h0
        · exact ⟨p, h0 ▸ h3⟩
      have hA : Below w1.heap.size w1 (w1.alloc (.cells (predV p ka kc va vc) 119)) := (Below.refl _ _).alloc (Nat.le_refl _) _
      have hB2 : Below wr.heap.size wr (w1.alloc (.cells (predV p ka kc va vc) 119)) := hb.trans (hA.mono hb.size)
      have hR2 := HR.out.below hB2
      have HR2 := hide hR2
      have HF2 := hide (HF.out.trans (.of_below hB2))
      have CW := hide (fun X (hX : Below (w1.alloc (.cells (predV p ka kc va vc) 119)).heap.size (w1.alloc (.cells (predV p ka kc va vc) 119)) X) b c => want_any (hR2.below (w' := X) hX).c9 b c)
      have b1 := cell_of_row _ w1.heap.size 1 _ _ _ (heap_alloc_new w1 (.cells (predV p ka kc va vc) 119))
      have b2 := cell_of_row _ w1.heap.size 2 _ _ _ (heap_alloc_new w1 (.cells (predV p ka kc va vc) 119))
      simp only [predV, List.getElem?_toArray, List.getElem?_cons_zero, List.getElem?_cons_succ] at b1 b2
      have f2 := (World.cell?_of_block (hB2.block g HGW.out)).trans f0
      have HPK := hide (hpk.keep (w' := w1.alloc (.cells (predV p ka kc va vc) 119)) (fun g hg => hA.block g (by have := loc_lt HR.out.box; have := hb.size; omega)))
      simp only [predV] at *
      clear hE h3 hb hA hB2 hR2 HK1 CP hpk hpv hpn e0 f0
      go_wp2_with fail
      refine (CW.out _ (Below.refl _ _) _ _).mono ?_
      intro e w2 hE
      rcases hE.no with ⟨c1, h3, rfl, hw⟩ | ⟨_, h3, rfl, hw⟩
      · subst w2
        exact ⟨rfl, Ec.bad (ex_no HK2.out h3) HF2.out⟩
      subst w2
      have hka := ex_go HK2.out h3
      obtain ⟨ka2, kc2, va2, vc2, HFP, HKQ⟩ : ∃ ka2 kc2 va2 vc2, Hid (∀ X, Below (w1.alloc (.cells #[.string ⟨p.name.toArray⟩, .int .i64 p.sort, .slice ka p.kinds.length kc, .slice va p.values.length vc] 119)).heap.size (w1.alloc (.cells #[.string ⟨p.name.toArray⟩, .int .i64 p.sort, .slice ka p.kinds.length kc, .slice va p.values.length vc] 119)) X → Calls Tryz.prog 98 #[ptr R, .string ⟨f.toArray⟩] X fun e w' => e = .returned (.agg (predV q ka2 kc2 va2 vc2)) ∧ Below (w1.alloc (.cells #[.string ⟨p.name.toArray⟩, .int .i64 p.sort, .slice ka p.kinds.length kc, .slice va p.values.length vc] 119)).heap.size (w1.alloc (.cells #[.string ⟨p.name.toArray⟩, .int .i64 p.sort, .slice ka p.kinds.length kc, .slice va p.values.length vc] 119)) w') ∧ Hid (Strs R (w1.alloc (.cells #[.string ⟨p.name.toArray⟩, .int .i64 p.sort, .slice ka p.kinds.length kc, .slice va p.values.length vc] 119)) q.kinds (.slice ka2 q.kinds.length kc2)) := by
        unfold findPredM at hq
        cases hf : findM S.ctx.names f 82 with
        | error c => rw [hf] at hq; cases hq
        | ok m =>
          rw [hf] at hq
          have hq2 : (Except.ok (S.ctx.preds.getD m noPred) : Er PredM) = .ok q := hq
          injection hq2 with hq3
          obtain ⟨hm1, hm2, hm3⟩ := find_ok hf
          have hlen : m < S.preds.length := by simpa [Ctx.names, StatM.ctx] using hm3
          have hp : S.preds[m]? = some q := by
            rw [List.getElem?_eq_getElem hlen]
            have : S.preds.getD m noPred = q := hq3
            rw [List.getD_eq_getElem?_getD, List.getElem?_eq_getElem hlen] at this
            exact congrArg some this
          obtain ⟨ka2, kc2, va2, vc2, hpa, hpn, hks, hvs⟩ := HR2.out.predAt hp
          refine ⟨ka2, kc2, va2, vc2, fun X hX => ?_, hks⟩
          refine (findPred_ok (HR2.out.below hX) f hsf hf (hpa.below hX)).mono ?_
          rintro e w' ⟨rfl, hb⟩
          exact ⟨rfl, hX.trans (hb.mono hX.size)⟩
      have HEQ : Hid (∀ X, Below (w1.alloc (.cells #[.string ⟨p.name.toArray⟩, .int .i64 p.sort, .slice ka p.kinds.length kc, .slice va p.values.length vc] 119)).heap.size (w1.alloc (.cells #[.string ⟨p.name.toArray⟩, .int .i64 p.sort, .slice ka p.kinds.length kc, .slice va p.values.length vc] 119)) X → Calls Tryz.prog 99 #[.slice ka p.kinds.length kc, .slice ka2 q.kinds.length kc2] X fun e w' => e = .returned (.bool (decide (p.kinds = q.kinds))) ∧ Below (w1.alloc (.cells #[.string ⟨p.name.toArray⟩, .int .i64 p.sort, .slice ka p.kinds.length kc, .slice va p.values.length vc] 119)).heap.size (w1.alloc (.cells #[.string ⟨p.name.toArray⟩, .int .i64 p.sort, .slice ka p.kinds.length kc, .slice va p.values.length vc] 119)) w') := by
        intro X hX
        have hkk : ∀ g, g < R → X.heap[g]? = (w1.alloc (.cells #[.string ⟨p.name.toArray⟩, .int .i64 p.sort, .slice ka p.kinds.length kc, .slice va p.values.length vc] 119)).heap[g]? := fun g hg => hX.block g (by have := loc_lt HR2.out.box; omega)
        have k1 := HPK.out.keep hkk
        have k2 := HKQ.out.keep hkk
        refine (equalS_any k1.at1 k2.at1 (by obtain ⟨_, _, _, _, h⟩ := k1.form; exact h)).mono ?_
        rintro e w' ⟨rfl, qq, rfl⟩
        exact ⟨rfl, hX.trans ((below_drewN X qq).mono hX.size)⟩
      have HK3 := hide (ex_go hka hq)
      clear hE h3 HK2 hka
      go_upto_region 6 with fail
      refine region_lastC (C := fun X => Below (w1.alloc (.cells #[.string ⟨p.name.toArray⟩, .int .i64 p.sort, .slice ka p.kinds.length kc, .slice va p.values.length vc] 119)).heap.size (w1.alloc (.cells #[.string ⟨p.name.toArray⟩, .int .i64 p.sort, .slice ka p.kinds.length kc, .slice va p.values.length vc] 119)) X) ⟨rfl, rfl, rfl, Nat.le_refl _, fun _ _ => rfl⟩ (by kernel_rfl) (by kernel_rfl) (by kernel_rfl) (by kernel_rfl) (by kernel_rfl) ?_
      dsimp only [List.dropLast, List.getLast, List.cons_append, List.nil_append]
      have hle : 0 < l.length := by omega
      go_big_quiet_step (fail)
      refine BigFrame.wpQuiet_want rfl (fun K hK => ?_)
      refine quiet_run (.pointer (some ⟨w1.heap.size, 2, none⟩)) (fun X hX => ?_) (hK _ ?_)
      · go_simp
      clear hK K
      refine BigFrame.wpQuiet_want rfl (fun K hK => ?_)
      refine quiet_run (.slice ka p.kinds.length kc) (fun X hX => ?_) (hK _ ?_)
      · have hc := (World.cell?_of_block (hX.block w1.heap.size (by simp))).trans b2
        go_simp
      clear hK K
      refine BigFrame.wpQuiet_want rfl (fun K hK => ?_)
      refine quiet_run (ptr R) (fun X hX => ?_) (hK _ ?_)
      · go_simp
      clear hK K
      refine BigFrame.wpQuiet_want rfl (fun K hK => ?_)
      refine quiet_run (.slice (some ⟨g, oo, none⟩) l.length c) (fun X hX => ?_) (hK _ ?_)
      · go_simp
      clear hK K
      refine BigFrame.wpQuiet_want rfl (fun K hK => ?_)
      refine quiet_run (.pointer (some ⟨g, oo, none⟩)) (fun X hX => ?_) (hK _ ?_)
      · go_simp
      clear hK K
      refine BigFrame.wpQuiet_want rfl (fun K hK => ?_)
      refine quiet_run (.string ⟨f.toArray⟩) (fun X hX => ?_) (hK _ ?_)
      · have hc := (World.cell?_of_block (hX.block g (World.block_lt_of_cell? _ _ f2))).trans f2
        go_simp
      clear hK K
      refine BigFrame.wpQuiet_want rfl (fun K hK => ?_)
      refine quiet_enter (.agg (predV q ka2 kc2 va2 vc2)) 98 #[ptr R, .string ⟨f.toArray⟩] (fun X hX => ?_) (fun X hX => HFP.out X hX) (hK _ ?_)
      · go_simp
      clear hK K
      refine BigFrame.wpQuiet_want rfl (fun K hK => ?_)
      refine quiet_run (.slice ka2 q.kinds.length kc2) (fun X hX => ?_) (hK _ ?_)
      · have hfl := fld_kinds q ka2 kc2 va2 vc2 X
        go_simp
      clear hK K
      refine BigFrame.wpQuiet_want rfl (fun K hK => ?_)
      refine quiet_enter (.bool (decide (p.kinds = q.kinds))) 99 #[.slice ka p.kinds.length kc, .slice ka2 q.kinds.length kc2] (fun X hX => ?_) (fun X hX => HEQ.out X hX) (hK _ ?_)
      · go_simp
      clear hK K
      refine wpQuiet_nil ?_
      intro X hX
      have HX := hide hX
      have hRX := HR2.out.below hX
      have HRX := hide hRX
      have HFX := hide (HF2.out.trans (.of_below hX))
      have CWX := hide (fun b c => want_any hRX.c9 b c)
      have c17 := hRX.c17
      have CPX := hide (putC_any hRX.mC (by simp; omega) x hs n (by omega))
      have hc9 := hRX.c9
      have HCn := hide (hRX.ne.2.2.2.2.2.2.2)
      unfold str at CPX
      generalize decide (x ∈ seen ++ l.take i) = bx at CPX HK3
      clear hX hRX CW HFP HEQ HKQ HPK
      go_wp2_with fail
      refine (CWX.out _ _).mono ?_
      intro e w2 hE
      rcases hE.no with ⟨c1, h3, rfl, hw⟩ | ⟨_, h3, rfl, hw⟩
      · subst w2
        exact ⟨rfl, Ec.bad (ex_no HK3.out h3) HFX.out⟩
      subst w2
      have HK4 := hide (ex_go HK3.out h3)
      clear hE h3 HK3 CWX
      go_wp2_with fail
      refine CPX.out.mono ?_
      rintro _ w3 ⟨rfl, hcm, hfr⟩
      have HR3 := hide (HRX.out.put hfr hcm)
      have HF3 := hide (HFX.out.trans hfr)
      have CW3 := hide (fun b c => want_any HR3.out.c9 b c)
      clear hcm hfr CPX c17 hc9 HRX HFX
      go_wp2_with fail
      refine (CW3.out _ _).mono ?_
      intro e w4 hE
      rcases hE.no with ⟨c1, h3, rfl, hw⟩ | ⟨_, h3, rfl, hw⟩
      · subst w4
        exact ⟨rfl, Ec.bad (ex_no HK4.out h3) HF3.out⟩
      subst w4
      have HK5 := hide (ex_go HK4.out h3)
      clear hE h3 HK4 CW3
      go_wp2_with fail
      go_roundw
      case rel =>
        refine ⟨i + 1, by omega, by go_num, hide ?_, HF3, hide ?_, hide ?_⟩
        · rw [HT.out, ← List.append_assoc]; exact HR3.out
        · rw [HT.out, ← List.append_assoc, HHD.out]; exact HK5.out
        · intro _; rw [HHD.out]; exact ⟨q, hq⟩
      case measure => simp [intOf]; omega
    · have hi' : i = l.length := by omega
      subst hi'
      have HE : .ok () = o := by
        have := HK.out
        rw [List.drop_eq_nil_of_le (Nat.le_refl _)] at this
        exact this
      have hr := HR.out
      rw [List.take_of_length_le (Nat.le_refl _)] at hr
      have HRE := hide hr
      clear hr
      go_wp2_with fail
      go_end0
      exact Ec.ok HE HF.out HRE.out
end
end Go.Proofs.YtbdlgglbcaoakaaGreat
