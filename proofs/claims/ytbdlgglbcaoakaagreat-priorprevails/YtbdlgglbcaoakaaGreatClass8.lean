/- Classes. -/
import Derived.Test.YtbdlgglbcaoakaaGreatPred8
import Derived.Test.YtbdlgglbcaoakaaGreatEachA8
namespace Go.Proofs.YtbdlgglbcaoakaaGreat
open Go.RowKit Go.Shelf Go.Maps Go.WideMaps

section
variable {R : Nat} {S : StatM} {st : St9} {mp : Mp8} {it : Nat} {seen : List Bytes} {w : World}
/-- How a call ends that may write the map of classes. -/
def Ec (R : Nat) (S : StatM) (st : St9) (mp : Mp8) (it : Nat) (seen' : List Bytes) (w : World) (o : Er Unit) (e : Ending) (w' : World) : Prop := Fr (fun k => k = mp.C) w w' ∧ match o with
  | .ok _ => e = .returned (.tuple #[]) ∧ Res R S st mp it seen' w'
  | .error c => e = .panicked [fl c it]
theorem Ec.bad {seen' : List Bytes} {o : Er Unit} {c : Int} {w' : World} (h : .error c = o) (hf : Fr (fun k => k = mp.C) w w') : Ec R S st mp it seen' w o (.panicked [fl c it]) w' := by subst h; exact ⟨hf, rfl⟩
theorem Ec.ok {seen' : List Bytes} {o : Er Unit} {w' : World} (h : .ok () = o) (hf : Fr (fun k => k = mp.C) w w') (hr : Res R S st mp it seen' w') : Ec R S st mp it seen' w o (.returned (.tuple #[])) w' := by subst h; exact ⟨hf, rfl, hr⟩
theorem drop_cons {α : Type} {l : List α} {k : Nat} {x : α} (hx : l[k]? = some x) : l.drop k = x :: l.drop (k + 1) := by
  have hlt := (List.getElem?_eq_some_iff.1 hx).1
  rw [List.drop_eq_getElem_cons hlt]
  rw [List.getElem?_eq_getElem hlt] at hx
  cases hx
  rfl
theorem quiet_run {P : Program} {o : Oper} {a : Act} {C : World → Prop} {K : Act → Prop} (v : Value) (h : ∀ X, C X → (execOp a.eval o).run P X = .ok (.value v) X) (hk : K (a.put o.dst v)) : o.quiet P a C K := ⟨v, fun X hX => by
    unfold Oper.quietAt
    rw [h X hX]
    exact ⟨rfl, rfl⟩, hk⟩
theorem quiet_enter {P : Program} {o : Oper} {a : Act} {C : World → Prop} {K : Act → Prop} (v : Value) (f : FuncId) (args : Array Value) (h : ∀ X, C X → (execOp a.eval o).run P X = .ok (.enter f args) X) (hc : ∀ X, C X → Calls P f args X fun e w' => e = .returned v ∧ C w') (hk : K (a.put o.dst v)) : o.quiet P a C K := ⟨v, fun X hX => by
    unfold Oper.quietAt
    rw [h X hX]
    exact ⟨rfl, hc X hX⟩, hk⟩
theorem fld_kinds (p : PredM) (ka : Option Addr) (kc : Nat) (va : Option Addr) (vc : Nat) (w : World) : (Instr.field 119 (.agg (predV p ka kc va vc)) 2).run Tryz.prog w = .ok (.slice ka p.kinds.length kc) w := by kernel_rfl
/-- The map of classes written. -/
theorem Res.put {w' : World} {seen' : List Bytes} (h : Res R S st mp it seen w) (hf : Fr (fun k => k = mp.C) w w') (hc : CMap w' mp.C seen') : Res R S st mp it seen' w' := by
  have hb : ∀ k, k < w.heap.size → k ≠ mp.C → w'.heap[k]? = w.heap[k]? := hf.block
  have hR := loc_lt h.box
  obtain ⟨n1, n2, n3, n4, n5, n6, n7, n8⟩ := h.ne
  obtain ⟨m1, m2, m3, m4, m5, m6, m7⟩ := h.nc
  exact ⟨(hb R hR (by omega)).trans h.box, h.rep.keep fun g hg => hb g (by omega) (by omega), h.fit, h.mK.keep (hb _ h.mK.lt m1), h.mM.keep (hb _ h.mM.lt m2), h.mP.keep (hb _ h.mP.lt m3), h.mS.keep (hb _ h.mS.lt m4), h.mR.keep (hb _ h.mR.lt m5), h.mE.keep (hb _ h.mE.lt m6), h.mT.keep (hb _ h.mT.lt m7), hc, h.ne, h.nc⟩

set_option maxRecDepth 100000 in
set_option maxHeartbeats 6400000 in
theorem class_any (h : Res R S st mp it seen w) (n : Nat) (hn : n ≤ 4096) (l : List Bytes) {a : Option Addr} {c : Nat} (hl : Strs R w l (.slice a l.length c)) (hseen : seen.length + 16 ≤ 4096) :
    Calls Tryz.prog 68 #[ptr R, .int .i64 n, .slice a l.length c] w fun e w' => Ec R S st mp it (seen ++ l) w (classM S.ctx seen l) e w' := by
  have H := hide h
  have HL := hide hl
  have CW := hide (fun b c => want_any h.c9 b c)
  have hll : l.length ≤ 140737488351232 := by obtain ⟨_, _, _, _, h⟩ := hl.form; exact h
  have HCR := hide h.ne.2.2.2.2.2.2.2
  have HRl := hide (loc_lt h.box)
  obtain ⟨o, ho⟩ : ∃ o, classM S.ctx seen l = o := ⟨_, rfl⟩
  rw [ho]
  have HO := hide ho
  unfold classM at HO
  clear h hl ho
  go_enter Tryz.func68, Tryz.ntmps68
  by_cases h2 : (l.length : Int) < 2
  · have h2' : ¬ (2 ≤ (l.length : Int)) := by omega
    rw [decide_eq_false h2', Bool.false_and] at HO
    go_wp2_with fail
    refine (CW.out _ _).mono ?_
    intro e w1 hE
    rcases hE.no with ⟨c1, h3, rfl, hw⟩ | ⟨_, h3, rfl, hw⟩
    · subst w1
      exact on_panic rfl (Ec.bad (ex_no HO.out h3) (.refl _ _))
    · cases h3
  have h2' : 2 ≤ (l.length : Int) := by omega
  rw [decide_eq_true h2', Bool.true_and] at HO
  go_wp2_with fail
  refine (CW.out _ _).mono ?_
  intro e w1 hE
  rcases hE.no with ⟨c1, h3, rfl, hw⟩ | ⟨_, h3, rfl, hw⟩
  · subst w1
    exact on_panic rfl (Ec.bad (ex_no HO.out h3) (.refl _ _))
  subst w1
  have h16 : (l.length : Int) ≤ 16 := by
    by_cases hh : (l.length : Int) ≤ 16
    · exact hh
    · rw [decide_eq_false hh] at h3; cases h3
  have HO1 := hide (ex_go HO.out h3)
  clear hE h3 HO CW h2
  go_wp2_with fail
  go_loopw [21] (fun x wr => ∃ i : Nat, i ≤ l.length ∧ x = .int .i64 i ∧ Hid (Res R S st mp it (seen ++ l.take i) wr) ∧ Hid (Fr (fun k => k = mp.C) w wr) ∧ Hid (classNamesM S.ctx (l.headD []) (seen ++ l.take i) (l.drop i) = o) ∧ Hid (0 < i → ∃ q, findPredM S.ctx (l.headD []) = .ok q)) (fun x _ => l.length - (intOf x).toNat)
  case atStart => exact ⟨0, by omega, rfl, hide (by simpa using H.out), hide (.refl _ _), hide (by simpa using HO1.out), hide (fun h => absurd h (by omega))⟩
  case round =>
    obtain ⟨i, hi, rfl, HR, HF, HK, HQ⟩ := hrel
    clear HO1 H
    by_cases hlt : i < l.length
    · obtain ⟨x, hx⟩ : ∃ x, l[i]? = some x := ⟨l[i], List.getElem?_eq_getElem hlt⟩
      have hlr := HL.out.keep (w' := wr) (fun g hg => HF.out.block g (by have := HRl.out; omega) (by show ¬ g = mp.C; have := HCR.out; omega))
      have HLR := hide hlr
      obtain ⟨g, oo, rfl, hg, e0, hs⟩ := at_S hlr hx
      obtain ⟨f, hf0⟩ : ∃ f, l[0]? = some f := ⟨l[0], List.getElem?_eq_getElem (by omega)⟩
      obtain ⟨g1, oo1, hga, -, f0, hsf⟩ := at_S hlr hf0
      cases hga
      have hhd : l.headD [] = f := by rw [List.headD_eq_head?_getD, List.head?_eq_getElem?, hf0]; rfl
      have HHD := hide hhd
      rw [hhd] at HK HQ
      have HK1 : Hid (classNamesM S.ctx f (seen ++ l.take i) (x :: l.drop (i + 1)) = o) := by rw [← drop_cons hx]; exact HK.out
      unfold classNamesM at HK1
      have HT := hide (take_snoc hx)
      have HX : Hid (0 < i ∨ x = f) := by
        by_cases hi0 : 0 < i
        · exact .inl hi0
        · have : i = 0 := by omega
          subst this
          rw [hf0] at hx
          cases hx
          exact .inr rfl
      have CP := hide (findPred_any HR.out x hs)
      rw [Nat.add_zero] at f0
      have HGW : Hid (g < wr.heap.size) := World.block_lt_of_cell? wr _ e0
      unfold str at *
      clear hlr hx hf0 hhd HK
      go_wp2_with fail
      refine CP.out.mono ?_
      intro e w1 hE
      rcases hE.no with ⟨c1, h3, rfl, hb⟩ | ⟨p, v, h3, rfl, hrp, hb⟩
      · exact ⟨rfl, Ec.bad (ex_no HK1.out h3) (HF.out.trans (.of_below hb))⟩
      obtain ⟨ka, kc, va, vc, rfl, hpn, hpk, hpv⟩ := hrp
      have HK2 := hide (ex_go HK1.out h3)
      obtain ⟨q, hq⟩ : ∃ q, findPredM S.ctx f = .ok q := by
        rcases HX.out with h0 | h0
        · exact HQ.out h0
        · exact ⟨p, h0 ▸ h3⟩
      have hA : Below w1.heap.size w1 (w1.alloc (.cells (predV p ka kc va vc) 119)) := (Below.refl _ _).alloc (Nat.le_refl _) _
      have hB2 : Below wr.heap.size wr (w1.alloc (.cells (predV p ka kc va vc) 119)) := hb.trans (hA.mono hb.size)
      have hR2 := HR.out.below hB2
      have HR2 := hide hR2
      have HF2 := hide (HF.out.trans (.of_below hB2))
      have CW := hide (fun X (hX : Below (w1.alloc (.cells (predV p ka kc va vc) 119)).heap.size (w1.alloc (.cells (predV p ka kc va vc) 119)) X) b c => want_any (hR2.below (w' := X) hX).c9 b c)
      have b1 := cell_of_row _ w1.heap.size 1 _ _ _ (heap_alloc_new w1 (.cells (predV p ka kc va vc) 119))
      have b2 := cell_of_row _ w1.heap.size 2 _ _ _ (heap_alloc_new w1 (.cells (predV p ka kc va vc) 119))
      simp only [predV, List.getElem?_toArray, List.getElem?_cons_zero, List.getElem?_cons_succ] at b1 b2
      have f2 := (World.cell?_of_block (hB2.block g HGW.out)).trans f0
      have HPK := hide (hpk.keep (w' := w1.alloc (.cells (predV p ka kc va vc) 119)) (fun g hg => hA.block g (by have := loc_lt HR.out.box; have := hb.size; omega)))
      simp only [predV] at *
      clear hE h3 hb hA hB2 hR2 HK1 CP hpk hpv hpn e0 f0
      go_wp2_with fail
      refine (CW.out _ (Below.refl _ _) _ _).mono ?_
      intro e w2 hE
      rcases hE.no with ⟨c1, h3, rfl, hw⟩ | ⟨_, h3, rfl, hw⟩
      · subst w2
        exact ⟨rfl, Ec.bad (ex_no HK2.out h3) HF2.out⟩
      subst w2
      have hka := ex_go HK2.out h3
      obtain ⟨ka2, kc2, va2, vc2, HFP, HKQ⟩ : ∃ ka2 kc2 va2 vc2, Hid (∀ X, Below (w1.alloc (.cells #[.string ⟨p.name.toArray⟩, .int .i64 p.sort, .slice ka p.kinds.length kc, .slice va p.values.length vc] 119)).heap.size (w1.alloc (.cells #[.string ⟨p.name.toArray⟩, .int .i64 p.sort, .slice ka p.kinds.length kc, .slice va p.values.length vc] 119)) X → Calls Tryz.prog 98 #[ptr R, .string ⟨f.toArray⟩] X fun e w' => e = .returned (.agg (predV q ka2 kc2 va2 vc2)) ∧ Below (w1.alloc (.cells #[.string ⟨p.name.toArray⟩, .int .i64 p.sort, .slice ka p.kinds.length kc, .slice va p.values.length vc] 119)).heap.size (w1.alloc (.cells #[.string ⟨p.name.toArray⟩, .int .i64 p.sort, .slice ka p.kinds.length kc, .slice va p.values.length vc] 119)) w') ∧ Hid (Strs R (w1.alloc (.cells #[.string ⟨p.name.toArray⟩, .int .i64 p.sort, .slice ka p.kinds.length kc, .slice va p.values.length vc] 119)) q.kinds (.slice ka2 q.kinds.length kc2)) := by
        unfold findPredM at hq
        cases hf : findM S.ctx.names f 82 with
        | error c => rw [hf] at hq; cases hq
        | ok m =>
          rw [hf] at hq
          have hq2 : (Except.ok (S.ctx.preds.getD m noPred) : Er PredM) = .ok q := hq
          injection hq2 with hq3
          obtain ⟨hm1, hm2, hm3⟩ := find_ok hf
          have hlen : m < S.preds.length := by simpa [Ctx.names, StatM.ctx] using hm3
          have hp : S.preds[m]? = some q := by
            rw [List.getElem?_eq_getElem hlen]
            have : S.preds.getD m noPred = q := hq3
            rw [List.getD_eq_getElem?_getD, List.getElem?_eq_getElem hlen] at this
            exact congrArg some this
          obtain ⟨ka2, kc2, va2, vc2, hpa, hpn, hks, hvs⟩ := HR2.out.predAt hp
          refine ⟨ka2, kc2, va2, vc2, fun X hX => ?_, hks⟩
          refine (findPred_ok (HR2.out.below hX) f hsf hf (hpa.below hX)).mono ?_
          rintro e w' ⟨rfl, hb⟩
          exact ⟨rfl, hX.trans (hb.mono hX.size)⟩
      have HEQ : Hid (∀ X, Below (w1.alloc (.cells #[.string ⟨p.name.toArray⟩, .int .i64 p.sort, .slice ka p.kinds.length kc, .slice va p.values.length vc] 119)).heap.size (w1.alloc (.cells #[.string ⟨p.name.toArray⟩, .int .i64 p.sort, .slice ka p.kinds.length kc, .slice va p.values.length vc] 119)) X → Calls Tryz.prog 99 #[.slice ka p.kinds.length kc, .slice ka2 q.kinds.length kc2] X fun e w' => e = .returned (.bool (decide (p.kinds = q.kinds))) ∧ Below (w1.alloc (.cells #[.string ⟨p.name.toArray⟩, .int .i64 p.sort, .slice ka p.kinds.length kc, .slice va p.values.length vc] 119)).heap.size (w1.alloc (.cells #[.string ⟨p.name.toArray⟩, .int .i64 p.sort, .slice ka p.kinds.length kc, .slice va p.values.length vc] 119)) w') := by
        intro X hX
        have hkk : ∀ g, g < R → X.heap[g]? = (w1.alloc (.cells #[.string ⟨p.name.toArray⟩, .int .i64 p.sort, .slice ka p.kinds.length kc, .slice va p.values.length vc] 119)).heap[g]? := fun g hg => hX.block g (by have := loc_lt HR2.out.box; omega)
        have k1 := HPK.out.keep hkk
        have k2 := HKQ.out.keep hkk
        refine (equalS_any k1.at1 k2.at1 (by obtain ⟨_, _, _, _, h⟩ := k1.form; exact h)).mono ?_
        rintro e w' ⟨rfl, qq, rfl⟩
        exact ⟨rfl, hX.trans ((below_drewN X qq).mono hX.size)⟩
      have HK3 := hide (ex_go hka hq)
      clear hE h3 HK2 hka
      go_upto_region 6 with fail
      refine region_lastC (C := fun X => Below (w1.alloc (.cells #[.string ⟨p.name.toArray⟩, .int .i64 p.sort, .slice ka p.kinds.length kc, .slice va p.values.length vc] 119)).heap.size (w1.alloc (.cells #[.string ⟨p.name.toArray⟩, .int .i64 p.sort, .slice ka p.kinds.length kc, .slice va p.values.length vc] 119)) X) ⟨rfl, rfl, rfl, Nat.le_refl _, fun _ _ => rfl⟩ (by kernel_rfl) (by kernel_rfl) (by kernel_rfl) (by kernel_rfl) (by kernel_rfl) ?_
      dsimp only [List.dropLast, List.getLast, List.cons_append, List.nil_append]
      have hle : 0 < l.length := by omega
      go_big_quiet_step (fail)
      refine BigFrame.wpQuiet_want rfl (fun K hK => ?_)
      refine quiet_run (.pointer (some ⟨w1.heap.size, 2, none⟩)) (fun X hX => ?_) (hK _ ?_)
      · go_simp
      clear hK K
      refine BigFrame.wpQuiet_want rfl (fun K hK => ?_)
      refine quiet_run (.slice ka p.kinds.length kc) (fun X hX => ?_) (hK _ ?_)
      · have hc := (World.cell?_of_block (hX.block w1.heap.size (by simp))).trans b2
        go_simp
      clear hK K
      refine BigFrame.wpQuiet_want rfl (fun K hK => ?_)
      refine quiet_run (ptr R) (fun X hX => ?_) (hK _ ?_)
      · go_simp
      clear hK K
      refine BigFrame.wpQuiet_want rfl (fun K hK => ?_)
      refine quiet_run (.slice (some ⟨g, oo, none⟩) l.length c) (fun X hX => ?_) (hK _ ?_)
      · go_simp
      clear hK K
      refine BigFrame.wpQuiet_want rfl (fun K hK => ?_)
      refine quiet_run (.pointer (some ⟨g, oo, none⟩)) (fun X hX => ?_) (hK _ ?_)
      · go_simp
      clear hK K
      refine BigFrame.wpQuiet_want rfl (fun K hK => ?_)
      refine quiet_run (.string ⟨f.toArray⟩) (fun X hX => ?_) (hK _ ?_)
      · have hc := (World.cell?_of_block (hX.block g (World.block_lt_of_cell? _ _ f2))).trans f2
        go_simp
      clear hK K
      refine BigFrame.wpQuiet_want rfl (fun K hK => ?_)
      refine quiet_enter (.agg (predV q ka2 kc2 va2 vc2)) 98 #[ptr R, .string ⟨f.toArray⟩] (fun X hX => ?_) (fun X hX => HFP.out X hX) (hK _ ?_)
      · go_simp
      clear hK K
      refine BigFrame.wpQuiet_want rfl (fun K hK => ?_)
      refine quiet_run (.slice ka2 q.kinds.length kc2) (fun X hX => ?_) (hK _ ?_)
      · have hfl := fld_kinds q ka2 kc2 va2 vc2 X
        go_simp
      clear hK K
      refine BigFrame.wpQuiet_want rfl (fun K hK => ?_)
      refine quiet_enter (.bool (decide (p.kinds = q.kinds))) 99 #[.slice ka p.kinds.length kc, .slice ka2 q.kinds.length kc2] (fun X hX => ?_) (fun X hX => HEQ.out X hX) (hK _ ?_)
      · go_simp
      clear hK K
      refine wpQuiet_nil ?_
      intro X hX
      have HX := hide hX
      have hRX := HR2.out.below hX
      have HRX := hide hRX
      have HFX := hide (HF2.out.trans (.of_below hX))
      have CWX := hide (fun b c => want_any hRX.c9 b c)
      have c17 := hRX.c17
      have CPX := hide (putC_any hRX.mC (by simp; omega) x hs n (by omega))
      have hc9 := hRX.c9
      have HCn := hide (hRX.ne.2.2.2.2.2.2.2)
      unfold str at CPX
      generalize decide (x ∈ seen ++ l.take i) = bx at CPX HK3
      clear hX hRX CW HFP HEQ HKQ HPK
      go_wp2_with fail
      refine (CWX.out _ _).mono ?_
      intro e w2 hE
      rcases hE.no with ⟨c1, h3, rfl, hw⟩ | ⟨_, h3, rfl, hw⟩
      · subst w2
        exact ⟨rfl, Ec.bad (ex_no HK3.out h3) HFX.out⟩
      subst w2
      have HK4 := hide (ex_go HK3.out h3)
      clear hE h3 HK3 CWX
      go_wp2_with fail
      refine CPX.out.mono ?_
      rintro _ w3 ⟨rfl, hcm, hfr⟩
      have HR3 := hide (HRX.out.put hfr hcm)
      have HF3 := hide (HFX.out.trans hfr)
      have CW3 := hide (fun b c => want_any HR3.out.c9 b c)
      clear hcm hfr CPX c17 hc9 HRX HFX
      go_wp2_with fail
      refine (CW3.out _ _).mono ?_
      intro e w4 hE
      rcases hE.no with ⟨c1, h3, rfl, hw⟩ | ⟨_, h3, rfl, hw⟩
      · subst w4
        exact ⟨rfl, Ec.bad (ex_no HK4.out h3) HF3.out⟩
      subst w4
      have HK5 := hide (ex_go HK4.out h3)
      clear hE h3 HK4 CW3
      go_wp2_with fail
      go_roundw
      case rel =>
        refine ⟨i + 1, by omega, by go_num, hide ?_, HF3, hide ?_, hide ?_⟩
        · rw [HT.out, ← List.append_assoc]; exact HR3.out
        · rw [HT.out, ← List.append_assoc, HHD.out]; exact HK5.out
        · intro _; rw [HHD.out]; exact ⟨q, hq⟩
      case measure => simp [intOf]; omega
    · have hi' : i = l.length := by omega
      subst hi'
      have HE : .ok () = o := by
        have := HK.out
        rw [List.drop_eq_nil_of_le (Nat.le_refl _)] at this
        exact this
      have hr := HR.out
      rw [List.take_of_length_le (Nat.le_refl _)] at hr
      have HRE := hide hr
      clear hr
      go_wp2_with fail
      go_end0
      exact Ec.ok HE HF.out HRE.out
end
end Go.Proofs.YtbdlgglbcaoakaaGreat
/- The classes, one behind the other. -/
namespace Go.Proofs.YtbdlgglbcaoakaaGreat
open Go.RowKit Go.Shelf Go.Maps Go.WideMaps
section
variable {R : Nat} {S : StatM} {st : St9} {mp : Mp8} {it : Nat} {seen seen' : List Bytes} {w w' : World}
theorem Ec.no {o : Er Unit} {e : Ending} (h : Ec R S st mp it seen' w o e w') : (∃ c, o = .error c ∧ e = .panicked [fl c it] ∧ Fr (fun k => k = mp.C) w w') ∨ (o = .ok () ∧ e = .returned (.tuple #[]) ∧ Res R S st mp it seen' w' ∧ Fr (fun k => k = mp.C) w w') := by
  obtain ⟨hf, h⟩ := h
  cases o with
  | ok a => exact .inr ⟨rfl, h.1, h.2, hf⟩
  | error c => exact .inl ⟨c, rfl, h, hf⟩
theorem class_len {C : Ctx} {s l : List Bytes} (h : classM C s l = .ok ()) : l.length ≤ 16 := by
  unfold classM at h
  obtain ⟨_, h1, _⟩ := ex_ok h
  apply Classical.byContradiction
  intro hn
  rw [decide_eq_false (show ¬ ((l.length : Int) ≤ 16) by omega), Bool.and_false] at h1
  cases h1
theorem flat_snoc {l : List (List Bytes)} {i : Nat} {x : List Bytes} (hx : l[i]? = some x) : (l.take (i + 1)).flatten = (l.take i).flatten ++ x := by
  rw [take_snoc hx]; simp
abbrev clsM (S : StatM) : Nat → List Bytes → Er Unit := fun n l => classM S.ctx (S.classes.take n).flatten l
set_option maxRecDepth 100000 in
set_option maxHeartbeats 12800000 in
theorem eachC_any (h : Res R S st mp it [] w) {a : Option Addr} {c : Nat} (hl : RR R 1 (cClass R) w S.classes (.slice a S.classes.length c)) (hit : it ≤ 4096) (hn : S.classes.length ≤ 64) :
    Calls Tryz.prog 67 #[ptr R, .slice a S.classes.length c, .func (.func 68) #[ptr R] #[]] w fun e w' => Ee R S st mp it S.classes.flatten w (S.classes.mapIdx (clsM S)) e w' := by
  have H := hide h
  have HL := hide hl
  clear h hl
  go_enter Tryz.func67, Tryz.ntmps67
  go_wp2_with fail
  go_loopw [10] (fun x wr => ∃ i : Nat, i ≤ S.classes.length ∧ x = .int .i64 i ∧ Hid (Res R S st mp (it + i) (S.classes.take i).flatten wr) ∧ Hid (Fr (Zi R mp) w wr) ∧ Hid (AllOk ((S.classes.mapIdx (clsM S)).take i)) ∧ ((S.classes.take i).flatten).length ≤ 16 * i) (fun x _ => S.classes.length - (intOf x).toNat)
  case atStart => exact ⟨0, by omega, rfl, H, hide (.refl _ _), hide (by rw [List.take_zero]; exact AllOk.nil), by simp⟩
  case round =>
    obtain ⟨i, hi, rfl, HR, HF, HA, hsn⟩ := hrel
    by_cases hlt : i < S.classes.length
    · obtain ⟨x, hx⟩ : ∃ x, S.classes[i]? = some x := ⟨S.classes[i], List.getElem?_eq_getElem hlt⟩
      have HI : Hid ((S.classes.mapIdx (clsM S))[i]? = some (clsM S i x)) := by rw [List.getElem?_mapIdx, hx]; rfl
      have hl2 := RR.keep HL.out (zi_keep H.out HF.out) (fun _ _ h => h.keep (zi_keep H.out HF.out))
      obtain ⟨gg, oo, ka, kc, hga, hg, e0, hks⟩ := at_C hl2 hx
      cases hga
      have CK := hide (class_any HR.out i (by omega) x hks (by omega))
      have HX := hide (flat_snoc hx)
      clear hx hl2 hks
      go_wp2_with fail
      refine CK.out.mono ?_
      intro e w2 hE
      rcases hE.no with ⟨c1, h3, rfl, hf⟩ | ⟨h3, rfl, hR2, hf⟩
      · exact ⟨rfl, Ee.bad (HF.out.trans (hf.mono fun k _ hk => .inr hk)) HA.out HI.out h3⟩
      have HA2 := hide (AllOk.snoc HA.out HI.out h3)
      rw [← HX.out] at hR2
      have hlen : ((S.classes.take (i + 1)).flatten).length ≤ 16 * (i + 1) := by
        have := class_len h3
        rw [HX.out, List.length_append]
        omega
      have HR2 := hide hR2.count
      have HF2 := hide ((HF.out.trans (hf.mono fun k _ hk => .inr hk)).trans (.setCell ⟨R, 9, none⟩ (.int .i64 ((it + i + 1 : Nat) : Int)) (.inl rfl)))
      have r9 := hR2.c9
      have rz := hR2.frz 9
      have hcast : (((it + i : Nat) : Int) + 1) = ((it + i + 1 : Nat) : Int) := by omega
      clear hE h3 hf CK hR2 HR HF HA HI HX
      go_wp2_with fail
      go_roundw
      case rel => exact ⟨i + 1, by omega, by go_num, HR2, HF2, HA2, hlen⟩
      case measure => simp [intOf]; omega
    · have e : i = S.classes.length := by omega
      go_wp2_with fail
      go_end0
      exact Ee.ok (n := i) HF.out (by rw [List.length_mapIdx]; omega) (by rw [List.length_mapIdx]; omega) HA.out (by
        have := HR.out
        rw [e, List.take_length] at this
        rw [e]
        exact this)
end
end Go.Proofs.YtbdlgglbcaoakaaGreat
/- How long the lists may be. -/
namespace Go.Proofs.YtbdlgglbcaoakaaGreat
open Go.RowKit Go.Shelf Go.Maps Go.WideMaps
section
variable {R : Nat} {S : StatM} {st : St9} {w w' : World}
/-- A resolver that has numbered nothing yet. -/
structure Raw (R : Nat) (S : StatM) (st : St9) (w : World) : Prop where
  box : w.heap[R]? = some (.cells #[st.title, st.kinds, st.members, st.preds, st.classes, st.sources, st.rules, st.excepts, st.totals, .int .i64 0, .map none, .map none, .map none, .map none, .map none, .map none, .map none, .map none] 86 (0, 0))
  rep : SR R w S st
theorem Raw.keep (h : Raw R S st w) (hb : ∀ k, k < w.heap.size → w'.heap[k]? = w.heap[k]?) : Raw R S st w' := by
  have hR := loc_lt h.box
  exact ⟨(hb R hR).trans h.box, h.rep.keep fun g hg => hb g (by omega)⟩
theorem Raw.below (h : Raw R S st w) (hb : Below w.heap.size w w') : Raw R S st w' := h.keep hb.block
def countsM (S : StatM) : Er Unit :=
  wantM (decide ((S.kinds.length : Int) ≤ 16)) 3 >>= fun _ => wantM (decide ((S.members.length : Int) ≤ 64)) 3 >>= fun _ => wantM (decide ((S.preds.length : Int) ≤ 256)) 3 >>= fun _ => wantM (decide ((S.classes.length : Int) ≤ 64)) 3 >>= fun _ =>
  wantM (decide ((S.sources.length : Int) ≤ 64)) 3 >>= fun _ => wantM (decide ((S.rules.length : Int) ≤ 512)) 3 >>= fun _ => wantM (decide ((S.excepts.length : Int) ≤ 512)) 3 >>= fun _ => wantM (decide ((S.totals.length : Int) ≤ 64)) 3
set_option maxRecDepth 100000 in
set_option maxHeartbeats 12800000 in
theorem counts_any (h : Raw R S st w) : Calls Tryz.prog 28 #[ptr R] w fun e w' => Ed w 0 rU (countsM S) e w' := by
  obtain ⟨tt, ht⟩ := h.rep.title
  obtain ⟨a1, b1, f1, _, l1⟩ := h.rep.kinds.form
  obtain ⟨a2, b2, f2, _, l2⟩ := h.rep.members.form
  obtain ⟨a3, b3, f3, _, l3⟩ := h.rep.preds.form
  obtain ⟨a4, b4, f4, _, l4⟩ := h.rep.classes.form
  obtain ⟨a5, b5, f5, _, l5⟩ := h.rep.sources.form
  obtain ⟨a6, b6, f6, _, l6⟩ := h.rep.rules.form
  obtain ⟨a7, b7, f7, _, l7⟩ := h.rep.excepts.form
  obtain ⟨a8, b8, f8, _, l8⟩ := h.rep.totals.form
  have hb := h.box
  rw [ht, f1, f2, f3, f4, f5, f6, f7, f8] at hb
  have y0 := cell_of_row w R 0 _ _ _ hb
  have y1 := cell_of_row w R 1 _ _ _ hb
  have y2 := cell_of_row w R 2 _ _ _ hb
  have y3 := cell_of_row w R 3 _ _ _ hb
  have y4 := cell_of_row w R 4 _ _ _ hb
  have y5 := cell_of_row w R 5 _ _ _ hb
  have y6 := cell_of_row w R 6 _ _ _ hb
  have y7 := cell_of_row w R 7 _ _ _ hb
  have y8 := cell_of_row w R 8 _ _ _ hb
  have y9 := cell_of_row w R 9 _ _ _ hb
  simp only [List.getElem?_toArray, List.getElem?_cons_zero, List.getElem?_cons_succ] at y0 y1 y2 y3 y4 y5 y6 y7 y8 y9
  have hA : Below w.heap.size w (w.alloc (.cells #[.string tt, .slice a1 S.kinds.length b1, .slice a2 S.members.length b2, .slice a3 S.preds.length b3, .slice a4 S.classes.length b4, .slice a5 S.sources.length b5, .slice a6 S.rules.length b6, .slice a7 S.excepts.length b7, .slice a8 S.totals.length b8] 31)) := (Below.refl _ _).alloc (Nat.le_refl _) _
  have HA := hide hA
  have CW := hide (fun b c => want_any (it := 0) ((World.cell?_of_block (hA.block R (loc_lt hb))).trans y9) b c)
  obtain ⟨o, ho⟩ : ∃ o, countsM S = o := ⟨_, rfl⟩
  rw [ho]
  have HO0 := hide ho
  unfold countsM at HO0
  clear h hb ht f1 f2 f3 f4 f5 f6 f7 f8 hA ho y9
  go_enter Tryz.func28, Tryz.ntmps28
  go_wp2_with fail
  refine (CW.out _ _).mono ?_
  intro e w2 hE
  rcases hE.no with ⟨c1, h3, rfl, hw⟩ | ⟨_, h3, rfl, hw⟩
  · subst w2
    exact on_panic rfl (Ed.bad (ex_no HO0.out h3) HA.out)
  subst w2
  have HO1 := hide (ex_go HO0.out h3)
  clear hE h3 HO0
  go_wp2_with fail
  refine (CW.out _ _).mono ?_
  intro e w2 hE
  rcases hE.no with ⟨c1, h3, rfl, hw⟩ | ⟨_, h3, rfl, hw⟩
  · subst w2
    exact on_panic rfl (Ed.bad (ex_no HO1.out h3) HA.out)
  subst w2
  have HO2 := hide (ex_go HO1.out h3)
  clear hE h3 HO1
  go_wp2_with fail
  refine (CW.out _ _).mono ?_
  intro e w2 hE
  rcases hE.no with ⟨c1, h3, rfl, hw⟩ | ⟨_, h3, rfl, hw⟩
  · subst w2
    exact on_panic rfl (Ed.bad (ex_no HO2.out h3) HA.out)
  subst w2
  have HO3 := hide (ex_go HO2.out h3)
  clear hE h3 HO2
  go_wp2_with fail
  refine (CW.out _ _).mono ?_
  intro e w2 hE
  rcases hE.no with ⟨c1, h3, rfl, hw⟩ | ⟨_, h3, rfl, hw⟩
  · subst w2
    exact on_panic rfl (Ed.bad (ex_no HO3.out h3) HA.out)
  subst w2
  have HO4 := hide (ex_go HO3.out h3)
  clear hE h3 HO3
  go_wp2_with fail
  refine (CW.out _ _).mono ?_
  intro e w2 hE
  rcases hE.no with ⟨c1, h3, rfl, hw⟩ | ⟨_, h3, rfl, hw⟩
  · subst w2
    exact on_panic rfl (Ed.bad (ex_no HO4.out h3) HA.out)
  subst w2
  have HO5 := hide (ex_go HO4.out h3)
  clear hE h3 HO4
  go_wp2_with fail
  refine (CW.out _ _).mono ?_
  intro e w2 hE
  rcases hE.no with ⟨c1, h3, rfl, hw⟩ | ⟨_, h3, rfl, hw⟩
  · subst w2
    exact on_panic rfl (Ed.bad (ex_no HO5.out h3) HA.out)
  subst w2
  have HO6 := hide (ex_go HO5.out h3)
  clear hE h3 HO5
  go_wp2_with fail
  refine (CW.out _ _).mono ?_
  intro e w2 hE
  rcases hE.no with ⟨c1, h3, rfl, hw⟩ | ⟨_, h3, rfl, hw⟩
  · subst w2
    exact on_panic rfl (Ed.bad (ex_no HO6.out h3) HA.out)
  subst w2
  have HO7 := hide (ex_go HO6.out h3)
  clear hE h3 HO6
  go_wp2_with fail
  refine (CW.out _ _).mono ?_
  intro e w2 hE
  rcases hE.no with ⟨c1, h3, rfl, hw⟩ | ⟨_, h3, rfl, hw⟩
  · subst w2
    exact on_panic rfl (Ed.bad (h3.symm.trans HO7.out) HA.out)
  subst w2
  go_wp2_with fail
  go_end0
  exact Ed.ok (h3.symm.trans HO7.out) rfl HA.out
theorem want_err {b : Bool} {c c' : Int} {β : Type} {f : Unit → Er β} (h : (wantM b c >>= f) = .error c') : c' = c ∨ f () = .error c' := by
  cases b
  · left; injection h with e; exact e.symm
  · exact .inr h
theorem want_err1 {b : Bool} {c c' : Int} (h : wantM b c = .error c') : c' = c := by
  cases b
  · injection h with e; exact e.symm
  · cases h
theorem counts_fits (h : S.fitsB = true) : countsM S = .ok () := by
  unfold StatM.fitsB at h
  simp only [Bool.and_eq_true, decide_eq_true_eq] at h
  obtain ⟨⟨⟨⟨⟨⟨⟨h1, h2⟩, h3⟩, h4⟩, h5⟩, h6⟩, h7⟩, h8⟩ := h
  unfold countsM
  rw [decide_eq_true (by omega : (S.kinds.length : Int) ≤ 16), decide_eq_true (by omega : (S.members.length : Int) ≤ 64), decide_eq_true (by omega : (S.preds.length : Int) ≤ 256), decide_eq_true (by omega : (S.classes.length : Int) ≤ 64), decide_eq_true (by omega : (S.sources.length : Int) ≤ 64), decide_eq_true (by omega : (S.rules.length : Int) ≤ 512), decide_eq_true (by omega : (S.excepts.length : Int) ≤ 512), decide_eq_true (by omega : (S.totals.length : Int) ≤ 64)]
  rfl
theorem counts_not (h : S.fitsB = false) : countsM S = .error 3 := by
  cases hc : countsM S with
  | error c =>
    unfold countsM at hc
    rcases want_err hc with rfl | hc
    · rfl
    rcases want_err hc with rfl | hc
    · rfl
    rcases want_err hc with rfl | hc
    · rfl
    rcases want_err hc with rfl | hc
    · rfl
    rcases want_err hc with rfl | hc
    · rfl
    rcases want_err hc with rfl | hc
    · rfl
    rcases want_err hc with rfl | hc
    · rfl
    rcases want_err1 hc with rfl
    rfl
  | ok u =>
    exfalso
    unfold countsM at hc
    obtain ⟨_, h1, hc⟩ := ex_ok hc
    obtain ⟨_, h2, hc⟩ := ex_ok hc
    obtain ⟨_, h3, hc⟩ := ex_ok hc
    obtain ⟨_, h4, hc⟩ := ex_ok hc
    obtain ⟨_, h5, hc⟩ := ex_ok hc
    obtain ⟨_, h6, hc⟩ := ex_ok hc
    obtain ⟨_, h7, h8⟩ := ex_ok hc
    have g : ∀ {b : Bool} {c : Int} {u : Unit}, wantM b c = .ok u → b = true := by
      intro b c u h
      cases b
      · cases h
      · rfl
    have k1 := of_decide_eq_true (g h1)
    have k2 := of_decide_eq_true (g h2)
    have k3 := of_decide_eq_true (g h3)
    have k4 := of_decide_eq_true (g h4)
    have k5 := of_decide_eq_true (g h5)
    have k6 := of_decide_eq_true (g h6)
    have k7 := of_decide_eq_true (g h7)
    have k8 := of_decide_eq_true (g h8)
    have : S.fitsB = true := by
      unfold StatM.fitsB
      simp only [Bool.and_eq_true, decide_eq_true_eq]
      refine ⟨⟨⟨⟨⟨⟨⟨?_, ?_⟩, ?_⟩, ?_⟩, ?_⟩, ?_⟩, ?_⟩, ?_⟩ <;> omega
    rw [h] at this
    cases this
end
end Go.Proofs.YtbdlgglbcaoakaaGreat
