/- The page's pred: may a predicate stand so? -/
import Derived.Test.YtbdlgglbcaoakaaGreatRefSp
import Derived.Test.YtbdlgglbcaoakaaGreatCheck8
namespace Go.Proofs.YtbdlgglbcaoakaaGreat
open Go.RowKit Go.Shelf Go.Maps Go.WideMaps

theorem ef {β : Type} {b : Bool} {c z : Int} {f : Unit → Er β} (H : erc (wantM b c >>= f) = z) (h : b = false) : c = z := (erc_f h).symm.trans H
theorem et {β : Type} {b : Bool} {c z : Int} {f : Unit → Er β} (H : erc (wantM b c >>= f) = z) (h : b = true) : erc (f ()) = z := (erc_t h).symm.trans H
theorem eg {α β : Type} {x : Er α} {f : α → Er β} {a : α} {z : Int} (H : erc (x >>= f) = z) (h : x = .ok a) : erc (f a) = z := (erc_go h).symm.trans H
theorem es {α β : Type} {x : Er α} {f : α → Er β} {c z : Int} (H : erc (x >>= f) = z) (h : x = .error c) : c = z := (erc_stop h).symm.trans H
theorem Lk.cellE {w X : World} (h : Lk w X) {g i : Nat} {u : Value} (hc : w.cell? ⟨g, i, none⟩ = some u) : X.cell? ⟨g, i, none⟩ = some u := (h.cell _).trans hc
theorem Lk.drewN {w X : World} (h : Lk w X) (q : Nat) : Lk w (X.drewN q) := ⟨h.heap, h.os, h.tape, h.output⟩
theorem Lk.at1 {w X : World} (h : Lk w X) {a : Option Addr} {vs : List Value} (hc : At1 w a vs) : At1 X a vs := hc.below h.below
theorem findM_yes {l : List Bytes} {s : Bytes} {c : Int} (h : s ∈ l) : findM l s c = .ok (posB l s) := by unfold findM; rw [want_t (decide_eq_true h)]; rfl
theorem findM_no {l : List Bytes} {s : Bytes} {c : Int} (h : s ∉ l) : findM l s c = .error c := by unfold findM; rw [want_f (decide_eq_false h)]; rfl
section
variable {S : StatM} {st : St9} {w : World}
set_option maxRecDepth 100000 in
set_option maxHeartbeats 12800000 in
theorem rpred_any (h : SR w.heap.size w S st) (hl : S.preds.length * 24 ≤ 140737488351232) {n : Nat} {p : PredM} (hn : S.preds[n]? = some p) : Calls Tryz.prog 35 #[st.agg, .int .i64 n] w fun e w' => e = .returned (.int .i64 (erc (predM S.ctx n p))) ∧ Below w.heap.size w w' := by
  have hkl : S.kinds.length ≤ 140737488351232 := by obtain ⟨_, _, _, _, h9⟩ := h.kinds.form; exact h9
  have hlt : n < S.preds.length := (List.getElem?_eq_some_iff.1 hn).1
  obtain ⟨tt, ht⟩ := h.title
  obtain ⟨a1, b1, f1, _, _⟩ := h.kinds.form
  obtain ⟨a2, b2, f2, _, _⟩ := h.members.form
  obtain ⟨a3, b3, f3, _, _⟩ := h.preds.form
  obtain ⟨a4, b4, f4, _, _⟩ := h.classes.form
  obtain ⟨a5, b5, f5, _, _⟩ := h.sources.form
  obtain ⟨a6, b6, f6, _, _⟩ := h.rules.form
  obtain ⟨a7, b7, f7, _, _⟩ := h.excepts.form
  obtain ⟨a8, b8, f8, _, _⟩ := h.totals.form
  obtain ⟨s0, s1, s2, s3, s4, s5, s6, s7, s8⟩ := st
  simp only at ht f1 f2 f3 f4 f5 f6 f7 f8
  subst ht f1 f2 f3 f4 f5 f6 f7 f8
  obtain ⟨g, o, ka, kc, va, vc, rfl, hg, d0, d1, d2, d3, hpn, hpk, hpv⟩ := at_P h.preds hn
  have hA : Below w.heap.size w (w.alloc (.cells #[.string tt, .slice a1 S.kinds.length b1, .slice a2 S.members.length b2, .slice (some ⟨g, o, none⟩) S.preds.length b3, .slice a4 S.classes.length b4, .slice a5 S.sources.length b5, .slice a6 S.rules.length b6, .slice a7 S.excepts.length b7, .slice a8 S.totals.length b8] 31)) := (Below.refl _ w).alloc (Nat.le_refl _) _
  have K0 : Hid (Lw w.heap.size S ⟨.string tt, .slice a1 S.kinds.length b1, .slice a2 S.members.length b2, .slice (some ⟨g, o, none⟩) S.preds.length b3, .slice a4 S.classes.length b4, .slice a5 S.sources.length b5, .slice a6 S.rules.length b6, .slice a7 S.excepts.length b7, .slice a8 S.totals.length b8⟩ w (w.alloc (.cells #[.string tt, .slice a1 S.kinds.length b1, .slice a2 S.members.length b2, .slice (some ⟨g, o, none⟩) S.preds.length b3, .slice a4 S.classes.length b4, .slice a5 S.sources.length b5, .slice a6 S.rules.length b6, .slice a7 S.excepts.length b7, .slice a8 S.totals.length b8] 31))) := hide ⟨hA, h.keep fun g hg => hA.block g hg, heap_alloc_new w _⟩
  have hpk9 : p.kinds.length ≤ 140737488351232 := by obtain ⟨_, _, _, _, h9⟩ := hpk.form; exact h9
  obtain ⟨_, _, hve, hvcap, hpv9⟩ := hpv.form
  simp only [Value.slice.injEq] at hve
  obtain ⟨-, -, rfl⟩ := hve
  have HPK := hide hpk
  have HPV := hide hpv
  have HKS := hide h.kinds
  have HG := hide hg
  have HD0 := hide d0
  have HD1 := hide d1
  have HD2 := hide d2
  have HD3 := hide d3
  obtain ⟨z, hz⟩ : ∃ z, erc (predM S.ctx n p) = z := ⟨_, rfl⟩
  rw [hz]
  have HZ := hide hz
  unfold predM at HZ
  have hnm : S.ctx.names.getD n [] = p.name := by show (S.preds.map (·.name)).getD n [] = p.name; rw [List.getD_eq_getElem?_getD, List.getElem?_map, hn]; rfl
  have CP := hide (rpreds_any K0.out.sr hl)
  obtain ⟨H, hH⟩ : ∃ H, H = w.heap.size := ⟨_, rfl⟩
  rw [← hH] at K0 HPK HPV HKS HG ⊢
  clear h hA hn hz hpk hpv hg d0 d1 d2 d3
  unfold St9.agg at *
  simp only at *
  obtain ⟨c0, c1, c2, c3, c4, c5, c6, c7, c8, cf⟩ := K0.out.cells
  simp only at c0 c1 c2 c3 c4 c5 c6 c7 c8
  clear cf
  go_enter Tryz.func35, Tryz.ntmps35
  go_upto_region 1 with fail
  rw [← hH]
  clear hH
  go_wp2_with fail
  refine CP.out.mono ?_
  rintro _ w1 ⟨v1, rfl, hv1, hb1⟩
  obtain ⟨xa, xc, rfl⟩ := owns_slice hv1
  have K1 := hide (K0.out.below hb1)
  have hnl : S.ctx.names.length = S.preds.length := List.length_map _
  have CN := hide (rnamed_any (w := w1) (a := xa) (l := S.ctx.names) (c := xc) (n := n) (owns_at1 (owns_down hv1 (Nat.zero_le _))) (by omega) (by omega))
  rw [hnm, hnl] at CN
  have hml : (S.preds.map (·.name)).length = S.preds.length := List.length_map _
  rw [hml]
  clear hb1 hv1 CP K0 c0 c1 c2 c3 c4 c5 c6 c7 c8 hml
  cases hcd : calledM S.ctx.names p.name n with
  | error c =>
    have hzc := es HZ.out hcd
    subst hzc
    have hnz : c ≠ 0 := nz_called _ _ _ c hcd
    have hbq : (c == 0) = false := by simpa using hnz
    rw [erc_no hcd] at CN
    go_wp2_with fail
    refine CN.out.mono ?_
    rintro _ w2 ⟨rfl, hw⟩
    subst w2
    go_wp2_with fail
    go_ret
    exact ⟨rfl, K1.out.low⟩
  | ok u =>
  have HZ1 := hide (eg HZ.out hcd)
  rw [erc_ok hcd] at CN
  have d0 := K1.out.cell HG.out HD0.out
  have d1 := K1.out.cell HG.out HD1.out
  have d2 := K1.out.cell HG.out HD2.out
  have d3 := K1.out.cell HG.out HD3.out
  unfold str at d0
  obtain ⟨c0, c1, c2, c3, c4, c5, c6, c7, c8, cf⟩ := K1.out.cells
  simp only at c0 c1 c2 c3 c4 c5 c6 c7 c8
  clear cf
  have hgl : g < w1.heap.size := by have := loc_lt K1.out.box; have := HG.out; omega
  clear HZ hcd
  go_upto_region 5 with (first | (go_at_call 32; refine CN.out.mono ?_; rintro _ w2 ⟨rfl, hw⟩; subst w2))
  have hA2 : Below w1.heap.size w1 (w1.alloc (.cells #[.string ⟨p.name.toArray⟩, .int .i64 p.sort, .slice ka p.kinds.length kc, .slice va p.values.length vc] 119)) := (Below.refl _ _).alloc (Nat.le_refl _) _
  have K2 := hide (K1.out.below hA2)
  have HBX := hide (heap_alloc_new w1 (.cells #[.string ⟨p.name.toArray⟩, .int .i64 p.sort, .slice ka p.kinds.length kc, .slice va p.values.length vc] 119))
  clear hA2 CN K1 d0 d1 d2 d3 c0 c1 c2 c3 c4 c5 c6 c7 c8
  generalize (w1.alloc (.cells #[.string ⟨p.name.toArray⟩, .int .i64 p.sort, .slice ka p.kinds.length kc, .slice va p.values.length vc] 119)) = w2 at *
  generalize w1.heap.size = pb at *
  have pb1 := cell_of_row w2 pb 1 _ _ _ HBX.out
  have pb2 := cell_of_row w2 pb 2 _ _ _ HBX.out
  have pb3 := cell_of_row w2 pb 3 _ _ _ HBX.out
  simp only [List.getElem?_toArray, List.getElem?_cons_zero, List.getElem?_cons_succ] at pb1 pb2 pb3
  by_cases hs1 : 1 ≤ p.sort
  case neg =>
    have hzc := ef HZ1.out (by rw [decide_eq_false hs1, Bool.false_and])
    subst hzc
    have hs1' : p.sort < 1 := by omega
    go_wp2_with fail
    go_ret
    exact ⟨rfl, K2.out.low⟩
  by_cases hs3 : p.sort ≤ 3
  case neg =>
    have hzc := ef HZ1.out (by rw [decide_eq_false hs3, Bool.and_false])
    subst hzc
    have hs1' : ¬ p.sort < 1 := by omega
    have hs3' : 3 < p.sort := by omega
    go_wp2_with fail
    go_ret
    exact ⟨rfl, K2.out.low⟩
  have HZ2 := hide (et HZ1.out (by rw [decide_eq_true hs1, decide_eq_true hs3]; rfl))
  have hs1' : ¬ p.sort < 1 := by omega
  have hs3' : ¬ 3 < p.sort := by omega
  clear HZ1 hs1 hs3
  by_cases hk4 : (p.kinds.length : Int) ≤ 4
  case neg =>
    have hzc := ef HZ2.out (by rw [decide_eq_false hk4, Bool.false_and])
    subst hzc
    have hk4' : (4 : Int) < (p.kinds.length : Int) := by omega
    go_wp2_with fail
    go_ret
    exact ⟨rfl, K2.out.low⟩
  by_cases hv64 : (p.values.length : Int) ≤ 64
  case neg =>
    have hzc := ef HZ2.out (by rw [decide_eq_false hv64, Bool.and_false])
    subst hzc
    have hk4' : ¬ (4 : Int) < (p.kinds.length : Int) := by omega
    have hv64' : (64 : Int) < (p.values.length : Int) := by omega
    go_wp2_with fail
    go_ret
    exact ⟨rfl, K2.out.low⟩
  have HZ3 := hide (et HZ2.out (by rw [decide_eq_true hk4, decide_eq_true hv64]; rfl))
  have hk4' : ¬ (4 : Int) < (p.kinds.length : Int) := by omega
  have hv64' : ¬ (64 : Int) < (p.values.length : Int) := by omega
  clear HZ2
  go_wp2_with fail
  have HPK2 := hide (Strs.at1 (Strs.keep (w' := w2) (fun g hg => K2.out.low.block g hg) HPK.out))
  have HKS2 := hide (Strs.at1 (Strs.keep (w' := w2) (fun g hg => K2.out.low.block g hg) HKS.out))
  have HPV2 := hide (Moneys.at1 (Moneys.keep (w' := w2) (fun g hg => K2.out.low.block g hg) HPV.out))
  have x1 := cell_of_row w2 H 1 _ _ _ K2.out.box
  simp only [List.getElem?_toArray, List.getElem?_cons_zero, List.getElem?_cons_succ] at x1
  have HB1 := hide pb1
  have HB2 := hide pb2
  have HB3 := hide pb3
  have HX1 := hide x1
  clear pb1 pb2 pb3 x1
  have HS3 : Hid (erc (allM (fun _ k => findM S.ctx.kinds k 81 >>= fun _ => .ok ()) 0 (p.kinds.drop 0) >>= fun _ => wantM (decide (0 < (p.values.length : Int)) == decide (p.sort = 3)) 85 >>= fun _ => allM (fun i v => wantM (awardB v && !decide (v ∈ p.values.take i)) 85) 0 p.values) = z) := HZ3
  clear HZ3
  go_loopw [7] (fun x wr => ∃ i : Nat, i ≤ p.kinds.length ∧ x = .int .i64 i ∧ Hid (Lk w2 wr) ∧ Hid (erc (allM (fun _ k => findM S.ctx.kinds k 81 >>= fun _ => .ok ()) i (p.kinds.drop i) >>= fun _ => wantM (decide (0 < (p.values.length : Int)) == decide (p.sort = 3)) 85 >>= fun _ => allM (fun i v => wantM (awardB v && !decide (v ∈ p.values.take i)) 85) 0 p.values) = z)) (fun x _ => p.kinds.length - (intOf x).toNat)
  case atStart => exact ⟨0, by omega, rfl, hide .of, HS3⟩
  case round =>
    clear HS3
    obtain ⟨i, hi, rfl, HK, HZ⟩ := hrel
    have pb1 := HK.out.cellE HB1.out
    have pb2 := HK.out.cellE HB2.out
    have pb3 := HK.out.cellE HB3.out
    have x1 := HK.out.cellE HX1.out
    by_cases hil : i < p.kinds.length
    · obtain ⟨s, hs⟩ : ∃ s, p.kinds[i]? = some s := ⟨p.kinds[i], List.getElem?_eq_getElem hil⟩
      obtain ⟨gk, ok, rfl, e0⟩ := (HK.out.at1 HPK2.out).str hil
      have hgd : p.kinds.getD i [] = s := by rw [List.getD_eq_getElem?_getD, hs]; rfl
      rw [hgd] at e0
      have hz1 := HZ.out
      rw [drop_c hs] at hz1
      simp only [allM] at hz1
      have CF := hide (fun q => rfind_any (w := wr.drewN q) (c := b1) (HK.out.drewN q |>.at1 HKS2.out) hkl s)
      unfold str at CF
      clear hs hgd HZ
      by_cases hm : s ∈ S.kinds
      · rw [findZ_in hm] at CF
        have HZ2 : Hid (erc (allM (fun _ k => findM S.ctx.kinds k 81 >>= fun _ => .ok ()) (i + 1) (p.kinds.drop (i + 1)) >>= fun _ => wantM (decide (0 < (p.values.length : Int)) == decide (p.sort = 3)) 85 >>= fun _ => allM (fun i v => wantM (awardB v && !decide (v ∈ p.values.take i)) 85) 0 p.values) = z) := by
          have h1 : findM S.ctx.kinds s 81 = .ok (posB S.kinds s) := findM_yes hm
          rw [h1] at hz1
          exact hz1
        clear hm hz1
        go_upto_region 12 with fail
        go_quiet ((go_at_call 34; exact Calls.quiet_of_same (CF.out _)))
        rename Nat => q
        go_wp2_with fail
        go_roundw
        case rel => exact ⟨i + 1, by omega, by go_num, hide (HK.out.drewN q), HZ2⟩
        case measure => simp [intOf]; omega
      · rw [findZ_out hm] at CF
        have hzc : 81 = z := by
          have h1 : findM S.ctx.kinds s 81 = .error 81 := findM_no hm
          rw [h1] at hz1
          exact hz1
        subst hzc
        clear hm hz1
        go_upto_region 12 with fail
        go_quiet ((go_at_call 34; exact Calls.quiet_of_same (CF.out _)))
        rename Nat => q
        go_wp2_with fail
        go_ret
        exact ⟨rfl, (K2.out.below (HK.out.drewN q).below).low⟩
    · have hi' : i = p.kinds.length := by omega
      subst hi'
      have hz1 := HZ.out
      rw [List.drop_length] at hz1
      simp only [allM] at hz1
      have HZ2 : Hid (erc (wantM (decide (0 < (p.values.length : Int)) == decide (p.sort = 3)) 85 >>= fun _ => allM (fun i v => wantM (awardB v && !decide (v ∈ p.values.take i)) 85) 0 p.values) = z) := hz1
      clear hz1 HZ
      have hdv : decide ((0 : Int) < (p.values.length : Int)) = decide (0 < p.values.length) := by rw [Bool.eq_iff_iff]; simp
      by_cases hw : (decide (0 < (p.values.length : Int)) == decide (p.sort = 3)) = true
      case neg =>
        have hzc := ef HZ2.out (by simpa using hw)
        subst hzc
        by_cases h3 : p.sort = 3
        · have h0 : p.values.length = 0 := by
            apply Classical.byContradiction
            intro h0
            exact hw (by rw [decide_eq_true (show (0 : Int) < (p.values.length : Int) by omega), decide_eq_true h3]; rfl)
          rw [h0] at pb3
          rw [h3] at pb1
          go_wp2_with fail
          go_ret
          exact ⟨rfl, (K2.out.below HK.out.below).low⟩
        · have h0 : 0 < p.values.length := by
            apply Classical.byContradiction
            intro h0
            exact hw (by rw [decide_eq_false (show ¬ (0 : Int) < (p.values.length : Int) by omega), decide_eq_false h3]; rfl)
          have hb3 : (p.sort == 3) = false := by simpa using h3
          obtain ⟨vk, hvk⟩ : ∃ vk, p.values.length = vk + 1 := ⟨p.values.length - 1, by omega⟩
          rw [hvk] at pb3
          go_wp2_with fail
          go_ret
          exact ⟨rfl, (K2.out.below HK.out.below).low⟩
      have HZ3 := hide (et HZ2.out hw)
      obtain ⟨W4, hW4⟩ : ∃ W4, W4 = wr := ⟨_, rfl⟩
      subst hW4
      have HSV : Hid (erc (allM (fun i v => wantM (awardB v && !decide (v ∈ p.values.take i)) 85) 0 (p.values.drop 0)) = z) := HZ3
      have HK4 := hide HK.out
      clear HZ3 HZ2 HK hdv
      by_cases h3 : p.sort = 3
      · have h0 : 0 < p.values.length := by
          apply Classical.byContradiction
          intro h0
          rw [decide_eq_false (show ¬ (0 : Int) < (p.values.length : Int) by omega), decide_eq_true h3] at hw
          cases hw
        rw [h3] at pb1
        obtain ⟨vk, hvk⟩ : ∃ vk, p.values.length = vk + 1 := ⟨p.values.length - 1, by omega⟩
        rw [hvk] at pb3
        clear hw
        go_wp2_with fail
        clear pb1 pb2 pb3 x1 hvk
        go_loopw [8] (fun x wr => ∃ i : Nat, i ≤ p.values.length ∧ x = .int .i64 i ∧ Hid (Lk w2 wr) ∧ Hid (erc (allM (fun i v => wantM (awardB v && !decide (v ∈ p.values.take i)) 85) i (p.values.drop i)) = z)) (fun x _ => p.values.length - (intOf x).toNat)
        case atStart => exact ⟨0, by omega, rfl, HK4, HSV⟩
        case round =>
          clear HSV
          obtain ⟨i, hi, rfl, HK, HZ⟩ := hrel
          have pb3 := HK.out.cellE HB3.out
          by_cases hil : i < p.values.length
          · obtain ⟨v, hv⟩ : ∃ v, p.values[i]? = some v := ⟨p.values[i], List.getElem?_eq_getElem hil⟩
            have hz1 := HZ.out
            rw [drop_c hv] at hz1
            simp only [allM] at hz1
            obtain ⟨gv, ov, rfl, e0⟩ := (HK.out.at1 HPV2.out).int hil
            have hgd : p.values.getD i 0 = v := by rw [List.getD_eq_getElem?_getD, hv]; rfl
            rw [hgd] at e0
            have hic : i ≤ vc := by omega
            have hic2 : (i : Int) ≤ (vc : Int) := by omega
            have CM := hide (fun q => rMay_any v (wr.drewN q))
            have htl : (p.values.take i).length = i := by simp; omega
            have CH := hide (fun q => rhas_any (w := wr.drewN q) (c := vc) ((HK.out.drewN q |>.at1 HPV2.out).takeI i) (by omega) v)
            rw [htl] at CH
            unfold awardB at hz1
            clear hv hgd HZ htl
            by_cases hmay : mayB v = true
            case neg =>
              have hmay' : mayB v = false := by simpa using hmay
              rw [hmay', Bool.false_and, Bool.false_and] at hz1
              have hzc := ef hz1 rfl
              subst hzc
              rw [hmay'] at CM
              clear hmay hmay' hz1
              go_upto_region 19 with fail
              go_quiet ((first | (go_at_call 79; exact Calls.quiet_of_same (CM.out _)) | (go_at_call 80; exact Calls.quiet_of_same (CH.out _))))
              rename Nat => q
              go_wp2_with fail
              go_ret
              exact ⟨rfl, (K2.out.below (HK.out.drewN q).below).low⟩
            rw [hmay] at CM hz1
            rw [Bool.true_and] at hz1
            by_cases hneg : v < 0
            · rw [decide_eq_false (show ¬ 0 ≤ v by omega), Bool.false_and] at hz1
              have hzc := ef hz1 rfl
              subst hzc
              have hdn : decide (v < 0) = true := decide_eq_true hneg
              clear hmay hz1
              go_upto_region 19 with fail
              go_quiet ((first | (go_at_call 79; exact Calls.quiet_of_same (CM.out _)) | (go_at_call 80; exact Calls.quiet_of_same (CH.out _))))
              rename Nat => q
              go_wp2_with fail
              go_ret
              exact ⟨rfl, (K2.out.below (HK.out.drewN q).below).low⟩
            rw [decide_eq_true (show 0 ≤ v by omega), Bool.true_and] at hz1
            have hdn : decide (v < 0) = false := decide_eq_false hneg
            cases hb : decide (v ∈ p.values.take i) with
            | true =>
              rw [hb] at CH hz1
              have hzc := ef hz1 rfl
              subst hzc
              clear hmay hz1 hb
              go_upto_region 19 with fail
              go_quiet ((first | (go_at_call 79; exact Calls.quiet_of_same (CM.out _)) | (go_at_call 80; exact Calls.quiet_of_same (CH.out _))))
              rename Nat => q
              go_wp2_with fail
              go_ret
              exact ⟨rfl, (K2.out.below (HK.out.drewN q).below).low⟩
            | false =>
              rw [hb] at CH hz1
              have HZ2 := hide (et hz1 rfl)
              clear hmay hz1 hb
              go_upto_region 19 with fail
              go_quiet ((first | (go_at_call 79; exact Calls.quiet_of_same (CM.out _)) | (go_at_call 80; exact Calls.quiet_of_same (CH.out _))))
              rename Nat => q
              go_wp2_with fail
              go_roundw
              case rel => exact ⟨i + 1, by omega, by go_num, hide (HK.out.drewN q), HZ2⟩
              case measure => simp [intOf]; omega
          · have hi' : i = p.values.length := by omega
            subst hi'
            have hz1 := HZ.out
            rw [List.drop_length] at hz1
            simp only [allM] at hz1
            have hzc : 0 = z := hz1
            subst hzc
            go_wp2_with fail
            go_ret
            exact ⟨rfl, (K2.out.below HK.out.below).low⟩
      · have h0 : p.values.length = 0 := by
          apply Classical.byContradiction
          intro h0
          rw [decide_eq_true (show (0 : Int) < (p.values.length : Int) by omega), decide_eq_false h3] at hw
          cases hw
        have hb3 : (p.sort == 3) = false := by simpa using h3
        have hzc : 0 = z := by
          have hz1 := HSV.out
          rw [List.drop_zero, List.eq_nil_of_length_eq_zero h0] at hz1
          exact hz1
        subst hzc
        rw [h0] at pb3
        clear hw
        go_wp2_with fail
        go_loopw [8] (fun x wr => x = .int .i64 0 ∧ Hid (Lk w2 wr)) (fun _ _ => 0)
        case atStart => exact ⟨rfl, HK4⟩
        case round =>
          obtain ⟨rfl, HK⟩ := hrel
          have pb3 := HK.out.cellE HB3.out
          rw [h0] at pb3
          go_wp2_with fail
          go_ret
          exact ⟨rfl, (K2.out.below HK.out.below).low⟩
end
end Go.Proofs.YtbdlgglbcaoakaaGreat
