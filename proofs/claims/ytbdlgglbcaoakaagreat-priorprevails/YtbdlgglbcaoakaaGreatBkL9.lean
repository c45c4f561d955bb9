/- The page's loose. -/
import Derived.Test.YtbdlgglbcaoakaaGreatBkA9
import Derived.Test.YtbdlgglbcaoakaaGreatBkU9
namespace Go.Proofs.YtbdlgglbcaoakaaGreat
open Go.RowKit Go.Shelf Go.Maps Go.WideMaps

section
variable {W0 : World} {S : StatM} {st : St9} {Z : Nat → Prop} {V B : Nat} {v : Scope} {X : World}
set_option maxRecDepth 100000 in
set_option maxHeartbeats 12800000 in
theorem loose_any (h9 : Pk W0 S st Z V B v X) (hB : B + 1 ≤ 4096) (s : Bytes) : Calls Tryz.prog 106 #[ptr V, st.agg, str s] X fun e X' => Eks W0 S st Z V (B + 1) X (unlikeM S.ctx v s) e X' := by
  have h := h9.sr
  obtain ⟨hfk, hfm, _⟩ := fitB h9.fit
  obtain ⟨tt, ht⟩ := h.title
  obtain ⟨a1, b1, f1, _, _⟩ := h.kinds.form
  obtain ⟨a2, b2, f2, _, _⟩ := h.members.form
  obtain ⟨a3, b3, f3, _, _⟩ := h.preds.form
  obtain ⟨a4, b4, f4, _, _⟩ := h.classes.form
  obtain ⟨a5, b5, f5, _, _⟩ := h.sources.form
  obtain ⟨a6, b6, f6, _, _⟩ := h.rules.form
  obtain ⟨a7, b7, f7, _, _⟩ := h.excepts.form
  obtain ⟨a8, b8, f8, _, _⟩ := h.totals.form
  obtain ⟨s0, s1, s2, s3, s4, s5, s6, s7, s8⟩ := st
  simp only at ht f1 f2 f3 f4 f5 f6 f7 f8
  subst ht f1 f2 f3 f4 f5 f6 f7 f8
  have hA : Below X.heap.size X (X.alloc (.cells #[.string tt, .slice a1 S.kinds.length b1, .slice a2 S.members.length b2, .slice a3 S.preds.length b3, .slice a4 S.classes.length b4, .slice a5 S.sources.length b5, .slice a6 S.rules.length b6, .slice a7 S.excepts.length b7, .slice a8 S.totals.length b8] 31)) := (Below.refl _ X).alloc (Nat.le_refl _) _
  have K0 : Hid (Lw X.heap.size S ⟨.string tt, .slice a1 S.kinds.length b1, .slice a2 S.members.length b2, .slice a3 S.preds.length b3, .slice a4 S.classes.length b4, .slice a5 S.sources.length b5, .slice a6 S.rules.length b6, .slice a7 S.excepts.length b7, .slice a8 S.totals.length b8⟩ X (X.alloc (.cells #[.string tt, .slice a1 S.kinds.length b1, .slice a2 S.members.length b2, .slice a3 S.preds.length b3, .slice a4 S.classes.length b4, .slice a5 S.sources.length b5, .slice a6 S.rules.length b6, .slice a7 S.excepts.length b7, .slice a8 S.totals.length b8] 31))) := hide ⟨hA, h.keep fun g hg => hA.block g hg, heap_alloc_new X _⟩
  have H1 := hide (h9.below hA)
  have HF0 : Hid (Fr Z X (X.alloc (.cells #[.string tt, .slice a1 S.kinds.length b1, .slice a2 S.members.length b2, .slice a3 S.preds.length b3, .slice a4 S.classes.length b4, .slice a5 S.sources.length b5, .slice a6 S.rules.length b6, .slice a7 S.excepts.length b7, .slice a8 S.totals.length b8] 31))) := hide (.of_below hA)
  have CN := hide (rIsName_any s (X.alloc (.cells #[.string tt, .slice a1 S.kinds.length b1, .slice a2 S.members.length b2, .slice a3 S.preds.length b3, .slice a4 S.classes.length b4, .slice a5 S.sources.length b5, .slice a6 S.rules.length b6, .slice a7 S.excepts.length b7, .slice a8 S.totals.length b8] 31)))
  have CV := hide (rIsVar_any s (X.alloc (.cells #[.string tt, .slice a1 S.kinds.length b1, .slice a2 S.members.length b2, .slice a3 S.preds.length b3, .slice a4 S.classes.length b4, .slice a5 S.sources.length b5, .slice a6 S.rules.length b6, .slice a7 S.excepts.length b7, .slice a8 S.totals.length b8] 31)))
  have CM := hide (rmembersS K0.out.sr (by omega))
  obtain ⟨o, ho⟩ : ∃ o, unlikeM S.ctx v s = o := ⟨_, rfl⟩
  rw [ho]
  have HO := hide ho
  unfold unlikeM at HO
  obtain ⟨H, hH⟩ : ∃ H, H = X.heap.size := ⟨_, rfl⟩
  rw [← hH] at K0
  have hVl : V < X.heap.size := by obtain ⟨_, _, _, _, _, _, hb, _⟩ := h9.bk; exact loc_lt hb.box
  clear h9 h hA ho
  unfold St9.agg str at *
  simp only at *
  obtain ⟨c0, c1, c2, c3, c4, c5, c6, c7, c8, cf⟩ := K0.out.cells
  simp only at c0 c1 c2 c3 c4 c5 c6 c7 c8
  clear cf
  cases hnm : isNameB s with
  | true =>
    have hnv := name_not_var hnm
    rw [if_neg (by rw [hnv]; simp)] at HO
    rw [hnm] at CN
    have HO1 : Hid ((findM S.ctx.people s 82 >>= fun _ => .ok v) = o) := by
      have := HO.out
      unfold findMemberM at this
      rw [want_t hnm] at this
      exact this
    have hpl : S.ctx.people.length = S.members.length := List.length_map _
    clear HO CV
    by_cases hmem : s ∈ S.ctx.people
    · have hoo : .ok v = o := by
        have := HO1.out
        rw [findM_yes hmem] at this
        exact this
      have hfz := findZ_in hmem
      clear HO1
      generalize posB S.ctx.people s = p at *
      go_enter Tryz.func106, Tryz.ntmps106
      go_upto_region 1 with fail
      rw [← hH]
      clear hH
      go_wp2_with (first | (go_at_call 77; refine CN.out.mono ?_; rintro _ w1 ⟨rfl, hw⟩; subst w1))
      refine CM.out.mono ?_
      rintro _ w1 ⟨xa, xc, rfl, hat, hb1⟩
      have CF := hide (rfindS (c := xc) hat hpl (by omega) s)
      rw [hfz] at CF
      have HP1 := hide (H1.out.below hb1)
      have HF1 := hide (HF0.out.trans (.of_below hb1))
      clear hat hb1 CM c0 c1 c2 c3 c4 c5 c6 c7 c8
      go_wp2_with (first | (go_at_call 34; refine CF.out.mono ?_; rintro _ wz ⟨rfl, hwz⟩; subst wz))
      go_ret
      exact Eks.ok hoo HF1.out (HP1.out.grow (by omega))
    · have hoo : .error 82 = o := by
        have := HO1.out
        rw [findM_no hmem] at this
        exact this
      have hfz := findZ_out hmem
      clear HO1
      go_enter Tryz.func106, Tryz.ntmps106
      go_upto_region 1 with fail
      rw [← hH]
      clear hH
      go_wp2_with (first | (go_at_call 77; refine CN.out.mono ?_; rintro _ w1 ⟨rfl, hw⟩; subst w1))
      refine CM.out.mono ?_
      rintro _ w1 ⟨xa, xc, rfl, hat, hb1⟩
      have CF := hide (rfindS (c := xc) hat hpl (by omega) s)
      rw [hfz] at CF
      have HF1 := hide (HF0.out.trans (.of_below hb1))
      clear hat hb1 CM
      go_wp2_with (first | (go_at_call 34; refine CF.out.mono ?_; rintro _ wz ⟨rfl, hwz⟩; subst wz))
      go_ret
      exact Eks.bad hoo HF1.out
  | false =>
    rw [hnm] at CN
    cases hvr : isVarB s with
    | false =>
      rw [hvr] at CV
      have hoo : .error 71 = o := by
        have := HO.out
        rw [if_neg (by rw [hvr]; simp)] at this
        unfold findMemberM at this
        rw [want_f hnm] at this
        exact this
      go_enter Tryz.func106, Tryz.ntmps106
      go_upto_region 1 with fail
      rw [← hH]
      clear hH
      go_wp2_with (first | (go_at_call 77; refine CN.out.mono ?_; rintro _ w1 ⟨rfl, hw⟩; subst w1) | (go_at_call 121; refine CV.out.mono ?_; rintro _ w1 ⟨rfl, hw⟩; subst w1))
      go_ret
      exact Eks.bad hoo HF0.out
    | true =>
      rw [hvr] at CV
      have hoo : .ok (standM v s) = o := by
        have := HO.out
        rw [if_pos hvr] at this
        exact this
      obtain ⟨nv, kv, lv, N, Ks, L, hBp, hSim, hNB, hLB⟩ := H1.out.bk
      obtain ⟨la, lc, rfl⟩ := owns_slice hBp.rowL
      obtain ⟨p0, p1, p2⟩ := hBp.cells
      have HBp := hide hBp
      have HS2 := hide (hSim.stand (s := s))
      obtain ⟨iM, hiM, zM0, zM1, zM2⟩ := info_parts' infoS
      clear HO hBp hSim CM K0 c0 c1 c2 c3 c4 c5 c6 c7 c8
      go_enter Tryz.func106, Tryz.ntmps106
      go_upto_region 1 with fail
      rw [← hH]
      clear hH
      generalize X.alloc (.cells #[.string tt, .slice a1 S.kinds.length b1, .slice a2 S.members.length b2, .slice a3 S.preds.length b3, .slice a4 S.classes.length b4, .slice a5 S.sources.length b5, .slice a6 S.rules.length b6, .slice a7 S.excepts.length b7, .slice a8 S.totals.length b8] 31) = w1 at *
      go_upto_region 7 with (first | (go_at_call 77; refine CN.out.mono ?_; rintro _ w9 ⟨rfl, hw⟩; subst w9) | (go_at_call 121; refine CV.out.mono ?_; rintro _ w9 ⟨rfl, hw⟩; subst w9))
      go_upto_region 8 with (at_builtin; go_must (refine wpList_append_two _ rfl _ _ 22 rfl 0 9 iM _ 1 16 Tryz.underlying22 hiM zM0 zM1 zM2 rfl (by decide) _ _ _ rfl (HBp.out.rowL.alloc _) ⟨w1.heap.size, 0, none⟩ 1 [.string ⟨s.toArray⟩] rfl rfl (news_at rfl) (by simp [Value.oneCell']) (by unfold maxLen; omega) (by omega) (Nat.zero_le _) ?_))
      intro g cap w2 hown hg
      obtain ⟨hB2, hF2, q0, qf⟩ := HBp.out.growL H1.out.new hown hg
      have HB2 := hide hB2
      have HF2 := hide hF2
      clear hB2 hF2 hown hg p0 p1 p2
      go_wp2_with fail
      go_ret
      exact Eks.ok hoo (HF0.out.trans HF2.out) (H1.out.fr HF2.out ⟨_, _, _, _, _, _, HB2.out, HS2.out, by omega, by simp; omega⟩)
end
end Go.Proofs.YtbdlgglbcaoakaaGreat
/- The page's premise. -/
namespace Go.Proofs.YtbdlgglbcaoakaaGreat
open Go.RowKit Go.Shelf Go.Maps Go.WideMaps

def premS (C : Ctx) (v : Scope) (p : PremM) : Er Scope :=
  if p.kind = 1 then literalS C v p.lit
  else if p.kind = 2 then guardM C v p.guard
  else if p.kind = 3 then unlikeM C v p.a >>= fun v' => unlikeM C v' p.b
  else .error 1
theorem premS_eq (C : Ctx) (v : Scope) (p : PremM) : premM C v p = premS C v p := by
  unfold premM premS
  rw [literalS_eq]
theorem Eks.up {W0 : World} {S : StatM} {st : St9} {Z Z2 : Nat → Prop} {V B B1 B2 : Nat} {v : Scope} {X X2 X' : World} {o : Er Scope} {e : Ending} (h9 : Pk W0 S st Z V B v X) (hz : ∀ k, Z2 k → Z k) (hf : Fr Z X X2) (hB : B1 ≤ B2) (h : Eks W0 S st Z2 V B1 X2 o e X') : Eks W0 S st Z V B2 X o e X' :=
  ⟨h.1, hf.trans (h.2.1.mono fun k _ e => hz k e), fun v' e => h9.up ((h.2.2 v' e).grow hB) hz⟩
section
variable {W0 : World} {S : StatM} {st : St9} {Z : Nat → Prop} {V B : Nat} {v : Scope} {X : World}
set_option maxRecDepth 100000 in
set_option maxHeartbeats 12800000 in
theorem rprem_any (h9 : Pk W0 S st Z V B v X) (hB : B + 64 ≤ 4096) (hok : PredsOk S) (p : PremM) {ka la ra : Option Addr} {kc lc rc : Nat} (hk : Strs W0.heap.size W0 p.lit.args (.slice ka p.lit.args.length kc)) (hl : Terms W0.heap.size W0 p.guard.left (.slice la p.guard.left.length lc)) (hr : Terms W0.heap.size W0 p.guard.right (.slice ra p.guard.right.length rc)) :
    Calls Tryz.prog 84 #[ptr V, st.agg, .agg #[.int .i64 p.kind, .bool p.lit.neg, .string ⟨p.lit.pred.toArray⟩, .slice ka p.lit.args.length kc, .bool p.lit.hasValue, .int .i64 p.lit.value, .slice la p.guard.left.length lc, .int .i64 p.guard.op, .slice ra p.guard.right.length rc, .string ⟨p.a.toArray⟩, .string ⟨p.b.toArray⟩]] X fun e X' => Eks W0 S st Z V (B + 64) X (premS S.ctx v p) e X' := by
  have h := h9.sr
  obtain ⟨tt, ht⟩ := h.title
  obtain ⟨a1, b1, f1, _, _⟩ := h.kinds.form
  obtain ⟨a2, b2, f2, _, _⟩ := h.members.form
  obtain ⟨a3, b3, f3, _, _⟩ := h.preds.form
  obtain ⟨a4, b4, f4, _, _⟩ := h.classes.form
  obtain ⟨a5, b5, f5, _, _⟩ := h.sources.form
  obtain ⟨a6, b6, f6, _, _⟩ := h.rules.form
  obtain ⟨a7, b7, f7, _, _⟩ := h.excepts.form
  obtain ⟨a8, b8, f8, _, _⟩ := h.totals.form
  obtain ⟨s0, s1, s2, s3, s4, s5, s6, s7, s8⟩ := st
  simp only at ht f1 f2 f3 f4 f5 f6 f7 f8
  subst ht f1 f2 f3 f4 f5 f6 f7 f8
  obtain ⟨Z2, hP2, hzs, hn1, hn2, hf0, hb1, hb2, hVl⟩ := h9.box2 (.cells #[.string tt, .slice a1 S.kinds.length b1, .slice a2 S.members.length b2, .slice a3 S.preds.length b3, .slice a4 S.classes.length b4, .slice a5 S.sources.length b5, .slice a6 S.rules.length b6, .slice a7 S.excepts.length b7, .slice a8 S.totals.length b8] 31) (.cells #[.int .i64 p.kind, .bool p.lit.neg, .string ⟨p.lit.pred.toArray⟩, .slice ka p.lit.args.length kc, .bool p.lit.hasValue, .int .i64 p.lit.value, .slice la p.guard.left.length lc, .int .i64 p.guard.op, .slice ra p.guard.right.length rc, .string ⟨p.a.toArray⟩, .string ⟨p.b.toArray⟩] 160)
  have H9 := hide h9
  have H2 := hide hP2
  have HZS := hide hzs
  have HN1 := hide hn1
  have HN2 := hide hn2
  have HF0 := hide hf0
  have HB1 := hide hb1
  have HB2 := hide hb2
  have HK := hide hk
  have HL := hide hl
  have HR := hide hr
  have HOK := hide hok
  obtain ⟨o, ho⟩ : ∃ o, premS S.ctx v p = o := ⟨_, rfl⟩
  rw [ho]
  have HO := hide ho
  unfold premS at HO
  obtain ⟨H, hH⟩ : ∃ H, H = X.heap.size := ⟨_, rfl⟩
  rw [← hH] at HN1 HN2 HB1 HB2
  clear h9 h ho hP2 hzs hn1 hn2 hf0 hb1 hb2 hl hr hok hk
  unfold St9.agg at *
  simp only at *
  go_enter Tryz.func84, Tryz.ntmps84
  go_upto_region 1 with fail
  rw [← hH]
  generalize ((X.alloc (.cells #[.string tt, .slice a1 S.kinds.length b1, .slice a2 S.members.length b2, .slice a3 S.preds.length b3, .slice a4 S.classes.length b4, .slice a5 S.sources.length b5, .slice a6 S.rules.length b6, .slice a7 S.excepts.length b7, .slice a8 S.totals.length b8] 31)).alloc (.cells #[.int .i64 p.kind, .bool p.lit.neg, .string ⟨p.lit.pred.toArray⟩, .slice ka p.lit.args.length kc, .bool p.lit.hasValue, .int .i64 p.lit.value, .slice la p.guard.left.length lc, .int .i64 p.guard.op, .slice ra p.guard.right.length rc, .string ⟨p.a.toArray⟩, .string ⟨p.b.toArray⟩] 160)) = X2 at *
  clear hH
  have c0 := cell_of_row X2 _ 0 _ _ _ HB1.out
  have c1 := cell_of_row X2 _ 1 _ _ _ HB1.out
  have c2 := cell_of_row X2 _ 2 _ _ _ HB1.out
  have c3 := cell_of_row X2 _ 3 _ _ _ HB1.out
  have c4 := cell_of_row X2 _ 4 _ _ _ HB1.out
  have c5 := cell_of_row X2 _ 5 _ _ _ HB1.out
  have c6 := cell_of_row X2 _ 6 _ _ _ HB1.out
  have c7 := cell_of_row X2 _ 7 _ _ _ HB1.out
  have c8 := cell_of_row X2 _ 8 _ _ _ HB1.out
  have d0 := cell_of_row X2 _ 0 _ _ _ HB2.out
  have d1 := cell_of_row X2 _ 1 _ _ _ HB2.out
  have d2 := cell_of_row X2 _ 2 _ _ _ HB2.out
  have d3 := cell_of_row X2 _ 3 _ _ _ HB2.out
  have d4 := cell_of_row X2 _ 4 _ _ _ HB2.out
  have d5 := cell_of_row X2 _ 5 _ _ _ HB2.out
  have d6 := cell_of_row X2 _ 6 _ _ _ HB2.out
  have d7 := cell_of_row X2 _ 7 _ _ _ HB2.out
  have d8 := cell_of_row X2 _ 8 _ _ _ HB2.out
  have d9 := cell_of_row X2 _ 9 _ _ _ HB2.out
  have d10 := cell_of_row X2 _ 10 _ _ _ HB2.out
  simp only [List.getElem?_toArray, List.getElem?_cons_zero, List.getElem?_cons_succ] at c0 c1 c2 c3 c4 c5 c6 c7 c8 d0 d1 d2 d3 d4 d5 d6 d7 d8 d9 d10
  by_cases k1 : p.kind = 1
  · rw [if_pos k1] at HO
    have CL := hide (rlit_any H2.out (by omega) HOK.out p.lit HK.out)
    rw [HO.out] at CL
    unfold St9.agg at CL
    simp only at CL
    rw [k1] at d0
    clear k1
    go_wp2_with (go_at_call 85; refine CL.out.mono ?_; rintro e w4 ⟨rfl, hf4, hp4⟩)
    go_ret
    exact Eks.up H9.out HZS.out HF0.out (by omega) ⟨rfl, hf4, hp4⟩
  rw [if_neg k1] at HO
  have k1b : (p.kind == 1) = false := beq_eq_false_iff_ne.2 k1
  by_cases k2 : p.kind = 2
  · rw [if_pos k2] at HO
    have CL := hide (rguard_any H2.out hB HOK.out p.guard rfl rfl HL.out HR.out)
    rw [HO.out] at CL
    unfold St9.agg at CL
    simp only at CL
    rw [k2] at d0
    clear k1 k1b k2
    go_wp2_with (go_at_call 105; refine CL.out.mono ?_; rintro e w4 ⟨rfl, hf4, hp4⟩)
    go_ret
    exact Eks.up H9.out HZS.out HF0.out (by omega) ⟨rfl, hf4, hp4⟩
  rw [if_neg k2] at HO
  have k2b : (p.kind == 2) = false := beq_eq_false_iff_ne.2 k2
  by_cases k3 : p.kind = 3
  · rw [if_pos k3] at HO
    have CL := hide (loose_any H2.out (by omega) p.a)
    have HNZ := hide (nz_unlike S.ctx v p.a)
    unfold St9.agg str at CL
    simp only at CL
    rw [k3] at d0
    clear k1 k1b k2 k2b k3
    generalize unlikeM S.ctx v p.a = o1 at *
    go_upto_region 8 with (go_at_call 106; refine CL.out.mono ?_; rintro e w4 ⟨rfl, hf4, hp4⟩)
    generalize hec : erc o1 = z at *
    cases o1 with
    | error c =>
      have hec1 : c = z := hec
      subst hec1
      have hoo : Hid (.error c = o) := HO.out
      have hbc : (c == 0) = false := beq_eq_false_iff_ne.2 (HNZ.out c rfl)
      clear hec HO HNZ hp4
      go_wp2_with fail
      go_ret
      exact Eks.bad hoo.out (HF0.out.trans (hf4.mono fun k _ e => HZS.out k e))
    | ok v2 =>
      have hec1 : 0 = z := hec
      subst hec1
      have HF4 := hide hf4
      have P4 := hide (hp4 v2 rfl)
      have HB14 := hide (hf4.at HN1.out HB1.out)
      have HB24 := hide (hf4.at HN2.out HB2.out)
      have CL2 := hide (loose_any P4.out (by omega) p.b)
      have HO2 : Hid (unlikeM S.ctx v2 p.b = o) := HO.out
      rw [HO2.out] at CL2
      unfold St9.agg str at CL2
      simp only at CL2
      clear hec HNZ hp4 hf4 CL c0 c1 c2 c3 c4 c5 c6 c7 c8 d0 d1 d2 d3 d4 d5 d6 d7 d8 d9 d10
      have c0 := cell_of_row w4 _ 0 _ _ _ HB14.out
      have c1 := cell_of_row w4 _ 1 _ _ _ HB14.out
      have c2 := cell_of_row w4 _ 2 _ _ _ HB14.out
      have c3 := cell_of_row w4 _ 3 _ _ _ HB14.out
      have c4 := cell_of_row w4 _ 4 _ _ _ HB14.out
      have c5 := cell_of_row w4 _ 5 _ _ _ HB14.out
      have c6 := cell_of_row w4 _ 6 _ _ _ HB14.out
      have c7 := cell_of_row w4 _ 7 _ _ _ HB14.out
      have c8 := cell_of_row w4 _ 8 _ _ _ HB14.out
      have d10 := cell_of_row w4 _ 10 _ _ _ HB24.out
      simp only [List.getElem?_toArray, List.getElem?_cons_zero, List.getElem?_cons_succ] at c0 c1 c2 c3 c4 c5 c6 c7 c8 d10
      go_wp2_with (go_at_call 106; refine CL2.out.mono ?_; rintro e w5 ⟨rfl, hf5, hp5⟩)
      go_ret
      exact Eks.up H9.out HZS.out HF0.out (by omega) ⟨rfl, HF4.out.trans hf5, hp5⟩
  rw [if_neg k3] at HO
  have k3b : (p.kind == 3) = false := beq_eq_false_iff_ne.2 k3
  have hoo : Hid (.error 1 = o) := HO.out
  go_wp2_with fail
  go_ret
  exact Eks.bad hoo.out HF0.out
end
end Go.Proofs.YtbdlgglbcaoakaaGreat
