/- The page's arg and loose. -/
import Derived.Test.YtbdlgglbcaoakaaGreatSim9
import Derived.Deep.RegionHeld3
namespace Go.Proofs.YtbdlgglbcaoakaaGreat
open Go.RowKit Go.Shelf Go.Maps Go.WideMaps

/-- One argument at a place of a kind. -/
def arg1M (C : Ctx) (v : Scope) (s k : Bytes) : Er Scope := if isVarB s then bindM v s (posB C.kinds k) else findMemberM C s >>= fun m => wantM (decide ((C.members.getD m ([], [])).2 = k)) 81 >>= fun _ => .ok v
theorem fitB {S : StatM} (h : S.fitsB = true) : S.kinds.length ≤ 16 ∧ S.members.length ≤ 64 ∧ S.preds.length ≤ 256 ∧ S.classes.length ≤ 64 ∧ S.sources.length ≤ 64 ∧ S.rules.length ≤ 512 ∧ S.excepts.length ≤ 512 ∧ S.totals.length ≤ 64 := by
  unfold StatM.fitsB at h
  simp only [Bool.and_eq_true, decide_eq_true_eq] at h
  omega
theorem rmembersS {S : StatM} {st : St9} {w : World} (h : SR w.heap.size w S st) (hl : S.members.length * 24 ≤ 140737488351232) : Calls Tryz.prog 33 #[st.agg] w fun e w' => ∃ xa xc, e = .returned (.slice xa S.members.length xc) ∧ At1 w' xa (strs S.ctx.people) ∧ Below w.heap.size w w' := by
  refine (rmembers_any h hl).mono ?_
  rintro e w' ⟨v, rfl, hv, hb⟩
  have e1 : (S.members.map (·.1)).length = S.members.length := List.length_map _
  rw [e1] at hv
  obtain ⟨xa, xc, rfl⟩ := owns_slice hv
  exact ⟨xa, xc, rfl, owns_at1 (owns_down hv (Nat.zero_le _)), hb⟩
section
variable {W0 : World} {S : StatM} {st : St9} {Z : Nat → Prop} {V B : Nat} {v : Scope} {X : World}
set_option maxRecDepth 100000 in
set_option maxHeartbeats 12800000 in
theorem arg_any (h9 : Pk W0 S st Z V B v X) (hB : B + 1 ≤ 4096) (s k : Bytes) (hk : k ∈ S.kinds) : Calls Tryz.prog 122 #[ptr V, st.agg, str s, str k] X fun e X' => Eks W0 S st Z V (B + 1) X (arg1M S.ctx v s k) e X' := by
  have h := h9.sr
  obtain ⟨hfk, hfm, _⟩ := fitB h9.fit
  obtain ⟨tt, ht⟩ := h.title
  obtain ⟨a1, b1, f1, _, _⟩ := h.kinds.form
  obtain ⟨a2, b2, f2, _, _⟩ := h.members.form
  obtain ⟨a3, b3, f3, _, _⟩ := h.preds.form
  obtain ⟨a4, b4, f4, _, _⟩ := h.classes.form
  obtain ⟨a5, b5, f5, _, _⟩ := h.sources.form
  obtain ⟨a6, b6, f6, _, _⟩ := h.rules.form
  obtain ⟨a7, b7, f7, _, _⟩ := h.excepts.form
  obtain ⟨a8, b8, f8, _, _⟩ := h.totals.form
  obtain ⟨s0, s1, s2, s3, s4, s5, s6, s7, s8⟩ := st
  simp only at ht f1 f2 f3 f4 f5 f6 f7 f8
  subst ht f1 f2 f3 f4 f5 f6 f7 f8
  have hA : Below X.heap.size X (X.alloc (.cells #[.string tt, .slice a1 S.kinds.length b1, .slice a2 S.members.length b2, .slice a3 S.preds.length b3, .slice a4 S.classes.length b4, .slice a5 S.sources.length b5, .slice a6 S.rules.length b6, .slice a7 S.excepts.length b7, .slice a8 S.totals.length b8] 31)) := (Below.refl _ X).alloc (Nat.le_refl _) _
  have K0 : Hid (Lw X.heap.size S ⟨.string tt, .slice a1 S.kinds.length b1, .slice a2 S.members.length b2, .slice a3 S.preds.length b3, .slice a4 S.classes.length b4, .slice a5 S.sources.length b5, .slice a6 S.rules.length b6, .slice a7 S.excepts.length b7, .slice a8 S.totals.length b8⟩ X (X.alloc (.cells #[.string tt, .slice a1 S.kinds.length b1, .slice a2 S.members.length b2, .slice a3 S.preds.length b3, .slice a4 S.classes.length b4, .slice a5 S.sources.length b5, .slice a6 S.rules.length b6, .slice a7 S.excepts.length b7, .slice a8 S.totals.length b8] 31))) := hide ⟨hA, h.keep fun g hg => hA.block g hg, heap_alloc_new X _⟩
  have H9 := hide h9
  have H1 := hide (h9.below hA)
  have HM := hide h.members
  have HK := hide (Strs.at1 h.kinds)
  have HF0 : Hid (Fr Z X (X.alloc (.cells #[.string tt, .slice a1 S.kinds.length b1, .slice a2 S.members.length b2, .slice a3 S.preds.length b3, .slice a4 S.classes.length b4, .slice a5 S.sources.length b5, .slice a6 S.rules.length b6, .slice a7 S.excepts.length b7, .slice a8 S.totals.length b8] 31))) := hide (.of_below hA)
  have CN := hide (rIsName_any s (X.alloc (.cells #[.string tt, .slice a1 S.kinds.length b1, .slice a2 S.members.length b2, .slice a3 S.preds.length b3, .slice a4 S.classes.length b4, .slice a5 S.sources.length b5, .slice a6 S.rules.length b6, .slice a7 S.excepts.length b7, .slice a8 S.totals.length b8] 31)))
  have CV := hide (rIsVar_any s (X.alloc (.cells #[.string tt, .slice a1 S.kinds.length b1, .slice a2 S.members.length b2, .slice a3 S.preds.length b3, .slice a4 S.classes.length b4, .slice a5 S.sources.length b5, .slice a6 S.rules.length b6, .slice a7 S.excepts.length b7, .slice a8 S.totals.length b8] 31)))
  have CM := hide (rmembersS K0.out.sr (by omega))
  have CK := hide (fun w (hw : At1 w a1 (strs S.kinds)) => rfindS (c := b1) hw rfl (by omega) k)
  have HK1 := hide (Strs.at1 K0.out.rep.kinds)
  obtain ⟨o, ho⟩ : ∃ o, arg1M S.ctx v s k = o := ⟨_, rfl⟩
  rw [ho]
  have HO := hide ho
  unfold arg1M at HO
  obtain ⟨H, hH⟩ : ∃ H, H = X.heap.size := ⟨_, rfl⟩
  rw [← hH] at K0
  have HH := hide hH
  have hVl : V < X.heap.size := by obtain ⟨_, _, _, _, _, _, hb, _⟩ := h9.bk; exact loc_lt hb.box
  clear h9 h hA ho
  unfold St9.agg str at *
  simp only at *
  obtain ⟨c0, c1, c2, c3, c4, c5, c6, c7, c8, cf⟩ := K0.out.cells
  simp only at c0 c1 c2 c3 c4 c5 c6 c7 c8
  clear cf
  cases hnm : isNameB s with
  | true =>
    have hnv := name_not_var hnm
    rw [if_neg (by rw [hnv]; simp)] at HO
    rw [hnm] at CN
    have HO1 : Hid ((findM S.ctx.people s 82 >>= fun m => wantM (decide ((S.ctx.members.getD m ([], [])).2 = k)) 81 >>= fun _ => .ok v) = o) := by
      have := HO.out
      unfold findMemberM at this
      rw [want_t hnm] at this
      exact this
    have hpl : S.ctx.people.length = S.members.length := List.length_map _
    clear HO CV
    by_cases hmem : s ∈ S.ctx.people
    · have hp := posB_lt' hmem
      rw [hpl] at hp
      obtain ⟨x, hx⟩ : ∃ x, S.members[posB S.ctx.people s]? = some x := ⟨_, List.getElem?_eq_getElem hp⟩
      have hgx : S.ctx.members.getD (posB S.ctx.people s) ([], []) = x := by
        show S.members.getD _ _ = x
        rw [List.getD_eq_getElem?_getD, hx]
        rfl
      have HO2 := hide HO1.out
      rw [findM_yes hmem] at HO2
      have HO3 : Hid ((wantM (decide (x.2 = k)) 81 >>= fun _ => .ok v) = o) := by
        have := HO2.out
        rw [← hgx]
        exact this
      obtain ⟨g, oo, rfl, hg, -, e1, -⟩ := at_M HM.out hx
      have HG := hide hg
      have HE1 := hide e1
      have hfz := findZ_in hmem
      clear HO1 HO2 hgx hx hg e1
      generalize posB S.ctx.people s = p at *
      go_enter Tryz.func122, Tryz.ntmps122
      go_upto_region 1 with fail
      rw [← hH]
      clear hH
      go_wp2_with (first | (go_at_call 77; refine CN.out.mono ?_; rintro _ w1 ⟨rfl, hw⟩; subst w1))
      refine CM.out.mono ?_
      rintro _ w1 ⟨xa, xc, rfl, hat, hb1⟩
      have CF := hide (rfindS (c := xc) hat hpl (by omega) s)
      rw [hfz] at CF
      have K1 := hide (K0.out.below hb1)
      have HP1 := hide (H1.out.below hb1)
      have HF1 := hide (HF0.out.trans (.of_below hb1))
      have e1 := K1.out.cell (by rw [HH.out]; exact HG.out) HE1.out
      unfold str at e1
      clear hat hb1 CM c0 c1 c2 c3 c4 c5 c6 c7 c8
      obtain ⟨c0, c1, c2, c3, c4, c5, c6, c7, c8, cf⟩ := K1.out.cells
      simp only at c0 c1 c2 c3 c4 c5 c6 c7 c8
      clear cf
      by_cases hxk : x.2 = k
      · have hoo : .ok v = o := by
          have := HO3.out
          rw [want_t (decide_eq_true hxk)] at this
          exact this
        rw [hxk] at e1
        go_wp2_with (first | (go_at_call 34; refine CF.out.mono ?_; rintro _ wz ⟨rfl, hwz⟩; subst wz))
        go_ret
        exact Eks.ok hoo HF1.out (HP1.out.grow (by omega))
      · have hoo : .error 81 = o := by
          have := HO3.out
          rw [want_f (decide_eq_false hxk)] at this
          exact this
        have hbb : (x.2 == k) = false := beq_eq_false_iff_ne.2 hxk
        go_wp2_with (first | (go_at_call 34; refine CF.out.mono ?_; rintro _ wz ⟨rfl, hwz⟩; subst wz))
        go_ret
        exact Eks.bad hoo HF1.out
    · have hoo : .error 82 = o := by
        have := HO1.out
        rw [findM_no hmem] at this
        exact this
      have hfz := findZ_out hmem
      clear HO1
      go_enter Tryz.func122, Tryz.ntmps122
      go_upto_region 1 with fail
      rw [← hH]
      clear hH
      go_wp2_with (first | (go_at_call 77; refine CN.out.mono ?_; rintro _ w1 ⟨rfl, hw⟩; subst w1))
      refine CM.out.mono ?_
      rintro _ w1 ⟨xa, xc, rfl, hat, hb1⟩
      have CF := hide (rfindS (c := xc) hat hpl (by omega) s)
      rw [hfz] at CF
      have HF1 := hide (HF0.out.trans (.of_below hb1))
      clear hat hb1 CM
      go_wp2_with (first | (go_at_call 34; refine CF.out.mono ?_; rintro _ wz ⟨rfl, hwz⟩; subst wz))
      go_ret
      exact Eks.bad hoo HF1.out
  | false =>
    rw [hnm] at CN
    cases hvr : isVarB s with
    | false =>
      rw [hvr] at CV
      have hoo : .error 71 = o := by
        have := HO.out
        rw [if_neg (by rw [hvr]; simp)] at this
        unfold findMemberM at this
        rw [want_f hnm] at this
        exact this
      go_enter Tryz.func122, Tryz.ntmps122
      go_upto_region 1 with fail
      rw [← hH]
      clear hH
      go_wp2_with (first | (go_at_call 77; refine CN.out.mono ?_; rintro _ w1 ⟨rfl, hw⟩; subst w1) | (go_at_call 121; refine CV.out.mono ?_; rintro _ w1 ⟨rfl, hw⟩; subst w1))
      go_ret
      exact Eks.bad hoo HF0.out
    | true =>
      rw [hvr] at CV
      have HO1 : Hid (bindM v s (posB S.ctx.kinds k) = o) := by
        have := HO.out
        rw [if_pos hvr] at this
        exact this
      obtain ⟨nv, kv, lv, N, Ks, L, hBp, hSim, hNB, hLB⟩ := H1.out.bk
      have CK1 := hide (CK.out _ HK1.out)
      rw [findZ_in hk] at CK1
      obtain ⟨na, nc, rfl⟩ := owns_slice hBp.rowN
      obtain ⟨ka, kc, rfl⟩ := owns_slice hBp.rowK
      have CF := hide (rfindS (c := nc) (owns_at1 hBp.rowN) rfl (by omega) s)
      obtain ⟨p0, p1, p2⟩ := hBp.cells
      have HBp := hide hBp
      have HSim := hide hSim
      have hkl := hSim.len
      have hKB : Ks.length ≤ B := by omega
      have hpk : posB S.ctx.kinds k = posB S.kinds k := rfl
      rw [hpk] at HO1
      clear HO CK hBp hSim CM hpk HK HM
      by_cases hsn : s ∈ N
      · rw [findZ_in hsn] at CF
        have hpn := posB_lt' hsn
        have hpk2 : posB N s < Ks.length := by omega
        clear hkl
        obtain ⟨g, oo, rfl, hkc⟩ := (owns_at1 HBp.out.rowK).int (i := posB N s) hpk2
        by_cases hq : Ks.getD (posB N s) 0 = (posB S.kinds k : Int)
        · have hoo : .ok v = o := by rw [← HO1.out]; exact (HSim.out.bind_same hsn hq).symm
          rw [hq] at hkc
          clear hq HSim
          generalize posB N s = q at *
          generalize posB S.kinds k = z at *
          go_enter Tryz.func122, Tryz.ntmps122
          go_upto_region 1 with fail
          rw [← hH]
          clear hH
          go_upto_region 10 with (first | (go_at_call 77; refine CN.out.mono ?_; rintro _ w9 ⟨rfl, hw⟩; subst w9) | (go_at_call 121; refine CV.out.mono ?_; rintro _ w9 ⟨rfl, hw⟩; subst w9))
          go_upto_region 11 with (go_at_call 34; refine CK1.out.mono ?_; rintro _ w9 ⟨rfl, hw⟩; subst w9)
          go_upto_region 12 with (go_at_call 34; refine CF.out.mono ?_; rintro _ w9 ⟨rfl, hw⟩; subst w9)
          go_wp2_with fail
          go_ret
          exact Eks.ok hoo HF0.out (H1.out.grow (by omega))
        · have hoo : .error 81 = o := by rw [← HO1.out]; exact (HSim.out.bind_not hsn hq).symm
          clear HSim
          generalize Ks.getD (posB N s) 0 = y at *
          generalize posB N s = q at *
          generalize posB S.kinds k = z at *
          have hbb : (y == (z : Int)) = false := beq_eq_false_iff_ne.2 hq
          clear hq
          go_enter Tryz.func122, Tryz.ntmps122
          go_upto_region 1 with fail
          rw [← hH]
          clear hH
          go_upto_region 10 with (first | (go_at_call 77; refine CN.out.mono ?_; rintro _ w9 ⟨rfl, hw⟩; subst w9) | (go_at_call 121; refine CV.out.mono ?_; rintro _ w9 ⟨rfl, hw⟩; subst w9))
          go_upto_region 11 with (go_at_call 34; refine CK1.out.mono ?_; rintro _ w9 ⟨rfl, hw⟩; subst w9)
          go_upto_region 12 with (go_at_call 34; refine CF.out.mono ?_; rintro _ w9 ⟨rfl, hw⟩; subst w9)
          go_wp2_with fail
          go_ret
          exact Eks.bad hoo HF0.out
      · rw [findZ_out hsn] at CF
        obtain ⟨v', hv', hsim'⟩ := HSim.out.bind_new (k := (posB S.kinds k : Int)) hsn (by omega)
        have hoo : .ok v' = o := by rw [← HO1.out]; exact hv'.symm
        have HS2 := hide hsim'
        clear hkl
        obtain ⟨iM, hiM, zM0, zM1, zM2⟩ := info_parts' infoS
        obtain ⟨jM, hjM, yM0, yM1, yM2⟩ := info_parts' infoI
        clear hsim' hv' HO1 HSim K0 HK1 c0 c2 c3 c4 c5 c6 c7 c8
        generalize posB S.kinds k = z at *
        go_enter Tryz.func122, Tryz.ntmps122
        go_upto_region 1 with fail
        rw [← hH]
        clear hH
        generalize X.alloc (.cells #[.string tt, .slice a1 S.kinds.length b1, .slice a2 S.members.length b2, .slice a3 S.preds.length b3, .slice a4 S.classes.length b4, .slice a5 S.sources.length b5, .slice a6 S.rules.length b6, .slice a7 S.excepts.length b7, .slice a8 S.totals.length b8] 31) = w1 at *
        go_upto_region 10 with (first | (go_at_call 77; refine CN.out.mono ?_; rintro _ w9 ⟨rfl, hw⟩; subst w9) | (go_at_call 121; refine CV.out.mono ?_; rintro _ w9 ⟨rfl, hw⟩; subst w9))
        go_upto_region 11 with (go_at_call 34; refine CK1.out.mono ?_; rintro _ w9 ⟨rfl, hw⟩; subst w9)
        go_upto_region 12 with (go_at_call 34; refine CF.out.mono ?_; rintro _ w9 ⟨rfl, hw⟩; subst w9)
        go_upto_region 13 with fail
        go_upto_region 14 with (at_builtin; go_must (refine wpList_append_two _ rfl _ _ 22 rfl 0 9 iM _ 1 16 Tryz.underlying22 hiM zM0 zM1 zM2 rfl (by decide) _ _ _ rfl (HBp.out.rowN.alloc _) ⟨w1.heap.size, 0, none⟩ 1 [.string ⟨s.toArray⟩] rfl rfl (news_at rfl) (by simp [Value.oneCell']) (by unfold maxLen; omega) (by omega) (Nat.zero_le _) ?_))
        intro g cap w2 hown hg
        obtain ⟨hB2, hF2, q0, qf⟩ := HBp.out.growN H1.out.new hown hg
        have HB2 := hide hB2
        have HF2 := hide hF2
        obtain ⟨-, q1, -⟩ := hB2.cells
        clear hB2 hF2 hown hg p0 p1 p2
        go_upto_region 14 with fail
        generalize w2.setCell ⟨V, 0, none⟩ (.slice (some ⟨g, 0, none⟩) (N.length + 1) cap) = w3 at *
        go_upto_region 15 with (at_builtin; go_must (refine wpList_append_two _ rfl _ _ 57 rfl 0 3 jM _ 1 8 Tryz.underlying57 hjM yM0 yM1 yM2 rfl (by decide) _ _ _ rfl (HB2.out.rowK.alloc _) ⟨w3.heap.size, 0, none⟩ 1 [.int .i64 (z : Int)] rfl rfl (news_at rfl) (by simp [Value.oneCell']) (by unfold maxLen; omega) (by omega) (Nat.zero_le _) ?_))
        intro g4 cap4 w4 hown4 hg4
        obtain ⟨hB4, hF4, q4, qf4⟩ := HB2.out.growK (fun g hg => H1.out.new g (Nat.le_trans HF2.out.size hg)) hown4 hg4
        have HB4 := hide hB4
        have HF4 := hide (HF2.out.trans hF4)
        clear hB4 hF4 hown4 hg4
        go_wp2_with fail
        go_ret
        exact Eks.ok hoo (HF0.out.trans HF4.out) (H1.out.fr HF4.out ⟨_, _, _, _, _, _, HB4.out, HS2.out, by simp; omega, by omega⟩)
end
end Go.Proofs.YtbdlgglbcaoakaaGreat
/- The page's args. -/
namespace Go.Proofs.YtbdlgglbcaoakaaGreat
open Go.RowKit Go.Shelf Go.Maps Go.WideMaps

def argsS (C : Ctx) : Scope → List Bytes → List Bytes → Er Scope
  | v, s :: r, k :: q => arg1M C v s k >>= fun v' => argsS C v' r q
  | v, _, _ => .ok v
theorem argsS_eq (C : Ctx) : ∀ (l q : List Bytes) (v : Scope) (ms : List Nat), (argsM C v ms l q >>= fun x => .ok x.1) = argsS C v l q
  | [], _, _, _ => by unfold argsM argsS; rfl
  | _ :: _, [], _, _ => by unfold argsM argsS; rfl
  | s :: r, k :: q, v, ms => by
    unfold argsM argsS arg1M
    by_cases hv : isVarB s = true
    · rw [if_pos hv, if_pos hv]
      cases hb : bindM v s (posB C.kinds k) with
      | error c => rfl
      | ok v' => exact argsS_eq C r q v' ms
    · rw [if_neg hv, if_neg hv]
      cases hm : findMemberM C s with
      | error c => rfl
      | ok m =>
        show ((wantM (decide ((C.members.getD m ([], [])).2 = k)) 81 >>= fun _ => argsM C v (ms ++ [m]) r q) >>= fun x => .ok x.1) = ((wantM (decide ((C.members.getD m ([], [])).2 = k)) 81 >>= fun _ => (.ok v : Er Scope)) >>= fun v' => argsS C v' r q)
        cases hw : wantM (decide ((C.members.getD m ([], [])).2 = k)) 81 with
        | error c => rfl
        | ok u => exact argsS_eq C r q v (ms ++ [m])
theorem nz_arg1 (C : Ctx) (v : Scope) (s k : Bytes) : Nz (arg1M C v s k) := by
  unfold arg1M
  exact Nz.ite (nz_bindM _ _ _) (Nz.bind (nz_findMember _ _) fun _ => Nz.bind (Nz.want (by decide)) fun _ => Nz.ok _)
def argumentsS (C : Ctx) (v : Scope) (p : PredM) (l : List Bytes) : Er Scope := wantM (decide ((l.length : Int) = (p.kinds.length : Int))) 83 >>= fun _ => argsS C v l p.kinds
theorem argumentsS_eq (C : Ctx) (v : Scope) (p : PredM) (l : List Bytes) : (argumentsM C v p l >>= fun x => .ok x.1) = argumentsS C v p l := by
  unfold argumentsM argumentsS
  cases hw : wantM (decide ((l.length : Int) = (p.kinds.length : Int))) 83 with
  | error c => rfl
  | ok u => exact argsS_eq C l p.kinds v []
theorem below_drew (w : World) : Below w.heap.size w w.drew := ⟨rfl, rfl, rfl, Nat.le_refl _, fun _ _ => rfl⟩
/-- Two boxes more. -/
theorem Pk.box2 {W0 : World} {S : StatM} {st : St9} {Z : Nat → Prop} {V B : Nat} {v : Scope} {X : World} (h : Pk W0 S st Z V B v X) (o1 o2 : Obj) : ∃ Z2, Pk W0 S st Z2 V B v ((X.alloc o1).alloc o2) ∧ (∀ k, Z2 k → Z k) ∧ ¬ Z2 X.heap.size ∧ ¬ Z2 (X.heap.size + 1) ∧ Fr Z X ((X.alloc o1).alloc o2) ∧ ((X.alloc o1).alloc o2).heap[X.heap.size]? = some o1 ∧ ((X.alloc o1).alloc o2).heap[X.heap.size + 1]? = some o2 ∧ V < X.heap.size := by
  have hA1 : Below X.heap.size X (X.alloc o1) := (Below.refl _ X).alloc (Nat.le_refl _) _
  have hs1 : (X.alloc o1).heap.size = X.heap.size + 1 := by simp
  have hs2 : ((X.alloc o1).alloc o2).heap.size = X.heap.size + 2 := by simp
  have hA2 : Below X.heap.size X ((X.alloc o1).alloc o2) := hA1.alloc (by omega) _
  have hVl : V < X.heap.size := by obtain ⟨_, _, _, _, _, _, hb, _⟩ := h.bk; exact loc_lt hb.box
  refine ⟨_, h.fits hA2, h.sub hA2, ?_, ?_, .of_below hA2, ?_, ?_, hVl⟩
  · rintro (a | a)
    · omega
    · omega
  · rintro (a | a)
    · omega
    · omega
  · exact (Below.heap_alloc _ o2 _ (by omega)).trans (heap_alloc_new X o1)
  · have := heap_alloc_new (X.alloc o1) o2
    rw [hs1] at this
    exact this
theorem Pk.box1 {W0 : World} {S : StatM} {st : St9} {Z : Nat → Prop} {V B : Nat} {v : Scope} {X : World} (h : Pk W0 S st Z V B v X) (o1 : Obj) : ∃ Z2, Pk W0 S st Z2 V B v (X.alloc o1) ∧ (∀ k, Z2 k → Z k) ∧ ¬ Z2 X.heap.size ∧ Fr Z X (X.alloc o1) ∧ (X.alloc o1).heap[X.heap.size]? = some o1 ∧ V < X.heap.size ∧ (∀ k, Z2 k → k < X.heap.size → Z k) := by
  have hA1 : Below X.heap.size X (X.alloc o1) := (Below.refl _ X).alloc (Nat.le_refl _) _
  have hs1 : (X.alloc o1).heap.size = X.heap.size + 1 := by simp
  have hVl : V < X.heap.size := by obtain ⟨_, _, _, _, _, _, hb, _⟩ := h.bk; exact loc_lt hb.box
  refine ⟨_, h.fits hA1, h.sub hA1, ?_, .of_below hA1, heap_alloc_new X o1, hVl, ?_⟩
  · rintro (a | a)
    · omega
    · omega
  · rintro k (a | a) hk
    · exact a.1
    · omega
theorem Fr.at {Z : Nat → Prop} {w w' : World} (h : Fr Z w w') {g : Nat} {o : Obj} (hz : ¬ Z g) (hg : w.heap[g]? = some o) : w'.heap[g]? = some o := (h.block g (loc_lt hg) hz).trans hg
theorem Pk.strs {W0 : World} {S : StatM} {st : St9} {Z : Nat → Prop} {V B : Nat} {v : Scope} {X Y : World} (h : Pk W0 S st Z V B v X) (hf : Fr Z X Y) : ∀ g, g < W0.heap.size → Y.heap[g]? = W0.heap[g]? := by
  intro g hg
  have h1 := h.bel.size
  rw [hf.block g (by omega) (fun hz => by have := h.low g hz; omega)]
  exact h.bel.block g hg
section
variable {W0 : World} {S : StatM} {st : St9} {Z : Nat → Prop} {V B : Nat} {v : Scope} {X : World}
set_option maxRecDepth 100000 in
set_option maxHeartbeats 12800000 in
theorem rargs_any (h9 : Pk W0 S st Z V B v X) (hB : B + 4 ≤ 4096) (p : PredM) {ka va : Option Addr} {kc vc : Nat} (hpk : Strs W0.heap.size W0 p.kinds (.slice ka p.kinds.length kc)) (hp4 : p.kinds.length ≤ 4) (hpS : ∀ k ∈ p.kinds, k ∈ S.kinds) (l : List Bytes) {aa : Option Addr} {ac : Nat} (hl : Strs W0.heap.size W0 l (.slice aa l.length ac)) :
    Calls Tryz.prog 107 #[ptr V, st.agg, .agg #[.string ⟨p.name.toArray⟩, .int .i64 p.sort, .slice ka p.kinds.length kc, .slice va p.values.length vc], .slice aa l.length ac] X fun e X' => Eks W0 S st Z V (B + 4) X (argumentsS S.ctx v p l) e X' := by
  have h := h9.sr
  have hll : l.length ≤ 140737488351232 := by obtain ⟨_, _, _, _, h⟩ := hl.form; exact h
  obtain ⟨tt, ht⟩ := h.title
  obtain ⟨a1, b1, f1, _, _⟩ := h.kinds.form
  obtain ⟨a2, b2, f2, _, _⟩ := h.members.form
  obtain ⟨a3, b3, f3, _, _⟩ := h.preds.form
  obtain ⟨a4, b4, f4, _, _⟩ := h.classes.form
  obtain ⟨a5, b5, f5, _, _⟩ := h.sources.form
  obtain ⟨a6, b6, f6, _, _⟩ := h.rules.form
  obtain ⟨a7, b7, f7, _, _⟩ := h.excepts.form
  obtain ⟨a8, b8, f8, _, _⟩ := h.totals.form
  obtain ⟨s0, s1, s2, s3, s4, s5, s6, s7, s8⟩ := st
  simp only at ht f1 f2 f3 f4 f5 f6 f7 f8
  subst ht f1 f2 f3 f4 f5 f6 f7 f8
  obtain ⟨Z2, hP2, hzs, hn1, hn2, hf0, hb1, hb2, hVl⟩ := h9.box2 (.cells #[.string tt, .slice a1 S.kinds.length b1, .slice a2 S.members.length b2, .slice a3 S.preds.length b3, .slice a4 S.classes.length b4, .slice a5 S.sources.length b5, .slice a6 S.rules.length b6, .slice a7 S.excepts.length b7, .slice a8 S.totals.length b8] 31) (.cells #[.string ⟨p.name.toArray⟩, .int .i64 p.sort, .slice ka p.kinds.length kc, .slice va p.values.length vc] 119)
  have H9 := hide h9
  have H2 := hide hP2
  have HZS := hide hzs
  have HN1 := hide hn1
  have HN2 := hide hn2
  have HF0 := hide hf0
  have HB1 := hide hb1
  have HB2 := hide hb2
  have HPK := hide hpk
  have HL := hide hl
  have HPS := hide hpS
  have p2 := cell_of_row _ _ 2 _ _ _ hb2
  simp only [List.getElem?_toArray, List.getElem?_cons_zero, List.getElem?_cons_succ] at p2
  obtain ⟨o, ho⟩ : ∃ o, argumentsS S.ctx v p l = o := ⟨_, rfl⟩
  rw [ho]
  have HO := hide ho
  unfold argumentsS at HO
  obtain ⟨H, hH⟩ : ∃ H, H = X.heap.size := ⟨_, rfl⟩
  rw [← hH] at HN1 HN2 HB1 HB2 p2
  clear h9 h ho hP2 hzs hn1 hn2 hf0 hb1 hb2 hpk hl hpS
  unfold St9.agg at *
  simp only at *
  go_enter Tryz.func107, Tryz.ntmps107
  go_upto_region 1 with fail
  rw [← hH]
  generalize ((X.alloc (.cells #[.string tt, .slice a1 S.kinds.length b1, .slice a2 S.members.length b2, .slice a3 S.preds.length b3, .slice a4 S.classes.length b4, .slice a5 S.sources.length b5, .slice a6 S.rules.length b6, .slice a7 S.excepts.length b7, .slice a8 S.totals.length b8] 31)).alloc (.cells #[.string ⟨p.name.toArray⟩, .int .i64 p.sort, .slice ka p.kinds.length kc, .slice va p.values.length vc] 119)) = X2 at *
  clear hH
  by_cases hln : l.length = p.kinds.length
  case neg =>
    have hoo : .error 83 = o := by
      have := HO.out
      rw [want_f (decide_eq_false (fun e => hln (by omega)))] at this
      exact this
    have hbb : ((l.length : Int) == (p.kinds.length : Int)) = false := beq_eq_false_iff_ne.2 (by omega)
    clear hln
    go_wp2_with fail
    go_ret
    exact Eks.bad hoo HF0.out
  have HO2 : Hid (argsS S.ctx v l p.kinds = o) := by
    have := HO.out
    rw [want_t (decide_eq_true (by omega))] at this
    exact this
  have HLN := hide hln
  rw [← hln] at p2
  clear HO hln
  go_wp2_with fail
  go_loopw [9] (fun x wr => ∃ (i : Nat) (v' : Scope), i ≤ l.length ∧ x = .int .i64 i ∧ Hid (Fr Z2 X2 wr) ∧ Hid (Pk W0 S ⟨.string tt, .slice a1 S.kinds.length b1, .slice a2 S.members.length b2, .slice a3 S.preds.length b3, .slice a4 S.classes.length b4, .slice a5 S.sources.length b5, .slice a6 S.rules.length b6, .slice a7 S.excepts.length b7, .slice a8 S.totals.length b8⟩ Z2 V (B + i) v' wr) ∧ Hid (argsS S.ctx v' (l.drop i) (p.kinds.drop i) = o)) (fun x _ => l.length - (intOf x).toNat)
  case atStart => exact ⟨0, v, by omega, rfl, hide (.refl _ _), H2, hide (by simpa using HO2.out)⟩
  case round =>
    obtain ⟨i, v', hi, rfl, HF, HP, HQ⟩ := hrel
    clear HO2
    by_cases hlt : i < l.length
    · obtain ⟨s, hs0⟩ : ∃ s, l[i]? = some s := ⟨l[i], List.getElem?_eq_getElem hlt⟩
      obtain ⟨k, hk0⟩ : ∃ k, p.kinds[i]? = some k := ⟨p.kinds[i]'(by have := HLN.out; omega), List.getElem?_eq_getElem _⟩
      have hik : i < p.kinds.length := by have := HLN.out; omega
      obtain ⟨g, oo, rfl, hg, e0, -⟩ := at_S HL.out hs0
      obtain ⟨g2, o2, rfl, hg2, f0, -⟩ := at_S HPK.out hk0
      have hks : k ∈ S.kinds := HPS.out k (List.mem_of_getElem? hk0)
      have CA := hide (arg_any (HP.out.below (below_drew wr)) (by have := HLN.out; omega) s k hks)
      have HNZ := hide (nz_arg1 S.ctx v' s k)
      have hq := HQ.out
      rw [drop_c hs0, drop_c hk0] at hq
      unfold argsS at hq
      have HQ2 := hide hq
      unfold str at e0 f0
      have FS : Hid (∀ Y, Fr Z2 X2 Y → (fun Y : World => Y.cell? ⟨H, 0, none⟩ = some (.string tt) ∧ Y.cell? ⟨H, 1, none⟩ = some (.slice a1 S.kinds.length b1) ∧ Y.cell? ⟨H, 2, none⟩ = some (.slice a2 S.members.length b2) ∧ Y.cell? ⟨H, 3, none⟩ = some (.slice a3 S.preds.length b3) ∧ Y.cell? ⟨H, 4, none⟩ = some (.slice a4 S.classes.length b4) ∧ Y.cell? ⟨H, 5, none⟩ = some (.slice a5 S.sources.length b5) ∧ Y.cell? ⟨H, 6, none⟩ = some (.slice a6 S.rules.length b6) ∧ Y.cell? ⟨H, 7, none⟩ = some (.slice a7 S.excepts.length b7) ∧ Y.cell? ⟨H, 8, none⟩ = some (.slice a8 S.totals.length b8) ∧ Y.cell? ⟨H + 1, 0, none⟩ = some (.string ⟨p.name.toArray⟩) ∧ Y.cell? ⟨H + 1, 1, none⟩ = some (.int .i64 p.sort) ∧ Y.cell? ⟨H + 1, 2, none⟩ = some (.slice (some ⟨g2, o2, none⟩) p.kinds.length kc) ∧ Y.cell? ⟨H + 1, 3, none⟩ = some (.slice va p.values.length vc) ∧ Y.cell? ⟨g, oo + i, none⟩ = some (.string ⟨s.toArray⟩) ∧ Y.cell? ⟨g2, o2 + i, none⟩ = some (.string ⟨k.toArray⟩) ∧ Fr Z2 X2 Y) Y) := by
        refine hide fun Y hY => ?_
        have q1 := hY.at HN1.out HB1.out
        have q2 := hY.at HN2.out HB2.out
        have q3 := H2.out.strs hY
        exact ⟨cell_of_row Y _ 0 _ _ _ q1, cell_of_row Y _ 1 _ _ _ q1, cell_of_row Y _ 2 _ _ _ q1, cell_of_row Y _ 3 _ _ _ q1, cell_of_row Y _ 4 _ _ _ q1, cell_of_row Y _ 5 _ _ _ q1, cell_of_row Y _ 6 _ _ _ q1, cell_of_row Y _ 7 _ _ _ q1, cell_of_row Y _ 8 _ _ _ q1, cell_of_row Y _ 0 _ _ _ q2, cell_of_row Y _ 1 _ _ _ q2, cell_of_row Y _ 2 _ _ _ q2, cell_of_row Y _ 3 _ _ _ q2, (World.cell?_of_block (q3 g hg)).trans e0, (World.cell?_of_block (q3 g2 hg2)).trans f0, hY⟩
      unfold str St9.agg at CA
      simp only at CA
      generalize arg1M S.ctx v' s k = o1 at *
      clear hq HQ hs0 hk0 hg hg2 e0 f0 hks p2
      go_upto_region 6 with fail
      go_region_held3 (fun Y : World => Y.cell? ⟨H, 0, none⟩ = some (.string tt) ∧ Y.cell? ⟨H, 1, none⟩ = some (.slice a1 S.kinds.length b1) ∧ Y.cell? ⟨H, 2, none⟩ = some (.slice a2 S.members.length b2) ∧ Y.cell? ⟨H, 3, none⟩ = some (.slice a3 S.preds.length b3) ∧ Y.cell? ⟨H, 4, none⟩ = some (.slice a4 S.classes.length b4) ∧ Y.cell? ⟨H, 5, none⟩ = some (.slice a5 S.sources.length b5) ∧ Y.cell? ⟨H, 6, none⟩ = some (.slice a6 S.rules.length b6) ∧ Y.cell? ⟨H, 7, none⟩ = some (.slice a7 S.excepts.length b7) ∧ Y.cell? ⟨H, 8, none⟩ = some (.slice a8 S.totals.length b8) ∧ Y.cell? ⟨H + 1, 0, none⟩ = some (.string ⟨p.name.toArray⟩) ∧ Y.cell? ⟨H + 1, 1, none⟩ = some (.int .i64 p.sort) ∧ Y.cell? ⟨H + 1, 2, none⟩ = some (.slice (some ⟨g2, o2, none⟩) p.kinds.length kc) ∧ Y.cell? ⟨H + 1, 3, none⟩ = some (.slice va p.values.length vc) ∧ Y.cell? ⟨g, oo + i, none⟩ = some (.string ⟨s.toArray⟩) ∧ Y.cell? ⟨g2, o2 + i, none⟩ = some (.string ⟨k.toArray⟩) ∧ Fr Z2 X2 Y) (first | assumption | exact FS.out _ (Fr.trans HF.out (.of_below (below_drew wr))) | exact FS.out _ ‹_›) (first | (go_at_call 122; refine CA.out.mono ?_; rintro e wa ⟨rfl, hfa, hpa⟩; have hfb := Fr.trans (Fr.trans HF.out (.of_below (below_drew wr))) hfa))
      generalize hec : erc o1 = z at *
      cases o1 with
      | error c =>
        have hec1 : c = z := hec
        subst hec1
        have hoo : Hid (.error c = o) := HQ2.out
        have hcz := HNZ.out c rfl
        have hbc : (c == 0) = false := beq_eq_false_iff_ne.2 hcz
        clear hcz hec HQ2 HNZ hpa
        go_wp2_with fail
        go_ret
        exact Eks.bad hoo.out (HF0.out.trans (hfb.mono fun k _ e => HZS.out k e))
      | ok v2 =>
        have hec1 : 0 = z := hec
        subst hec1
        clear hec
        have HPA := hide (hpa v2 rfl)
        have HQ3 : Hid (argsS S.ctx v2 (l.drop (i + 1)) (p.kinds.drop (i + 1)) = o) := HQ2.out
        have HFB := hide hfb
        clear hpa hfb hfa
        go_wp2_with fail
        go_roundw
        case rel => exact ⟨i + 1, v2, by omega, by go_num, HFB, HPA, HQ3⟩
        case measure => simp [intOf]; omega
    · have hi' : i = l.length := by omega
      subst hi'
      have hoo : .ok v' = o := by
        have := HQ.out
        rw [List.drop_length] at this
        unfold argsS at this
        exact this
      have := HLN.out
      go_wp2_with fail
      go_ret
      exact Eks.ok hoo (HF0.out.trans (HF.out.mono fun k _ e => HZS.out k e)) (H9.out.up (HP.out.grow (by omega)) HZS.out)
end
end Go.Proofs.YtbdlgglbcaoakaaGreat
