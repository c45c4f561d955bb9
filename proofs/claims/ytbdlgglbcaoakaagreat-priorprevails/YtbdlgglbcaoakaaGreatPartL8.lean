/- A rule's parts: the walk. -/
import Derived.Test.YtbdlgglbcaoakaaGreatGuard8
namespace Go.Proofs.YtbdlgglbcaoakaaGreat
open Go.RowKit Go.Shelf Go.Maps Go.WideMaps

section
variable {R : Nat} {S : StatM} {st : St9} {mp : Mp8} {it : Nat} {seen : List Bytes} {w : World}
abbrev ruleV (t : RuleM) (ba ka : Option Addr) (bc kc : Nat) : Array Value := #[.string ⟨t.name.toArray⟩, .string ⟨t.source.toArray⟩, .int .i64 t.day, .int .i64 t.till, .slice ba t.body.length bc, .int .i64 t.arrow, .bool t.head.neg, .string ⟨t.head.pred.toArray⟩, .slice ka t.head.args.length kc, .bool t.head.hasValue, .int .i64 t.head.value]
abbrev premV (k : Int) (x : PremM) (ka la ra : Option Addr) (kc lc rc : Nat) : Array Value := #[.int .i64 k, .bool x.lit.neg, .string ⟨x.lit.pred.toArray⟩, .slice ka x.lit.args.length kc, .bool x.lit.hasValue, .int .i64 x.lit.value, .slice la x.guard.left.length lc, .int .i64 x.guard.op, .slice ra x.guard.right.length rc, .string ⟨x.a.toArray⟩, .string ⟨x.b.toArray⟩]
set_option maxRecDepth 100000 in
set_option maxHeartbeats 12800000 in
theorem parts_any (h : Res R S st mp it seen w) (hp4 : ∀ p ∈ S.preds, p.kinds.length ≤ 4) (t : RuleM) {ba ka : Option Addr} {bc kc : Nat} (hb : Prems R w t.body (.slice ba t.body.length bc)) (hpr : t.head.pred.length ≤ maxLen) (hka : Strs R w t.head.args (.slice ka t.head.args.length kc)) (h16 : t.body.length ≤ 16) :
    Calls Tryz.prog 101 #[ptr R, .agg (ruleV t ba ka bc kc)] w fun e w' => Ep w it (partsM S.ctx t) e w' := by
  have H0 : Hid (Rx w R S st mp it seen (startZ w) (w.heap.size + 1 + 1 + 1) (w.heap.size + 1 + 1) w.heap.size (w.heap.size + 1 + 1 + 1 + 1) [] (startW R (ruleV t ba ka bc kc) w)) := hide (start_rx h (ruleV t ba ka bc kc))
  have HT := hide (start_box R (ruleV t ba ka bc kc) w)
  have hmk := run_makeMap0
  have HP := hide hb
  have HP4 := hide hp4
  have HKA := hide hka
  have HP4c : Hid (∀ p ∈ S.ctx.preds, p.kinds.length ≤ 4) := hp4
  obtain ⟨o, ho⟩ : ∃ o, partsM S.ctx t = o := ⟨_, rfl⟩
  rw [ho]
  have HO : Hid ((bodyM S.ctx [] (t.body.drop 0) >>= fun v => literalM S.ctx v t.head >>= fun x => (.ok x.1 : Er Scope)) = o) := ho
  have HNT : Hid (¬ startZ w (w.heap.size + 1)) := by rintro (a | a | a) <;> omega
  have HLow : Hid (∀ Y, Fr (startZ w) (startW R (ruleV t ba ka bc kc) w) Y → Below w.heap.size w Y) := fun Y hY => (start_below R (ruleV t ba ka bc kc) w).trans (hY.below fun k hk => ⟨Nat.lt_of_lt_of_le hk (start_below R (ruleV t ba ka bc kc) w).size, by rintro (a | a | a) <;> omega⟩)
  have HZlow : Hid (∀ k, startZ w k → w.heap.size ≤ k) := by rintro k (a | a | a) <;> omega
  generalize hXX : startW R (ruleV t ba ka bc kc) w = X0 at H0 HT HLow
  generalize hZZ : startZ w = Z at H0 HNT HLow HZlow
  unfold startW ruleV at hXX
  have HXX := hide hXX
  clear hXX
  clear h hb hp4 hka ho hZZ
  unfold ruleV
  go_enter Tryz.func101, Tryz.ntmps101
  go_wp2_with fail
  rw [HXX.out]
  clear HXX hmk
  generalize w.heap.size + 1 + 1 + 1 + 1 = vb at H0 ⊢
  generalize w.heap.size + 1 + 1 + 1 = V at H0 ⊢
  generalize w.heap.size + 1 + 1 = M at H0 ⊢
  generalize w.heap.size + 1 = tb at HT HNT ⊢
  go_loopw [16] (fun x wr => ∃ (i : Nat) (v' : Scope), i ≤ t.body.length ∧ x = .int .i64 i ∧ v'.length ≤ 64 * i ∧ Hid (Rx w R S st mp it seen Z V M w.heap.size vb v' wr) ∧ Hid (Fr Z X0 wr) ∧ Hid ((bodyM S.ctx v' (t.body.drop i) >>= fun v => literalM S.ctx v t.head >>= fun x => (.ok x.1 : Er Scope)) = o)) (fun x _ => t.body.length - (intOf x).toNat)
  case atStart => exact ⟨0, [], by omega, rfl, by simp, H0, hide (.refl _ _), HO⟩
  case round =>
    obtain ⟨i, v', hi, rfl, hv', HX, HF, HK⟩ := hrel
    clear HO H0
    by_cases hlt : i < t.body.length
    · obtain ⟨p, hpp⟩ : ∃ p, t.body[i]? = some p := ⟨t.body[i], List.getElem?_eq_getElem hlt⟩
      obtain ⟨gg, oo, pa, pc, la, lc, ra, rc, hga, hg, e0, e1, e2, e3, e4, e5, e6, e7, e8, e9, e10, hpl, hal, hbl, hks, hls, hrs⟩ := at_Prem (Prems.keep HX.out.at0 HP.out) hpp
      cases hga
      have HS := hide (bodyM_step HK.out hpp)
      have HE0 := hide e0
      have hks0 := hide (Strs.keep (w' := w) (fun g hg => (HX.out.at0 g hg).symm) hks)
      have hls0 := hide (Terms.keep (w' := w) (fun g hg => (HX.out.at0 g hg).symm) hls)
      have hrs0 := hide (Terms.keep (w' := w) (fun g hg => (HX.out.at0 g hg).symm) hrs)
      have hA : ∀ k, Below wr.heap.size wr (wr.alloc (.cells (premV k p pa la ra pc lc rc) 160)) := fun k => (Below.refl _ _).alloc (Nat.le_refl _) _
      have HA := hide hA
      have HXA := hide (fun k => HX.out.below (hA k))
      have HFA := hide (fun k => HF.out.trans (.of_below (hA k)))
      have hvs : v'.length + 64 ≤ 4096 := by omega
      clear HK hks hls hrs hpp e0 hA
      by_cases hk1 : p.kind = 1
      · have e0 := HE0.out
        rw [hk1] at e0
        have r0 := (HXA.out 1).clo.crb
        have HS1 : Hid ((literalM S.ctx v' p.lit >>= fun x => (.ok x.1 : Er Scope)) >>= (fun v' => bodyM S.ctx v' (t.body.drop (i + 1)) >>= fun v => literalM S.ctx v t.head >>= fun x => (.ok x.1 : Er Scope)) = o) := by
          have hh := HS.out
          unfold premM at hh
          rw [if_pos hk1] at hh
          exact hh
        have CL := hide (lit_any (HXA.out 1) HP4.out p.lit hpl hks0.out (by omega))
        clear hk1 HE0 HS HX HF HA
        unfold premV litV at *
        go_wp2_with fail
        refine CL.out.mono ?_
        intro e w2 hE
        rcases hE.no with ⟨c1, h3, rfl, hf⟩ | ⟨v2, ms, u, h3, rfl, hs2, hf⟩
        · exact ⟨rfl, Ep.bad (ex_no (bind_assoc3 HS1.out) h3) (HLow.out _ ((HFA.out 1).trans hf))⟩
        have HK2 := hide (ex_go (bind_assoc3 HS1.out) h3)
        have HX2 := hide ((HXA.out 1).fr hf hs2)
        have HF2 := hide ((HFA.out 1).trans hf)
        have hv2 := literalM_len HP4c.out h3
        clear hE h3 hs2 hf CL HS1 HXA HFA r0 e0
        go_wp2_with fail
        go_roundw
        case rel => exact ⟨i + 1, v2, by omega, by go_num, by omega, HX2, HF2, HK2⟩
        case measure => simp [intOf]; omega
      by_cases hk2 : p.kind = 2
      · have e0 := HE0.out
        rw [hk2] at e0
        have r0 := (HXA.out 2).clo.crb
        have HS1 : Hid ((guardM S.ctx v' p.guard >>= fun v' => bodyM S.ctx v' (t.body.drop (i + 1)) >>= fun v => literalM S.ctx v t.head >>= fun x => (.ok x.1 : Er Scope)) = o) := by
          have hh := HS.out
          unfold premM at hh
          rw [if_neg hk1, if_pos hk2] at hh
          exact hh
        have CL := hide (guard_any (HXA.out 2) HP4.out p.guard hls0.out hrs0.out (by omega))
        clear hk1 hk2 HE0 HS HX HF HA
        unfold premV at *
        go_wp2_with fail
        refine CL.out.mono ?_
        intro e w2 hE
        rcases hE.no with ⟨c1, h3, rfl, hf⟩ | ⟨v2, h3, rfl, hs2, hf⟩
        · exact ⟨rfl, Ep.bad (ex_no HS1.out h3) (HLow.out _ ((HFA.out 2).trans hf))⟩
        have HK2 := hide (ex_go HS1.out h3)
        have HX2 := hide ((HXA.out 2).fr hf hs2)
        have HF2 := hide ((HFA.out 2).trans hf)
        have hv2 := guardM_len HP4c.out h3
        clear hE h3 hs2 hf CL HS1 HXA HFA r0 e0
        go_wp2_with fail
        go_roundw
        case rel => exact ⟨i + 1, v2, by omega, by go_num, by omega, HX2, HF2, HK2⟩
        case measure => simp [intOf]; omega
      by_cases hk3 : p.kind = 3
      · have e0 := HE0.out
        rw [hk3] at e0
        have HS1 : Hid ((unlikeM S.ctx v' p.a >>= fun v' => unlikeM S.ctx v' p.b) >>= (fun v' => bodyM S.ctx v' (t.body.drop (i + 1)) >>= fun v => literalM S.ctx v t.head >>= fun x => (.ok x.1 : Er Scope)) = o) := by
          have hh := HS.out
          unfold premM at hh
          rw [if_neg hk1, if_neg hk2, if_pos hk3] at hh
          exact hh
        have h1 := HX.out.fit (X1 := (wr.alloc (.cells (premV 3 p pa la ra pc lc rc) 160))) (fun k hk _ => (HA.out 3).block k hk) (HA.out 3).size ⟨(HA.out 3).os, (HA.out 3).tape, (HA.out 3).output⟩
        have hz0 : ∀ k, ((Z k ∧ k < wr.heap.size) ∨ (wr.alloc (.cells (premV 3 p pa la ra pc lc rc) 160)).heap.size ≤ k) → Z k := by
          rintro k (a | a)
          · exact a.1
          · exact HX.out.new k (by have := (HA.out 3).size; omega)
        have hn0 : ¬ ((Z wr.heap.size ∧ wr.heap.size < wr.heap.size) ∨ (wr.alloc (.cells (premV 3 p pa la ra pc lc rc) 160)).heap.size ≤ wr.heap.size) := by
          rintro (a | a)
          · exact absurd a.2 (Nat.lt_irrefl _)
          · simp at a; omega
        generalize hZ1 : (fun k => (Z k ∧ k < wr.heap.size) ∨ (wr.alloc (.cells (premV 3 p pa la ra pc lc rc) 160)).heap.size ≤ k) = Z1 at h1
        have HZ : Hid (∀ k, Z1 k → Z k) := by rw [← hZ1]; exact hz0
        have HN : Hid (¬ Z1 wr.heap.size) := by rw [← hZ1]; exact hn0
        have H1 := hide h1
        have r0 := h1.clo.crb
        have r1 := h1.clo.cvb
        have CA := hide (unlike_any h1 (by omega) p.a hal)
        have HBX := hide (heap_alloc_new wr (.cells (premV 3 p pa la ra pc lc rc) 160))
        clear hk1 hk2 hk3 HE0 HS HX HF HA hz0 hn0 hZ1 h1
        unfold premV str at *
        go_wp2_with fail
        refine CA.out.mono ?_
        intro e w2 hE
        rcases hE.no with ⟨c1, h3, rfl, hf⟩ | ⟨v2, h3, rfl, hs2, hf⟩
        · exact ⟨rfl, Ep.bad (ex_no (bind_assoc3 HS1.out) h3) (HLow.out _ ((HFA.out 3).trans (hf.mono fun k _ => HZ.out k)))⟩
        have HS2 := hide (ex_go (bind_assoc3 HS1.out) h3)
        have h2 := H1.out.fr hf hs2
        have HF2 := hide hf
        have hv2 := unlikeM_len h3
        have hb2 := (hf.block wr.heap.size (loc_lt HBX.out) HN.out).trans HBX.out
        clear r0 r1
        have r0 := h2.clo.crb
        have r1 := h2.clo.cvb
        have d10 := cell_of_row w2 wr.heap.size 10 _ _ _ hb2
        simp only [List.getElem?_toArray, List.getElem?_cons_zero, List.getElem?_cons_succ] at d10
        have CB := hide (unlike_any h2 (by omega) p.b hbl)
        have H2 := hide h2
        clear hE h3 hs2 hf CA HS1 H1 HBX h2 hb2 e0 e1 e2 e3 e4 e5 e6 e7 e8 e9 e10
        unfold str at *
        go_wp2_with fail
        refine CB.out.mono ?_
        intro e w3 hE
        rcases hE.no with ⟨c1, h3, rfl, hf⟩ | ⟨v3, h3, rfl, hs3, hf⟩
        · exact ⟨rfl, Ep.bad (ex_no HS2.out h3) (HLow.out _ ((HFA.out 3).trans ((HF2.out.trans hf).mono fun k _ => HZ.out k)))⟩
        have HK2 := hide (ex_go HS2.out h3)
        have hv3 := unlikeM_len h3
        have HF3 := hide ((HF2.out.trans hf).mono fun k _ => HZ.out k)
        have HX3 := hide ((HXA.out 3).fr HF3.out (by
          obtain ⟨nv, kv, hs⟩ := hs3
          exact ⟨nv, kv, hs.mono fun k _ => HZ.out k⟩))
        have HF4 := hide ((HFA.out 3).trans HF3.out)
        clear hE h3 hs3 hf CB HS2 HF2 HF3 HXA HFA r0 r1 d10 H2
        go_wp2_with fail
        go_roundw
        case rel => exact ⟨i + 1, v3, by omega, by go_num, by omega, HX3, HF4, HK2⟩
        case measure => simp [intOf]; omega
      · have e0 := HE0.out
        have HS1 : Hid (.error 1 = o) := by
          have hh := HS.out
          unfold premM at hh
          rw [if_neg hk1, if_neg hk2, if_neg hk3] at hh
          exact hh
        have r0 := (HXA.out p.kind).clo.crb
        have CF := hide (fail_any (HXA.out p.kind).res.c9 1)
        clear HE0 HS HX HF HA
        unfold premV at *
        go_wp2_with fail
        refine CF.out.mono ?_
        rintro _ w2 ⟨rfl, hw⟩
        subst w2
        exact ⟨rfl, Ep.bad HS1.out (HLow.out _ (HFA.out _))⟩
    · have HE := hide (bodyM_end HK.out (by omega))
      have r0 := HX.out.clo.crb
      have tbw := (HF.out.block tb (loc_lt HT.out) HNT.out).trans HT.out
      unfold ruleV at tbw
      have d6 := cell_of_row _ tb 6 _ _ _ tbw
      have d7 := cell_of_row _ tb 7 _ _ _ tbw
      have d8 := cell_of_row _ tb 8 _ _ _ tbw
      have d9 := cell_of_row _ tb 9 _ _ _ tbw
      have d10 := cell_of_row _ tb 10 _ _ _ tbw
      simp only [List.getElem?_toArray, List.getElem?_cons_zero, List.getElem?_cons_succ] at d6 d7 d8 d9 d10
      have CL := hide (lit_any HX.out HP4.out t.head hpr HKA.out (by omega))
      clear HK tbw
      unfold litV at *
      go_wp2_with fail
      refine CL.out.mono ?_
      intro e w2 hE
      rcases hE.no with ⟨c1, h3, rfl, hf⟩ | ⟨v2, ms, u, h3, rfl, hs2, hf⟩
      · exact on_panic rfl (Ep.bad (ex_no HE.out h3) (HLow.out _ (HF.out.trans hf)))
      have HK2 := hide (ex_go HE.out h3)
      have HX2 := hide (HX.out.fr hf hs2)
      have HF2 := hide (HF.out.trans hf)
      have r1 := HX2.out.clo.cvb
      clear hE h3 hs2 hf CL HX HF HE r0 d6 d7 d8 d9 d10
      go_wp2_with fail
      go_ret
      exact Ep.ok HK2.out (HLow.out _ HF2.out) HX2.out.scp HZlow.out
end
end Go.Proofs.YtbdlgglbcaoakaaGreat
