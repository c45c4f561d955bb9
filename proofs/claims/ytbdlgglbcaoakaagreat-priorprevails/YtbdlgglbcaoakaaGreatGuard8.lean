/- Guards. -/
import Derived.Test.YtbdlgglbcaoakaaGreatLit8
namespace Go.Proofs.YtbdlgglbcaoakaaGreat
open Go.RowKit Go.Shelf Go.Maps Go.WideMaps

theorem bind_sc {x : Er Scope} {o : Er Scope} (h : x = o) : (x >>= fun v' => (.ok v' : Er Scope)) = o := by rw [← h]; cases x <;> rfl
section
variable {N : Nat} {w : World} {a : Option Addr} {n c i : Nat}
theorem at_Term {l : List TermM} (h : Terms N w l (.slice a n c)) {x : TermM} (hx : l[i]? = some x) : ∃ g o ka kc, a = some ⟨g, o, none⟩ ∧ g < N ∧ w.cell? ⟨g, o + i * 4, none⟩ = some (.int .i64 x.coef) ∧ w.cell? ⟨g, o + i * 4 + 1, none⟩ = some (.string ⟨x.pred.toArray⟩) ∧ w.cell? ⟨g, o + i * 4 + 2, none⟩ = some (.slice ka x.args.length kc) ∧ w.cell? ⟨g, o + i * 4 + 3, none⟩ = some (.int .i64 x.value) ∧ x.pred.length ≤ maxLen ∧ Strs N w x.args (.slice ka x.args.length kc) := by
  obtain ⟨g, o, xs, ea, hg, _, hc, av, rfl, h1, h2⟩ := RR.open h hx
  obtain ⟨ka, kc, rfl, _⟩ := h2.form
  exact ⟨g, o, ka, kc, ea, hg, hc 0 _ rfl, hc 1 _ rfl, hc 2 _ rfl, hc 3 _ rfl, h1, h2⟩
theorem termsM_step {C : Ctx} {l : List TermM} {k : Nat} {x : TermM} {v : Scope} {β : Type} {f : Scope → Er β} {o : Er β} (h : (termsM C v (l.drop k) >>= f) = o) (hx : l[k]? = some x) : (termM C v x >>= fun v' => termsM C v' (l.drop (k + 1)) >>= f) = o := by
  rw [drop_c hx] at h
  unfold termsM at h
  exact bind_assoc3 h
theorem termsM_end {C : Ctx} {l : List TermM} {k : Nat} {v : Scope} {β : Type} {f : Scope → Er β} {o : Er β} (h : (termsM C v (l.drop k) >>= f) = o) (hk : l.length ≤ k) : f v = o := by
  rw [List.drop_eq_nil_of_le hk] at h
  exact h
end
section
variable {W0 : World} {R : Nat} {S : StatM} {st : St9} {mp : Mp8} {it : Nat} {seen : List Bytes} {Z : Nat → Prop} {V M rb vb : Nat} {v : Scope} {X : World}
set_option maxRecDepth 100000 in
set_option maxHeartbeats 12800000 in
theorem guard_any (h : Rx W0 R S st mp it seen Z V M rb vb v X) (hp4 : ∀ p ∈ S.preds, p.kinds.length ≤ 4) (g : GuardM) {la ra : Option Addr} {lc rc : Nat} (hl : Terms R W0 g.left (.slice la g.left.length lc)) (hr : Terms R W0 g.right (.slice ra g.right.length rc)) (hv : v.length + 64 ≤ 4096) :
    Calls Tryz.prog 115 #[ptr R, .agg #[.slice la g.left.length lc, .int .i64 g.op, .slice ra g.right.length rc], .func (.func 112) #[] #[ptr rb, ptr vb]] X fun e X' => Eb Z V M it X (guardM S.ctx v g) e X' := by
  have hA : Below X.heap.size X (X.alloc (.cells #[.slice la g.left.length lc, .int .i64 g.op, .slice ra g.right.length rc] 158)) := (Below.refl _ _).alloc (Nat.le_refl _) _
  have h1 := h.fit (X1 := (X.alloc (.cells #[.slice la g.left.length lc, .int .i64 g.op, .slice ra g.right.length rc] 158))) (fun k hk _ => hA.block k hk) hA.size ⟨hA.os, hA.tape, hA.output⟩
  have H1 := hide h1
  have hb := heap_alloc_new X (.cells #[.slice la g.left.length lc, .int .i64 g.op, .slice ra g.right.length rc] 158)
  have HB := hide hb
  have CW := hide (fun b c => want_any h1.res.c9 b c)
  have HF0 := hide (show Fr Z X (X.alloc (.cells #[.slice la g.left.length lc, .int .i64 g.op, .slice ra g.right.length rc] 158)) from .of_below hA)
  have HZ1 : Hid (∀ k, ((Z k ∧ k < X.heap.size) ∨ (X.alloc (.cells #[.slice la g.left.length lc, .int .i64 g.op, .slice ra g.right.length rc] 158)).heap.size ≤ k) → Z k) := by
    rintro k (a | a)
    · exact a.1
    · exact h.new k (by have := hA.size; omega)
  have HN1 : Hid (¬ ((Z X.heap.size ∧ X.heap.size < X.heap.size) ∨ (X.alloc (.cells #[.slice la g.left.length lc, .int .i64 g.op, .slice ra g.right.length rc] 158)).heap.size ≤ X.heap.size)) := by rintro (a | a); exact absurd a.2 (Nat.lt_irrefl _); simp at a; omega
  have hll : g.left.length ≤ 140737488351232 := by obtain ⟨_, _, _, _, h⟩ := hl.form; exact h
  have hrl : g.right.length ≤ 140737488351232 := by obtain ⟨_, _, _, _, h⟩ := hr.form; exact h
  have CS1 := hide (fun w => side_any la g.left lc w hll)
  have CS2 := hide (fun w => side_any ra g.right rc w hrl)
  have b0 := cell_of_row _ X.heap.size 0 _ _ _ hb
  have b1 := cell_of_row _ X.heap.size 1 _ _ _ hb
  have b2 := cell_of_row _ X.heap.size 2 _ _ _ hb
  simp only [List.getElem?_toArray, List.getElem?_cons_zero, List.getElem?_cons_succ] at b0 b1 b2
  obtain ⟨o, ho⟩ : ∃ o, guardM S.ctx v g = o := ⟨_, rfl⟩
  rw [ho]
  have HO := hide ho
  unfold guardM at HO
  have HL := hide hl
  have HR := hide hr
  have HP4 := hide hp4
  have HP4c : Hid (∀ p ∈ S.ctx.preds, p.kinds.length ≤ 4) := hp4
  clear h h1 hA hb ho hl hr hp4
  generalize hZZ : (fun k => (Z k ∧ k < X.heap.size) ∨ (X.alloc (.cells #[.slice la g.left.length lc, .int .i64 g.op, .slice ra g.right.length rc] 158)).heap.size ≤ k) = Z1 at H1
  have hz1 : ∀ k, Z1 k → Z k := by rw [← hZZ]; exact HZ1.out
  have hn1 : ¬ Z1 X.heap.size := by rw [← hZZ]; exact HN1.out
  have HZ := hide hz1
  have HN := hide hn1
  clear HZ1 HN1 hZZ hz1 hn1
  go_enter Tryz.func115, Tryz.ntmps115
  by_cases hop : g.op < 1
  · have hop' : ¬ (1 ≤ g.op) := by omega
    rw [decide_eq_false hop', Bool.false_and] at HO
    go_wp2_with fail
    refine (CW.out _ _).mono ?_
    intro e w2 hE
    rcases hE.no with ⟨c1, h3, rfl, hw⟩ | ⟨_, h3, rfl, hw⟩
    · subst w2
      exact on_panic rfl (Eb.bad (ex_no HO.out h3) HF0.out)
    · cases h3
  have hop' : 1 ≤ g.op := by omega
  rw [decide_eq_true hop', Bool.true_and] at HO
  go_wp2_with fail
  refine (CW.out _ _).mono ?_
  intro e w2 hE
  rcases hE.no with ⟨c1, h3, rfl, hw⟩ | ⟨_, h3, rfl, hw⟩
  · subst w2
    exact on_panic rfl (Eb.bad (ex_no HO.out h3) HF0.out)
  subst w2
  have HO1 := hide (ex_go HO.out h3)
  clear hE h3 HO
  cases hs1 : sideB g.left with
  | false =>
    rw [hs1, Bool.false_and] at HO1
    rw [hs1] at CS1
    go_wp2_with (go_at_call 129; refine (CS1.out _).mono ?_; rintro _ wn ⟨rfl, hwn⟩; subst wn)
    refine (CW.out _ _).mono ?_
    intro e w2 hE
    rcases hE.no with ⟨c1, h3, rfl, hw⟩ | ⟨_, h3, rfl, hw⟩
    · subst w2
      exact on_panic rfl (Eb.bad (ex_no HO1.out h3) HF0.out)
    · cases h3
  | true =>
  rw [hs1, Bool.true_and] at HO1
  rw [hs1] at CS1
  cases hs2 : sideB g.right with
  | false =>
    rw [hs2] at HO1 CS2
    go_wp2_with fail
    refine (CS1.out _).mono ?_
    rintro _ wn ⟨rfl, hwn⟩
    subst wn
    go_wp2_with fail
    refine (CS2.out _).mono ?_
    rintro _ wn ⟨rfl, hwn⟩
    subst wn
    go_wp2_with fail
    refine (CW.out _ _).mono ?_
    intro e w2 hE
    rcases hE.no with ⟨c1, h3, rfl, hw⟩ | ⟨_, h3, rfl, hw⟩
    · subst w2
      exact on_panic rfl (Eb.bad (ex_no HO1.out h3) HF0.out)
    · cases h3
  | true =>
  rw [hs2] at HO1 CS2
  obtain ⟨-, hL8⟩ := side_len hs1
  obtain ⟨-, hR8⟩ := side_len hs2
  go_wp2_with fail
  refine (CS1.out _).mono ?_
  rintro _ wn ⟨rfl, hwn⟩
  subst wn
  go_wp2_with fail
  refine (CS2.out _).mono ?_
  rintro _ wn ⟨rfl, hwn⟩
  subst wn
  go_wp2_with fail
  refine (CW.out _ _).mono ?_
  intro e w2 hE
  rcases hE.no with ⟨c1, h3, rfl, hw⟩ | ⟨_, h3, rfl, hw⟩
  · cases h3
  subst w2
  have HO2 := hide (ex_go HO1.out h3)
  clear hE h3 HO1 CW CS1 CS2 hs1 hs2
  have HO3 : Hid ((termsM S.ctx v (g.left.drop 0) >>= fun v' => termsM S.ctx v' g.right) = o) := HO2
  clear HO2
  go_wp2_with fail
  go_loopw [33] (fun x wr => ∃ (i : Nat) (v' : Scope), i ≤ g.left.length ∧ x = .int .i64 i ∧ v'.length ≤ v.length + 4 * i ∧ Hid (Rx W0 R S st mp it seen Z1 V M rb vb v' wr) ∧ Hid (Fr Z1 (X.alloc (.cells #[.slice la g.left.length lc, .int .i64 g.op, .slice ra g.right.length rc] 158)) wr) ∧ Hid ((termsM S.ctx v' (g.left.drop i) >>= fun v' => termsM S.ctx v' g.right) = o)) (fun x _ => g.left.length - (intOf x).toNat)
  case atStart => exact ⟨0, v, by omega, rfl, by omega, H1, hide (.refl _ _), HO3⟩
  case round =>
    obtain ⟨i, v', hi, rfl, hv', HX, HF, HK⟩ := hrel
    clear HO3 H1
    have hbw := (HF.out.block X.heap.size (loc_lt HB.out) HN.out).trans HB.out
    have d2 := cell_of_row wr X.heap.size 2 _ _ _ hbw
    simp only [List.getElem?_toArray, List.getElem?_cons_zero, List.getElem?_cons_succ] at d2
    clear hbw
    by_cases hlt : i < g.left.length
    · obtain ⟨t, ht⟩ : ∃ t, g.left[i]? = some t := ⟨g.left[i], List.getElem?_eq_getElem hlt⟩
      obtain ⟨gg, oo, ka, kc, hga, hg, e0, e1, e2, e3, hpl, hks⟩ := at_Term (Terms.keep HX.out.at0 HL.out) ht
      cases hga
      have HS := hide (termsM_step HK.out ht)
      have hA : Below wr.heap.size wr (wr.alloc (.cells (termV t ka kc) 202)) := (Below.refl _ _).alloc (Nat.le_refl _) _
      have hks0 := Strs.keep (w' := W0) (fun g hg => (HX.out.at0 g hg).symm) hks
      have CT := hide (term_any (HX.out.below hA) HP4.out t hpl hks0 (by omega))
      have HXA := hide (HX.out.below hA)
      have HFA := hide (HF.out.trans (.of_below hA))
      simp only [termV] at *
      clear hA hks hks0 ht HK HX HF d2
      go_wp2_with fail
      refine CT.out.mono ?_
      intro e w2 hE
      rcases hE.no with ⟨c1, h3, rfl, hf⟩ | ⟨v2, h3, rfl, hs2, hf⟩
      · exact ⟨rfl, Eb.bad (ex_no HS.out h3) (HF0.out.trans ((HFA.out.trans hf).mono fun k _ => HZ.out k))⟩
      have HK2 := hide (ex_go HS.out h3)
      have HX2 := hide (HXA.out.fr hf hs2)
      have HF2 := hide (HFA.out.trans hf)
      have hv2 := termM_len HP4c.out h3
      clear hE h3 hs2 hf CT HS HXA HFA
      go_wp2_with fail
      go_roundw
      case rel => exact ⟨i + 1, v2, by omega, by go_num, by omega, HX2, HF2, HK2⟩
      case measure => simp [intOf]; omega
    · have HE := hide (termsM_end HK.out (by omega))
      clear HK
      go_wp2_with fail
      go_loopw [45] (fun x ws => ∃ (i : Nat) (u : Scope), i ≤ g.right.length ∧ x = .int .i64 i ∧ u.length ≤ v'.length + 4 * i ∧ Hid (Rx W0 R S st mp it seen Z1 V M rb vb u ws) ∧ Hid (Fr Z1 (X.alloc (.cells #[.slice la g.left.length lc, .int .i64 g.op, .slice ra g.right.length rc] 158)) ws) ∧ Hid ((termsM S.ctx u (g.right.drop i) >>= fun v' => .ok v') = o)) (fun x _ => g.right.length - (intOf x).toNat)
      case atStart => exact ⟨0, v', by omega, rfl, by omega, HX, HF, hide (by rw [List.drop_zero]; exact bind_sc HE.out)⟩
      case round =>
        rename World => ws
        clear HX HF HE
        obtain ⟨j, v'', hj, rfl, hv'', HX, HF, HK⟩ := hrel
        have hbw := (HF.out.block X.heap.size (loc_lt HB.out) HN.out).trans HB.out
        have d2 := cell_of_row ws X.heap.size 2 _ _ _ hbw
        simp only [List.getElem?_toArray, List.getElem?_cons_zero, List.getElem?_cons_succ] at d2
        clear hbw
        by_cases hlt : j < g.right.length
        · obtain ⟨t, ht⟩ : ∃ t, g.right[j]? = some t := ⟨g.right[j], List.getElem?_eq_getElem hlt⟩
          obtain ⟨gg, oo, ka, kc, hga, hg, e0, e1, e2, e3, hpl, hks⟩ := at_Term (Terms.keep HX.out.at0 HR.out) ht
          cases hga
          have HS := hide (termsM_step HK.out ht)
          have hA : Below ws.heap.size ws (ws.alloc (.cells (termV t ka kc) 202)) := (Below.refl _ _).alloc (Nat.le_refl _) _
          have hks0 := Strs.keep (w' := W0) (fun g hg => (HX.out.at0 g hg).symm) hks
          have CT := hide (term_any (HX.out.below hA) HP4.out t hpl hks0 (by omega))
          have HXA := hide (HX.out.below hA)
          have HFA := hide (HF.out.trans (.of_below hA))
          simp only [termV] at *
          clear hA hks hks0 ht HK HX HF d2
          go_wp2_with fail
          refine CT.out.mono ?_
          intro e w2 hE
          rcases hE.no with ⟨c1, h3, rfl, hf⟩ | ⟨v2, h3, rfl, hs2, hf⟩
          · exact ⟨rfl, Eb.bad (ex_no HS.out h3) (HF0.out.trans ((HFA.out.trans hf).mono fun k _ => HZ.out k))⟩
          have HK2 := hide (ex_go HS.out h3)
          have HX2 := hide (HXA.out.fr hf hs2)
          have HF2 := hide (HFA.out.trans hf)
          have hv2 := termM_len HP4c.out h3
          clear hE h3 hs2 hf CT HS HXA HFA
          go_wp2_with fail
          go_roundw
          case rel => exact ⟨j + 1, v2, by omega, by go_num, by omega, HX2, HF2, HK2⟩
          case measure => simp [intOf]; omega
        · have HE := hide (termsM_end HK.out (by omega))
          clear HK
          go_wp2_with fail
          go_end0
          exact Eb.ok HE.out (HF0.out.trans (HF.out.mono fun k _ => HZ.out k)) (by
            obtain ⟨nv, kv, hs⟩ := HX.out.scp
            exact ⟨nv, kv, hs.mono fun k _ => HZ.out k⟩)
end
end Go.Proofs.YtbdlgglbcaoakaaGreat
/- A rule's parts. -/
namespace Go.Proofs.YtbdlgglbcaoakaaGreat
open Go.RowKit Go.Shelf Go.Maps Go.WideMaps

section
variable {N : Nat} {w : World} {a : Option Addr} {n c i : Nat}
theorem at_Prem {l : List PremM} (h : Prems N w l (.slice a n c)) {x : PremM} (hx : l[i]? = some x) : ∃ g o ka kc la lc ra rc, a = some ⟨g, o, none⟩ ∧ g < N ∧ w.cell? ⟨g, o + i * 11, none⟩ = some (.int .i64 x.kind) ∧
    w.cell? ⟨g, o + i * 11 + 1, none⟩ = some (.bool x.lit.neg) ∧ w.cell? ⟨g, o + i * 11 + 2, none⟩ = some (.string ⟨x.lit.pred.toArray⟩) ∧ w.cell? ⟨g, o + i * 11 + 3, none⟩ = some (.slice ka x.lit.args.length kc) ∧ w.cell? ⟨g, o + i * 11 + 4, none⟩ = some (.bool x.lit.hasValue) ∧ w.cell? ⟨g, o + i * 11 + 5, none⟩ = some (.int .i64 x.lit.value) ∧
    w.cell? ⟨g, o + i * 11 + 6, none⟩ = some (.slice la x.guard.left.length lc) ∧ w.cell? ⟨g, o + i * 11 + 7, none⟩ = some (.int .i64 x.guard.op) ∧ w.cell? ⟨g, o + i * 11 + 8, none⟩ = some (.slice ra x.guard.right.length rc) ∧
    w.cell? ⟨g, o + i * 11 + 9, none⟩ = some (.string ⟨x.a.toArray⟩) ∧ w.cell? ⟨g, o + i * 11 + 10, none⟩ = some (.string ⟨x.b.toArray⟩) ∧
    x.lit.pred.length ≤ maxLen ∧ x.a.length ≤ maxLen ∧ x.b.length ≤ maxLen ∧ Strs N w x.lit.args (.slice ka x.lit.args.length kc) ∧ Terms N w x.guard.left (.slice la x.guard.left.length lc) ∧ Terms N w x.guard.right (.slice ra x.guard.right.length rc) := by
  obtain ⟨g, o, xs, ea, hg, _, hc, ls, gs, rfl, h1, h2, h3, h4⟩ := RR.open h hx
  obtain ⟨av, rfl, h5, h6⟩ := h1
  obtain ⟨lv, rv, rfl, h7, h8⟩ := h2
  obtain ⟨ka, kc, rfl, _⟩ := h6.form
  obtain ⟨la, lc, rfl, _⟩ := h7.form
  obtain ⟨ra, rc, rfl, _⟩ := h8.form
  exact ⟨g, o, ka, kc, la, lc, ra, rc, ea, hg, hc 0 _ rfl, hc 1 _ rfl, hc 2 _ rfl, hc 3 _ rfl, hc 4 _ rfl, hc 5 _ rfl, hc 6 _ rfl, hc 7 _ rfl, hc 8 _ rfl, hc 9 _ rfl, hc 10 _ rfl, h5, h3, h4, h6, h7, h8⟩
theorem run_makeMap0 (w : World) : (Instr.makeMap 67 none).run Tryz.prog w = .ok (.map (some w.heap.size)) (w.alloc (.map #[] 0)) := by
  unfold Instr.makeMap
  simp
theorem bodyM_step {C : Ctx} {l : List PremM} {k : Nat} {x : PremM} {v : Scope} {β : Type} {f : Scope → Er β} {o : Er β} (h : (bodyM C v (l.drop k) >>= f) = o) (hx : l[k]? = some x) : (premM C v x >>= fun v' => bodyM C v' (l.drop (k + 1)) >>= f) = o := by
  rw [drop_c hx] at h
  unfold bodyM at h
  exact bind_assoc3 h
theorem bodyM_end {C : Ctx} {l : List PremM} {k : Nat} {v : Scope} {β : Type} {f : Scope → Er β} {o : Er β} (h : (bodyM C v (l.drop k) >>= f) = o) (hk : l.length ≤ k) : f v = o := by
  rw [List.drop_eq_nil_of_le hk] at h
  exact h
end
/-- How the asking of a rule's parts ends. -/
def Ep (w : World) (it : Int) (o : Er Scope) (e : Ending) (w' : World) : Prop := Below w.heap.size w w' ∧ match o with
  | .ok v' => ∃ Z V M nv kv, e = .returned (ptr V) ∧ Scp Z V M nv kv v' w' ∧ (∀ k, Z k → w.heap.size ≤ k)
  | .error c => e = .panicked [fl c it]
theorem Ep.bad {w w' : World} {it : Int} {o : Er Scope} {c : Int} (h : .error c = o) (hf : Below w.heap.size w w') : Ep w it o (.panicked [fl c it]) w' := by subst h; exact ⟨hf, rfl⟩
theorem Ep.ok {w w' : World} {it : Int} {o : Er Scope} {v' : Scope} {Z : Nat → Prop} {V M : Nat} (h : .ok v' = o) (hf : Below w.heap.size w w') (hs : ∃ nv kv, Scp Z V M nv kv v' w') (hz : ∀ k, Z k → w.heap.size ≤ k) : Ep w it o (.returned (ptr V)) w' := by
  subst h
  obtain ⟨nv, kv, hs⟩ := hs
  exact ⟨hf, Z, V, M, nv, kv, rfl, hs, hz⟩
theorem Ep.no {w w' : World} {it : Int} {o : Er Scope} {e : Ending} (h : Ep w it o e w') : (∃ c, o = .error c ∧ e = .panicked [fl c it] ∧ Below w.heap.size w w') ∨ (∃ v' Z V M nv kv, o = .ok v' ∧ e = .returned (ptr V) ∧ Scp Z V M nv kv v' w' ∧ (∀ k, Z k → w.heap.size ≤ k) ∧ Below w.heap.size w w') := by
  obtain ⟨hf, h⟩ := h
  cases o with
  | ok a => obtain ⟨Z, V, M, nv, kv, h1, h2, h3⟩ := h; exact .inr ⟨a, Z, V, M, nv, kv, rfl, h1, h2, h3, hf⟩
  | error c => exact .inl ⟨c, rfl, h, hf⟩
section
variable {R : Nat} {S : StatM} {st : St9} {mp : Mp8} {it : Nat} {seen : List Bytes} {w : World}
/-- Memory when a rule's parts begin. -/
def startW (R : Nat) (cs : Array Value) (w : World) : World := ((((w.alloc (.cells #[ptr R] 65)).alloc (.cells cs 49)).alloc (.map #[] 0)).alloc (.cells #[.slice none 0 0, .slice none 0 0, .map (some (w.heap.size + 1 + 1))] 181)).alloc (.cells #[.pointer (some ⟨w.heap.size + 1 + 1 + 1, 0, none⟩)] 177)
def startZ (w : World) : Nat → Prop := fun k => k = w.heap.size + 2 ∨ k = w.heap.size + 3 ∨ w.heap.size + 5 ≤ k
theorem start_below (R : Nat) (cs : Array Value) (w : World) : Below w.heap.size w (startW R cs w) := (((((Below.refl _ w).alloc (Nat.le_refl _) _).alloc (by simp) _).alloc (by simp; omega) _).alloc (by simp; omega) _).alloc (by simp; omega) _
theorem start_rx (h : Res R S st mp it seen w) (cs : Array Value) : Rx w R S st mp it seen (startZ w) (w.heap.size + 3) (w.heap.size + 2) w.heap.size (w.heap.size + 4) [] (startW R cs w) := by
  have lt3 := loc_lt h.box
  have hsz : (startW R cs w).heap.size = w.heap.size + 5 := by unfold startW; simp
  have hb := start_below R cs w
  let w1 := w.alloc (.cells #[ptr R] 65)
  let w2 := w1.alloc (.cells cs 49)
  let w3 := w2.alloc (.map #[] 0)
  let w4 := w3.alloc (.cells #[.slice none 0 0, .slice none 0 0, .map (some (w.heap.size + 1 + 1))] 181)
  have e : startW R cs w = w4.alloc (.cells #[.pointer (some ⟨w.heap.size + 1 + 1 + 1, 0, none⟩)] 177) := rfl
  have s1 : w1.heap.size = w.heap.size + 1 := by simp [w1]
  have s2 : w2.heap.size = w.heap.size + 2 := by simp [w2, s1]
  have s3 : w3.heap.size = w.heap.size + 3 := by simp [w3, s2]
  have s4 : w4.heap.size = w.heap.size + 4 := by simp [w4, s3]
  have b0 : (startW R cs w).heap[w.heap.size]? = some (.cells #[ptr R] 65 (0, 0)) := by
    rw [e, Below.heap_alloc w4 _ _ (by omega), Below.heap_alloc w3 _ _ (by omega), Below.heap_alloc w2 _ _ (by omega), Below.heap_alloc w1 _ _ (by omega)]
    exact heap_alloc_new w _
  have b2 : (startW R cs w).heap[w.heap.size + 2]? = w3.heap[w.heap.size + 2]? := by
    rw [e, Below.heap_alloc w4 _ _ (by omega), Below.heap_alloc w3 _ _ (by omega)]
  have b3 : (startW R cs w).heap[w.heap.size + 3]? = some (.cells #[.slice none 0 0, .slice none 0 0, .map (some (w.heap.size + 2))] 181 (0, 0)) := by
    rw [e, Below.heap_alloc w4 _ _ (by omega), ← s3]
    exact heap_alloc_new w3 _
  have b4 : (startW R cs w).heap[w.heap.size + 4]? = some (.cells #[ptr (w.heap.size + 3)] 177 (0, 0)) := by
    rw [e, ← s4]
    exact heap_alloc_new w4 _
  have hm : KMap 9 w3 (w.heap.size + 2) [] := by rw [← s2]; exact KMap.made _ w2
  refine ⟨h, hb, ?_, ⟨.slice none 0 0, .slice none 0 0, b3, ⟨rfl, .inl ⟨rfl, rfl⟩⟩, ⟨rfl, .inl ⟨rfl, rfl⟩⟩, hm.keep b2, .inr (.inl rfl), .inl rfl, ?_, ?_, ?_⟩, ⟨?_, ?_, ?_, ?_, ?_, ?_⟩, ?_⟩
  · rintro k (a | a | a) <;> omega
  · intro g hg; cases hg
  · intro g hg; cases hg
  · intro s hs; cases hs
  · exact cell_of_row _ _ 0 _ _ _ b0
  · exact cell_of_row _ _ 0 _ _ _ b4
  · exact (h.below hb).c9
  · rintro (a | a | a) <;> omega
  · rintro (a | a | a) <;> omega
  · rintro (a | a | a) <;> omega
  · intro g hg; exact .inr (.inr (by omega))
theorem start_box (R : Nat) (cs : Array Value) (w : World) : (startW R cs w).heap[w.heap.size + 1]? = some (.cells cs 49 (0, 0)) := by
  let w1 := w.alloc (.cells #[ptr R] 65)
  let w2 := w1.alloc (.cells cs 49)
  let w3 := w2.alloc (.map #[] 0)
  let w4 := w3.alloc (.cells #[.slice none 0 0, .slice none 0 0, .map (some (w.heap.size + 1 + 1))] 181)
  have e : startW R cs w = w4.alloc (.cells #[.pointer (some ⟨w.heap.size + 1 + 1 + 1, 0, none⟩)] 177) := rfl
  have s1 : w1.heap.size = w.heap.size + 1 := by simp [w1]
  have s2 : w2.heap.size = w.heap.size + 2 := by simp [w2, s1]
  have s3 : w3.heap.size = w.heap.size + 3 := by simp [w3, s2]
  have s4 : w4.heap.size = w.heap.size + 4 := by simp [w4, s3]
  rw [e, Below.heap_alloc w4 _ _ (by omega), Below.heap_alloc w3 _ _ (by omega), Below.heap_alloc w2 _ _ (by omega), ← s1]
  exact heap_alloc_new w1 _
end
end Go.Proofs.YtbdlgglbcaoakaaGreat
