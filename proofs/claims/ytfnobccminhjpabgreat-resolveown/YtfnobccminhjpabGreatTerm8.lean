/- Terms. -/
import Derived.Test.YtfnobccminhjpabGreatLit8
namespace Go.Proofs.YtfnobccminhjpabGreat
open Go.RowKit Go.Shelf Go.Maps Go.WideMaps

section
variable {W0 : World} {R : Nat} {S : StatM} {st : St9} {mp : Mp8} {it : Nat} {seen : List Bytes} {Z : Nat → Prop} {V M rb vb : Nat} {v : Scope} {X : World}
abbrev termV (t : TermM) (aa : Option Addr) (ac : Nat) : Array Value := #[.int .i64 t.coef, .string ⟨t.pred.toArray⟩, .slice aa t.args.length ac, .int .i64 t.value]

set_option maxRecDepth 100000 in
set_option maxHeartbeats 12800000 in
theorem term_any (h : Rx W0 R S st mp it seen Z V M rb vb v X) (hp4 : ∀ p ∈ S.preds, p.kinds.length ≤ 4) (t : TermM) {aa : Option Addr} {ac : Nat} (hpr : t.pred.length ≤ maxLen) (hl : Strs R W0 t.args (.slice aa t.args.length ac)) (hv : v.length + 4 ≤ 4096) :
    Calls Tryz.prog 121 #[ptr R, .agg (termV t aa ac), .func (.func 59) #[] #[ptr rb, ptr vb]] X fun e X' => Eb Z V M it X (termM S.ctx v t) e X' := by
  have hA : Below X.heap.size X (X.alloc (.cells (termV t aa ac) 160)) := (Below.refl _ _).alloc (Nat.le_refl _) _
  have h1 := h.below hA
  have H1 := hide h1
  have H := hide h
  have HA := hide hA
  have hb := heap_alloc_new X (.cells (termV t aa ac) 160)
  have HB := hide hb
  have CW := hide (fun b c => want_any h1.res.c9 b c)
  have HF0 := hide (show Fr Z X (X.alloc (.cells (termV t aa ac) 160)) from .of_below hA)
  have hal : t.args.length ≤ 140737488351232 := by obtain ⟨_, _, _, _, h⟩ := hl.form; exact h
  have b0 := cell_of_row _ X.heap.size 0 _ _ _ hb
  have b1 := cell_of_row _ X.heap.size 1 _ _ _ hb
  have b2 := cell_of_row _ X.heap.size 2 _ _ _ hb
  have b3 := cell_of_row _ X.heap.size 3 _ _ _ hb
  simp only [List.getElem?_toArray, List.getElem?_cons_zero, List.getElem?_cons_succ] at b0 b1 b2 b3
  obtain ⟨o, ho⟩ : ∃ o, termM S.ctx v t = o := ⟨_, rfl⟩
  rw [ho]
  have HO := hide ho
  unfold termM at HO
  have HL := hide hl
  have HP4 := hide hp4
  have CP := hide (findPred_any h1.res t.pred hpr)
  unfold str at CP
  simp only [termV] at *
  clear h h1 hA hb ho hl hp4
  by_cases hpe : t.pred = []
  · rw [if_pos hpe] at HO
    obtain ⟨tc, tp, ta, tv⟩ := t
    simp only at *
    subst hpe
    have HS : Hid (∃ nv kv, Scp Z V M nv kv v (X.alloc (.cells #[.int .i64 tc, .string ⟨#[]⟩, .slice aa ta.length ac, .int .i64 tv] 160))) := hide H1.out.scp
    have CM := hide (fun w => may_any tv w)
    clear CP H1 H
    by_cases hc0 : tc = 0
    · subst hc0
      rw [decide_eq_true rfl] at HO
      simp only [Bool.true_and] at HO
      rw [show decide ((ta.length : Int) = 0) = ((ta.length : Int) == 0) from rfl] at HO
      go_enter Tryz.func121, Tryz.ntmps121
      go_wp2_with fail
      refine (CW.out _ _).mono ?_
      intro e w2 hE
      rcases hE.no with ⟨c1, h3, rfl, hw⟩ | ⟨_, h3, rfl, hw⟩
      · subst w2
        exact on_panic rfl (Eb.bad (ex_no HO.out h3) HF0.out)
      subst w2
      have HO1 := hide (ex_go HO.out h3)
      clear hE h3 HO
      cases hmay : mayB tv with
      | false =>
        rw [hmay] at HO1 CM
        go_wp2_with (go_at_call 134; refine (CM.out _).mono ?_; rintro _ wn ⟨rfl, hwn⟩; subst wn)
        refine (CW.out _ _).mono ?_
        intro e w2 hE
        rcases hE.no with ⟨c1, h3, rfl, hw⟩ | ⟨_, h3, rfl, hw⟩
        · subst w2
          exact on_panic rfl (Eb.bad (ex_no HO1.out h3) HF0.out)
        · cases h3
      | true =>
        rw [hmay] at HO1 CM
        go_wp2_with (go_at_call 134; refine (CM.out _).mono ?_; rintro _ wn ⟨rfl, hwn⟩; subst wn)
        refine (CW.out _ _).mono ?_
        intro e w2 hE
        rcases hE.no with ⟨c1, h3, rfl, hw⟩ | ⟨_, h3, rfl, hw⟩
        · cases h3
        subst w2
        have HO2 := ex_go HO1.out h3
        go_wp2_with fail
        go_end0
        exact Eb.ok HO2 HF0.out HS.out
    · rw [decide_eq_false hc0] at HO
      simp only [Bool.false_and] at HO
      have hcb : (tc == 0) = false := beq_eq_false_iff_ne.2 hc0
      go_enter Tryz.func121, Tryz.ntmps121
      go_wp2_with fail
      refine (CW.out _ _).mono ?_
      intro e w2 hE
      rcases hE.no with ⟨c1, h3, rfl, hw⟩ | ⟨_, h3, rfl, hw⟩
      · subst w2
        exact on_panic rfl (Eb.bad (ex_no HO.out h3) HF0.out)
      · cases h3
  · rw [if_neg hpe] at HO
    have hpb : (t.pred == []) = false := beq_eq_false_iff_ne.2 hpe
    go_enter Tryz.func121, Tryz.ntmps121
    go_wp2_with fail
    refine CP.out.mono ?_
    intro e w1 hE
    rcases hE.no with ⟨c1, h3, rfl, hb⟩ | ⟨p, u, h3, rfl, hrp, hb⟩
    · exact on_panic rfl (Eb.bad (ex_no HO.out h3) (.of_below (HA.out.trans (hb.mono HA.out.size))))
    obtain ⟨ka, kc, va, vc, rfl, hpn, hpk, hpv⟩ := hrp
    have HO1 := hide (ex_go HO.out h3)
    have HPM := hide (HP4.out p (findPredM_mem h3))
    have hA1 : Below w1.heap.size w1 (w1.alloc (.cells (predV p ka kc va vc) 115)) := (Below.refl _ _).alloc (Nat.le_refl _) _
    have hB1 : Below X.heap.size X (w1.alloc (.cells (predV p ka kc va vc) 115)) := (HA.out.trans (hb.mono HA.out.size)).trans (hA1.mono (Nat.le_trans HA.out.size hb.size))
    have hX1 := H.out.fit (X1 := (w1.alloc (.cells (predV p ka kc va vc) 115))) (fun k hk _ => hB1.block k hk) hB1.size ⟨hB1.os, hB1.tape, hB1.output⟩
    have HX1 := hide hX1
    have HF1 := hide (show Fr Z X (w1.alloc (.cells (predV p ka kc va vc) 115)) from .of_below hB1)
    have hs1 : X.heap.size + 1 ≤ w1.heap.size := by have := hb.size; simp at this; omega
    have hlb := (hA1.block X.heap.size (by omega)).trans ((hb.block X.heap.size (by simp)).trans HB.out)
    have hpb := heap_alloc_new w1 (.cells (predV p ka kc va vc) 115)
    have HZ1 : Hid (∀ k, ((Z k ∧ k < X.heap.size) ∨ (w1.alloc (.cells (predV p ka kc va vc) 115)).heap.size ≤ k) → Z k) := by
      rintro k (a | a)
      · exact a.1
      · exact H.out.new k (by have := hB1.size; omega)
    have hRX : R < X.heap.size := World.block_lt_of_cell? X _ H.out.clo.c9
    have HKS : Hid (Strs R W0 p.kinds (.slice ka p.kinds.length kc)) := hide (hpk.keep fun g hg => ((hb.block g (by simp; omega)).trans ((HA.out.block g (by omega)).trans (H.out.at0 g hg))).symm)
    have p0 := cell_of_row _ w1.heap.size 0 _ _ _ hpb
    have p1 := cell_of_row _ w1.heap.size 1 _ _ _ hpb
    have p2 := cell_of_row _ w1.heap.size 2 _ _ _ hpb
    have p3 := cell_of_row _ w1.heap.size 3 _ _ _ hpb
    have l0 := cell_of_row _ X.heap.size 0 _ _ _ hlb
    have l2 := cell_of_row _ X.heap.size 2 _ _ _ hlb
    have l3 := cell_of_row _ X.heap.size 3 _ _ _ hlb
    simp only [List.getElem?_toArray, List.getElem?_cons_zero, List.getElem?_cons_succ] at p0 p1 p2 p3 l0 l2 l3
    have CW1 := hide (fun b c => want_any hX1.res.c9 b c)
    have CA := hide (args_any (va := va) (vc := vc) hX1 p HKS.out HPM.out t.args HL.out hv)
    simp only [predV] at *
    clear hE h3 HO CP hb hA1 hB1 hX1 hlb hpk hpv hpn b0 b1 b2 b3 CW
    rw [show decide (p.sort = 2) = (p.sort == 2) from rfl] at HO1
    go_wp2_with fail
    refine (CW1.out _ _).mono ?_
    intro e w2 hE
    rcases hE.no with ⟨c1, h3, rfl, hw⟩ | ⟨_, h3, rfl, hw⟩
    · subst w2
      exact on_panic rfl (Eb.bad (ex_no HO1.out h3) HF1.out)
    subst w2
    have HO2 := hide (ex_go HO1.out h3)
    clear hE h3 HO1
    by_cases hc0 : t.coef = 0
    · rw [decide_eq_true hc0] at HO2
      simp only [Bool.not_true, Bool.false_and] at HO2
      have hc0b : (t.coef != 0) = false := by simp [hc0]
      go_wp2_with fail
      refine (CW1.out _ _).mono ?_
      intro e w2 hE
      rcases hE.no with ⟨c1, h3, rfl, hw⟩ | ⟨_, h3, rfl, hw⟩
      · subst w2
        exact on_panic rfl (Eb.bad (ex_no HO2.out h3) HF1.out)
      · cases h3
    rw [decide_eq_false hc0] at HO2
    simp only [Bool.not_false, Bool.true_and] at HO2
    have hc0b : (t.coef != 0) = true := by simp [hc0]
    by_cases hc1 : t.coef < -1000
    · have hc1' : ¬ (-1000 ≤ t.coef) := by omega
      have hc1b : (decide (-1000 ≤ t.coef)) = false := decide_eq_false hc1'
      rw [hc1b] at HO2
      simp only [Bool.false_and] at HO2
      go_wp2_with fail
      refine (CW1.out _ _).mono ?_
      intro e w2 hE
      rcases hE.no with ⟨c1, h3, rfl, hw⟩ | ⟨_, h3, rfl, hw⟩
      · subst w2
        exact on_panic rfl (Eb.bad (ex_no HO2.out h3) HF1.out)
      · cases h3
    have hc1' : -1000 ≤ t.coef := by omega
    rw [decide_eq_true hc1'] at HO2
    simp only [Bool.true_and] at HO2
    by_cases hc2 : 1000 < t.coef
    · have hc2' : ¬ (t.coef ≤ 1000) := by omega
      have hc2b : (decide (t.coef ≤ 1000)) = false := decide_eq_false hc2'
      rw [hc2b] at HO2
      simp only [Bool.false_and] at HO2
      go_wp2_with fail
      refine (CW1.out _ _).mono ?_
      intro e w2 hE
      rcases hE.no with ⟨c1, h3, rfl, hw⟩ | ⟨_, h3, rfl, hw⟩
      · subst w2
        exact on_panic rfl (Eb.bad (ex_no HO2.out h3) HF1.out)
      · cases h3
    have hc2' : t.coef ≤ 1000 := by omega
    rw [decide_eq_true hc2'] at HO2
    simp only [Bool.true_and] at HO2
    rw [show decide (t.value = 0) = (t.value == 0) from rfl] at HO2
    go_wp2_with fail
    refine (CW1.out _ _).mono ?_
    intro e w2 hE
    rcases hE.no with ⟨c1, h3, rfl, hw⟩ | ⟨_, h3, rfl, hw⟩
    · subst w2
      exact on_panic rfl (Eb.bad (ex_no HO2.out h3) HF1.out)
    subst w2
    have HO3 := hide (ex_go HO2.out h3)
    clear hE h3 HO2
    go_wp2_with fail
    refine CA.out.mono ?_
    intro e w2 hE
    rcases hE.no with ⟨c1, h3, rfl, hf⟩ | ⟨v2, ms, xa, xc, h3, rfl, hrow, hsc, hf⟩
    · exact on_panic rfl (Eb.bad (ex_no HO3.out h3) (HF1.out.trans (hf.mono fun k _ => HZ1.out k)))
    have HO4 := ex_go HO3.out h3
    have HF2 := hide (HF1.out.trans (hf.mono (Z' := Z) fun k _ => HZ1.out k))
    have HS2 : Hid (∃ nv kv, Scp Z V M nv kv v2 w2) := by
      obtain ⟨nv, kv, hs⟩ := hsc
      exact ⟨nv, kv, hs.mono fun k _ => HZ1.out k⟩
    clear hE h3 hrow hsc hf
    go_wp2_with fail
    go_end0
    exact Eb.ok HO4 HF2.out HS2.out
end
end Go.Proofs.YtfnobccminhjpabGreat
