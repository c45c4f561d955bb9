/- Terms. -/
import Derived.Test.YtbdlgglbcaoakaaGreatLit8
namespace Go.Proofs.YtbdlgglbcaoakaaGreat
open Go.RowKit Go.Shelf Go.Maps Go.WideMaps

section
variable {W0 : World} {R : Nat} {S : StatM} {st : St9} {mp : Mp8} {it : Nat} {seen : List Bytes} {Z : Nat → Prop} {V M rb vb : Nat} {v : Scope} {X : World}
abbrev termV (t : TermM) (aa : Option Addr) (ac : Nat) : Array Value := #[.int .i64 t.coef, .string ⟨t.pred.toArray⟩, .slice aa t.args.length ac, .int .i64 t.value]

set_option maxRecDepth 100000 in
set_option maxHeartbeats 12800000 in
theorem term_any (h : Rx W0 R S st mp it seen Z V M rb vb v X) (hp4 : ∀ p ∈ S.preds, p.kinds.length ≤ 4) (t : TermM) {aa : Option Addr} {ac : Nat} (hpr : t.pred.length ≤ maxLen) (hl : Strs R W0 t.args (.slice aa t.args.length ac)) (hv : v.length + 4 ≤ 4096) :
    Calls Tryz.prog 130 #[ptr R, .agg (termV t aa ac), .func (.func 112) #[] #[ptr rb, ptr vb]] X fun e X' => Eb Z V M it X (termM S.ctx v t) e X' := by
  have hA : Below X.heap.size X (X.alloc (.cells (termV t aa ac) 202)) := (Below.refl _ _).alloc (Nat.le_refl _) _
  have h1 := h.below hA
  have H1 := hide h1
  have H := hide h
  have HA := hide hA
  have hb := heap_alloc_new X (.cells (termV t aa ac) 202)
  have HB := hide hb
  have CW := hide (fun b c => want_any h1.res.c9 b c)
  have HF0 := hide (show Fr Z X (X.alloc (.cells (termV t aa ac) 202)) from .of_below hA)
  have hal : t.args.length ≤ 140737488351232 := by obtain ⟨_, _, _, _, h⟩ := hl.form; exact h
  have b0 := cell_of_row _ X.heap.size 0 _ _ _ hb
  have b1 := cell_of_row _ X.heap.size 1 _ _ _ hb
  have b2 := cell_of_row _ X.heap.size 2 _ _ _ hb
  have b3 := cell_of_row _ X.heap.size 3 _ _ _ hb
  simp only [List.getElem?_toArray, List.getElem?_cons_zero, List.getElem?_cons_succ] at b0 b1 b2 b3
  obtain ⟨o, ho⟩ : ∃ o, termM S.ctx v t = o := ⟨_, rfl⟩
  rw [ho]
  have HO := hide ho
  unfold termM at HO
  have HL := hide hl
  have HP4 := hide hp4
  have CP := hide (findPred_any h1.res t.pred hpr)
  unfold str at CP
  simp only [termV] at *
  clear h h1 hA hb ho hl hp4
  by_cases hpe : t.pred = []
  · rw [if_pos hpe] at HO
    obtain ⟨tc, tp, ta, tv⟩ := t
    simp only at *
    subst hpe
    have HS : Hid (∃ nv kv, Scp Z V M nv kv v (X.alloc (.cells #[.int .i64 tc, .string ⟨#[]⟩, .slice aa ta.length ac, .int .i64 tv] 202))) := hide H1.out.scp
    have CM := hide (fun w => may_any tv w)
    clear CP H1 H
    by_cases hc0 : tc = 0
    · subst hc0
      rw [decide_eq_true rfl] at HO
      simp only [Bool.true_and] at HO
      rw [show decide ((ta.length : Int) = 0) = ((ta.length : Int) == 0) from rfl] at HO
      go_enter Tryz.func130, Tryz.ntmps130
      go_wp2_with fail
      refine (CW.out _ _).mono ?_
      intro e w2 hE
      rcases hE.no with ⟨c1, h3, rfl, hw⟩ | ⟨_, h3, rfl, hw⟩
      · subst w2
        exact on_panic rfl (Eb.bad (ex_no HO.out h3) HF0.out)
      subst w2
      have HO1 := hide (ex_go HO.out h3)
      clear hE h3 HO
      cases hmay : mayB tv with
      | false =>
        rw [hmay] at HO1 CM
        go_wp2_with (go_at_call 109; refine (CM.out _).mono ?_; rintro _ wn ⟨rfl, hwn⟩; subst wn)
        refine (CW.out _ _).mono ?_
        intro e w2 hE
        rcases hE.no with ⟨c1, h3, rfl, hw⟩ | ⟨_, h3, rfl, hw⟩
        · subst w2
          exact on_panic rfl (Eb.bad (ex_no HO1.out h3) HF0.out)
        · cases h3
      | true =>
        rw [hmay] at HO1 CM
        go_wp2_with (go_at_call 109; refine (CM.out _).mono ?_; rintro _ wn ⟨rfl, hwn⟩; subst wn)
        refine (CW.out _ _).mono ?_
        intro e w2 hE
        rcases hE.no with ⟨c1, h3, rfl, hw⟩ | ⟨_, h3, rfl, hw⟩
        · cases h3
        subst w2
        have HO2 := ex_go HO1.out h3
        go_wp2_with fail
        go_end0
        exact Eb.ok HO2 HF0.out HS.out
    · rw [decide_eq_false hc0] at HO
      simp only [Bool.false_and] at HO
      have hcb : (tc == 0) = false := beq_eq_false_iff_ne.2 hc0
      go_enter Tryz.func130, Tryz.ntmps130
      go_wp2_with fail
      refine (CW.out _ _).mono ?_
      intro e w2 hE
      rcases hE.no with ⟨c1, h3, rfl, hw⟩ | ⟨_, h3, rfl, hw⟩
      · subst w2
        exact on_panic rfl (Eb.bad (ex_no HO.out h3) HF0.out)
      · cases h3
  · rw [if_neg hpe] at HO
    have hpb : (t.pred == []) = false := beq_eq_false_iff_ne.2 hpe
    go_enter Tryz.func130, Tryz.ntmps130
    go_wp2_with fail
    refine CP.out.mono ?_
    intro e w1 hE
    rcases hE.no with ⟨c1, h3, rfl, hb⟩ | ⟨p, u, h3, rfl, hrp, hb⟩
    · exact on_panic rfl (Eb.bad (ex_no HO.out h3) (.of_below (HA.out.trans (hb.mono HA.out.size))))
    obtain ⟨ka, kc, va, vc, rfl, hpn, hpk, hpv⟩ := hrp
    have HO1 := hide (ex_go HO.out h3)
    have HPM := hide (HP4.out p (findPredM_mem h3))
    have hA1 : Below w1.heap.size w1 (w1.alloc (.cells (predV p ka kc va vc) 119)) := (Below.refl _ _).alloc (Nat.le_refl _) _
    have hB1 : Below X.heap.size X (w1.alloc (.cells (predV p ka kc va vc) 119)) := (HA.out.trans (hb.mono HA.out.size)).trans (hA1.mono (Nat.le_trans HA.out.size hb.size))
    have hX1 := H.out.fit (X1 := (w1.alloc (.cells (predV p ka kc va vc) 119))) (fun k hk _ => hB1.block k hk) hB1.size ⟨hB1.os, hB1.tape, hB1.output⟩
    have HX1 := hide hX1
    have HF1 := hide (show Fr Z X (w1.alloc (.cells (predV p ka kc va vc) 119)) from .of_below hB1)
    have hs1 : X.heap.size + 1 ≤ w1.heap.size := by have := hb.size; simp at this; omega
    have hlb := (hA1.block X.heap.size (by omega)).trans ((hb.block X.heap.size (by simp)).trans HB.out)
    have hpb := heap_alloc_new w1 (.cells (predV p ka kc va vc) 119)
    have HZ1 : Hid (∀ k, ((Z k ∧ k < X.heap.size) ∨ (w1.alloc (.cells (predV p ka kc va vc) 119)).heap.size ≤ k) → Z k) := by
      rintro k (a | a)
      · exact a.1
      · exact H.out.new k (by have := hB1.size; omega)
    have hRX : R < X.heap.size := World.block_lt_of_cell? X _ H.out.clo.c9
    have HKS : Hid (Strs R W0 p.kinds (.slice ka p.kinds.length kc)) := hide (hpk.keep fun g hg => ((hb.block g (by simp; omega)).trans ((HA.out.block g (by omega)).trans (H.out.at0 g hg))).symm)
    have p0 := cell_of_row _ w1.heap.size 0 _ _ _ hpb
    have p1 := cell_of_row _ w1.heap.size 1 _ _ _ hpb
    have p2 := cell_of_row _ w1.heap.size 2 _ _ _ hpb
    have p3 := cell_of_row _ w1.heap.size 3 _ _ _ hpb
    have l0 := cell_of_row _ X.heap.size 0 _ _ _ hlb
    have l2 := cell_of_row _ X.heap.size 2 _ _ _ hlb
    have l3 := cell_of_row _ X.heap.size 3 _ _ _ hlb
    simp only [List.getElem?_toArray, List.getElem?_cons_zero, List.getElem?_cons_succ] at p0 p1 p2 p3 l0 l2 l3
    have CW1 := hide (fun b c => want_any hX1.res.c9 b c)
    have CA := hide (args_any (va := va) (vc := vc) hX1 p HKS.out HPM.out t.args HL.out hv)
    simp only [predV] at *
    clear hE h3 HO CP hb hA1 hB1 hX1 hlb hpk hpv hpn b0 b1 b2 b3 CW
    rw [show decide (p.sort = 2) = (p.sort == 2) from rfl] at HO1
    go_wp2_with fail
    refine (CW1.out _ _).mono ?_
    intro e w2 hE
    rcases hE.no with ⟨c1, h3, rfl, hw⟩ | ⟨_, h3, rfl, hw⟩
    · subst w2
      exact on_panic rfl (Eb.bad (ex_no HO1.out h3) HF1.out)
    subst w2
    have HO2 := hide (ex_go HO1.out h3)
    clear hE h3 HO1
    by_cases hc0 : t.coef = 0
    · rw [decide_eq_true hc0] at HO2
      simp only [Bool.not_true, Bool.false_and] at HO2
      have hc0b : (t.coef != 0) = false := by simp [hc0]
      go_wp2_with fail
      refine (CW1.out _ _).mono ?_
      intro e w2 hE
      rcases hE.no with ⟨c1, h3, rfl, hw⟩ | ⟨_, h3, rfl, hw⟩
      · subst w2
        exact on_panic rfl (Eb.bad (ex_no HO2.out h3) HF1.out)
      · cases h3
    rw [decide_eq_false hc0] at HO2
    simp only [Bool.not_false, Bool.true_and] at HO2
    have hc0b : (t.coef != 0) = true := by simp [hc0]
    by_cases hc1 : t.coef < -1000
    · have hc1' : ¬ (-1000 ≤ t.coef) := by omega
      have hc1b : (decide (-1000 ≤ t.coef)) = false := decide_eq_false hc1'
      rw [hc1b] at HO2
      simp only [Bool.false_and] at HO2
      go_wp2_with fail
      refine (CW1.out _ _).mono ?_
      intro e w2 hE
      rcases hE.no with ⟨c1, h3, rfl, hw⟩ | ⟨_, h3, rfl, hw⟩
      · subst w2
        exact on_panic rfl (Eb.bad (ex_no HO2.out h3) HF1.out)
      · cases h3
    have hc1' : -1000 ≤ t.coef := by omega
    rw [decide_eq_true hc1'] at HO2
    simp only [Bool.true_and] at HO2
    by_cases hc2 : 1000 < t.coef
    · have hc2' : ¬ (t.coef ≤ 1000) := by omega
      have hc2b : (decide (t.coef ≤ 1000)) = false := decide_eq_false hc2'
      rw [hc2b] at HO2
      simp only [Bool.false_and] at HO2
      go_wp2_with fail
      refine (CW1.out _ _).mono ?_
      intro e w2 hE
      rcases hE.no with ⟨c1, h3, rfl, hw⟩ | ⟨_, h3, rfl, hw⟩
      · subst w2
        exact on_panic rfl (Eb.bad (ex_no HO2.out h3) HF1.out)
      · cases h3
    have hc2' : t.coef ≤ 1000 := by omega
    rw [decide_eq_true hc2'] at HO2
    simp only [Bool.true_and] at HO2
    rw [show decide (t.value = 0) = (t.value == 0) from rfl] at HO2
    go_wp2_with fail
    refine (CW1.out _ _).mono ?_
    intro e w2 hE
    rcases hE.no with ⟨c1, h3, rfl, hw⟩ | ⟨_, h3, rfl, hw⟩
    · subst w2
      exact on_panic rfl (Eb.bad (ex_no HO2.out h3) HF1.out)
    subst w2
    have HO3 := hide (ex_go HO2.out h3)
    clear hE h3 HO2
    go_wp2_with fail
    refine CA.out.mono ?_
    intro e w2 hE
    rcases hE.no with ⟨c1, h3, rfl, hf⟩ | ⟨v2, ms, xa, xc, h3, rfl, hrow, hsc, hf⟩
    · exact on_panic rfl (Eb.bad (ex_no HO3.out h3) (HF1.out.trans (hf.mono fun k _ => HZ1.out k)))
    have HO4 := ex_go HO3.out h3
    have HF2 := hide (HF1.out.trans (hf.mono (Z' := Z) fun k _ => HZ1.out k))
    have HS2 : Hid (∃ nv kv, Scp Z V M nv kv v2 w2) := by
      obtain ⟨nv, kv, hs⟩ := hsc
      exact ⟨nv, kv, hs.mono fun k _ => HZ1.out k⟩
    clear hE h3 hrow hsc hf
    go_wp2_with fail
    go_end0
    exact Eb.ok HO4 HF2.out HS2.out
end
end Go.Proofs.YtbdlgglbcaoakaaGreat
/- How many variables a rule can have. -/
namespace Go.Proofs.YtbdlgglbcaoakaaGreat

theorem ex_ok {α β : Type} {x : Er α} {f : α → Er β} {b : β} (h : (x >>= f) = .ok b) : ∃ a, x = .ok a ∧ f a = .ok b := by
  cases x with
  | error c => cases h
  | ok a => exact ⟨a, rfl, h⟩
theorem ok_inj {α : Type} {a b : α} (h : (Except.ok a : Er α) = .ok b) : a = b := by injection h
theorem bindM_len {v v' : Scope} {s : Bytes} {k : Int} (h : bindM v s k = .ok v') : v'.length ≤ v.length + 1 := by
  unfold bindM at h
  obtain ⟨_, _, h2⟩ := ex_ok h
  rw [← ok_inj h2]
  exact bind_len _ _ _
theorem argsM_len {C : Ctx} : ∀ (l k : List Bytes) (v : Scope) (ms : List Nat) (x : Scope × List Nat), argsM C v ms l k = .ok x → x.1.length ≤ v.length + l.length := by
  intro l
  induction l with
  | nil => intro k v ms x h; unfold argsM at h; rw [← ok_inj h]; simp
  | cons s r ih =>
    intro k v ms x h
    cases k with
    | nil => unfold argsM at h; rw [← ok_inj h]; simp
    | cons k q =>
      unfold argsM at h
      by_cases hv : isVarB s = true
      · rw [if_pos hv] at h
        obtain ⟨v2, h1, h2⟩ := ex_ok h
        have := ih q v2 ms x h2
        have := bindM_len h1
        simp
        omega
      · rw [if_neg hv] at h
        obtain ⟨m, _, h2⟩ := ex_ok h
        obtain ⟨_, _, h3⟩ := ex_ok h2
        have := ih q v _ x h3
        simp
        omega
theorem argumentsM_len {C : Ctx} {v : Scope} {p : PredM} {l : List Bytes} {x : Scope × List Nat} (h : argumentsM C v p l = .ok x) (h4 : p.kinds.length ≤ 4) : x.1.length ≤ v.length + 4 := by
  unfold argumentsM at h
  obtain ⟨_, h1, h2⟩ := ex_ok h
  have := argsM_len _ _ _ _ _ h2
  have hl : l.length = p.kinds.length := by
    by_cases hh : (l.length : Int) = (p.kinds.length : Int)
    · omega
    · rw [decide_eq_false hh] at h1; cases h1
  omega
theorem literalM_len {C : Ctx} (hp : ∀ p ∈ C.preds, p.kinds.length ≤ 4) {v : Scope} {l : LitM} {x : Scope × List Nat} (h : literalM C v l = .ok x) : x.1.length ≤ v.length + 4 := by
  unfold literalM at h
  obtain ⟨p, hp1, h⟩ := ex_ok h
  obtain ⟨_, _, h⟩ := ex_ok h
  obtain ⟨y, hy, h⟩ := ex_ok h
  obtain ⟨_, _, h⟩ := ex_ok h
  obtain ⟨_, _, h⟩ := ex_ok h
  obtain ⟨_, _, h⟩ := ex_ok h
  rw [← ok_inj h]
  exact argumentsM_len hy (hp p (findPredM_mem hp1))
theorem termM_len {C : Ctx} (hp : ∀ p ∈ C.preds, p.kinds.length ≤ 4) {v v' : Scope} {t : TermM} (h : termM C v t = .ok v') : v'.length ≤ v.length + 4 := by
  unfold termM at h
  by_cases ht : t.pred = []
  · rw [if_pos ht] at h
    obtain ⟨_, _, h⟩ := ex_ok h
    obtain ⟨_, _, h⟩ := ex_ok h
    rw [← ok_inj h]; omega
  · rw [if_neg ht] at h
    obtain ⟨p, hp1, h⟩ := ex_ok h
    obtain ⟨_, _, h⟩ := ex_ok h
    obtain ⟨_, _, h⟩ := ex_ok h
    obtain ⟨y, hy, h⟩ := ex_ok h
    rw [← ok_inj h]
    exact argumentsM_len hy (hp p (findPredM_mem hp1))
theorem termsM_len {C : Ctx} (hp : ∀ p ∈ C.preds, p.kinds.length ≤ 4) : ∀ (l : List TermM) (v v' : Scope), termsM C v l = .ok v' → v'.length ≤ v.length + 4 * l.length := by
  intro l
  induction l with
  | nil => intro v v' h; unfold termsM at h; rw [← ok_inj h]; simp
  | cons t r ih =>
    intro v v' h
    unfold termsM at h
    obtain ⟨v2, h1, h2⟩ := ex_ok h
    have := ih _ _ h2
    have := termM_len hp h1
    simp
    omega
theorem side_len {l : List TermM} (h : sideB l = true) : 1 ≤ l.length ∧ l.length ≤ 8 := by unfold sideB at h; simpa using h
theorem guardM_len {C : Ctx} (hp : ∀ p ∈ C.preds, p.kinds.length ≤ 4) {v v' : Scope} {g : GuardM} (h : guardM C v g = .ok v') : v'.length ≤ v.length + 64 := by
  unfold guardM at h
  obtain ⟨_, _, h⟩ := ex_ok h
  obtain ⟨_, h1, h⟩ := ex_ok h
  obtain ⟨v2, h2, h⟩ := ex_ok h
  have a := termsM_len hp _ _ _ h2
  have b := termsM_len hp _ _ _ h
  have hs : sideB g.left = true ∧ sideB g.right = true := by
    cases hb : sideB g.left && sideB g.right with
    | false => rw [hb] at h1; cases h1
    | true => simpa using hb
  have := side_len hs.1
  have := side_len hs.2
  omega
theorem unlikeM_len {C : Ctx} {v v' : Scope} {s : Bytes} (h : unlikeM C v s = .ok v') : v'.length ≤ v.length + 1 := by
  unfold unlikeM at h
  by_cases hv : isVarB s = true
  · rw [if_pos hv] at h; rw [← ok_inj h]; exact stand_len _ _
  · rw [if_neg hv] at h
    obtain ⟨_, _, h⟩ := ex_ok h
    rw [← ok_inj h]; omega
theorem premM_len {C : Ctx} (hp : ∀ p ∈ C.preds, p.kinds.length ≤ 4) {v v' : Scope} {q : PremM} (h : premM C v q = .ok v') : v'.length ≤ v.length + 64 := by
  unfold premM at h
  by_cases h1 : q.kind = 1
  · rw [if_pos h1] at h
    obtain ⟨x, hx, h⟩ := ex_ok h
    have := literalM_len hp hx
    rw [← ok_inj h]; omega
  · rw [if_neg h1] at h
    by_cases h2 : q.kind = 2
    · rw [if_pos h2] at h
      exact guardM_len hp h
    · rw [if_neg h2] at h
      by_cases h3 : q.kind = 3
      · rw [if_pos h3] at h
        obtain ⟨v2, hx, h⟩ := ex_ok h
        have := unlikeM_len hx
        have := unlikeM_len h
        omega
      · rw [if_neg h3] at h; cases h
end Go.Proofs.YtbdlgglbcaoakaaGreat
