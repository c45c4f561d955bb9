/- Tarjan's walk, whole: the knots are the classes of rules that reach one another; the least rule that comes back to itself. No Go in sight. -/
import Derived.Test.YtdmnoeooljofcaaNvC
namespace Go.Proofs.Ytdmnoeooljofcaa
open Go.RowKit

/-- Reached, by some way or none. -/
inductive Rt (next : List (List Int)) : Int → Int → Prop
  | refl (x : Int) : Rt next x x
  | step {x y z : Int} : y ∈ row next x → Rt next y z → Rt next x z
section
variable {next : List (List Int)} {N : Nat}
theorem Rt.trans {x y z : Int} (h : Rt next x y) (k : Rt next y z) : Rt next x z := by
  induction h with
  | refl => exact k
  | step a _ ih => exact .step a (ih k)
theorem Rt.edge {x y : Int} (h : y ∈ row next x) : Rt next x y := .step h (.refl _)
/-- What waits leads to one that waits, whose time it has. -/
def Bp (next : List (List Int)) (s : Wk) : Prop := ∀ x ∈ s.opn, ∃ y ∈ s.opn, bk s x = cm s y ∧ Rt next x y
structure Kk (next : List (List Int)) (s : Wk) : Prop where
  mt : ∀ k ∈ s.knots, ∀ x ∈ k, ∀ y ∈ k, Rt next x y
  nd : s.knots.flatten.Nodup
  top : ∀ A k B, s.knots = A ++ k :: B → ∀ x ∈ k, ∀ o ∈ row next x, o ∈ A.flatten ++ k
/-- What a done one that waits keeps. -/
def Dn (next : List (List Int)) (N : Nat) (s : Wk) (y : Int) : Prop := ∀ o ∈ row next y, Inn N o ∧ (sh s o = true ∨ (cm s o ≠ 0 ∧ bk s y ≤ cm s o))
structure Vp (next : List (List Int)) (N : Nat) (p : Int) (s s' : Wk) : Prop where
  bp : Bp next s'
  kk : Kk next s'
  op : ∃ R, s'.opn = s.opn ++ R ∧ (∀ y ∈ R, Rt next p y ∧ (∃ z ∈ s.opn, Rt next y z) ∧ bk s' p ≤ bk s' y ∧ Dn next N s' y) ∧ (R = [] ∨ p ∈ R)
/-- What the loop over the others keeps. -/
structure Lr (next : List (List Int)) (N : Nat) (p : Int) (O : List Int) (s : Wk) : Prop where
  bp : Bp next s
  kk : Kk next s
  op : ∃ R, s.opn = O ++ p :: R ∧ (∀ y ∈ R, Rt next p y ∧ Rt next y p ∧ bk s p ≤ bk s y ∧ Dn next N s y)
  all : ∀ x ∈ s.opn, Rt next x p
theorem Dn.go {s s' : Wk} {y : Int} (h : Dn next N s y) (hb : bk s' y = bk s y) (hc : ∀ x, Inn N x → cm s x ≠ 0 → cm s' x = cm s x) (hs : ∀ x, Inn N x → sh s x = true → sh s' x = true) : Dn next N s' y := by
  intro o ho
  obtain ⟨a, b⟩ := h o ho
  refine ⟨a, b.imp (hs o a) fun c => ?_⟩
  rw [hc o a c.1, hb]
  exact c
theorem lower_lr {p o : Int} {O D : List Int} {s : Wk} (hi : Lp next N p O D s) (h : Lr next N p O s) (ho : Inn N o) (hc : cm s o ≠ 0) (he : o ∈ row next p) : Lr next N p O (lowerM p o s) ∧ bk (lowerM p o s) p ≤ bk s p ∧ (sh s o = false → bk (lowerM p o s) p ≤ bk s o) := by
  obtain ⟨-, l2, l3, l4, l5, l6⟩ := lower_lp hi ho hc
  obtain ⟨R, hR, hy⟩ := h.op
  have hpo : p ∈ s.opn := by rw [hR]; simp
  have hp := (hi.iv.op p hpo).1
  have ecm : ∀ x, cm (lowerM p o s) x = cm s x := fun x => by unfold cm; rw [l4]
  have esh : ∀ x, sh (lowerM p o s) x = sh s x := fun x => by unfold sh; rw [l5]
  have hb : bk (lowerM p o s) p ≤ bk s p ∧ (sh s o = false → bk (lowerM p o s) p ≤ bk s o) ∧ (bk (lowerM p o s) p = bk s p ∨ (bk (lowerM p o s) p = bk s o ∧ sh s o = false)) := by
    unfold lowerM
    by_cases hs' : s.shut.getD o.toNat false = true
    · rw [if_pos hs']
      exact ⟨Int.le_refl _, fun e => (by unfold sh at e; rw [hs'] at e; cases e), .inl rfl⟩
    · rw [if_neg hs']
      have e : bk ({ s with back := s.back.set p.toNat (min (s.back.getD p.toNat 0) (s.back.getD o.toNat 0)) } : Wk) p = min (bk s p) (bk s o) := by
        show (s.back.set _ _).getD p.toNat 0 = _
        rw [getD_set (by rw [hi.iv.lb]; exact inn_lt hp), if_pos rfl]
        rfl
      rw [e]
      have hso : sh s o = false := by unfold sh; simpa using hs'
      refine ⟨by omega, fun _ => by omega, ?_⟩
      by_cases h1 : bk s p ≤ bk s o
      · exact .inl (by omega)
      · exact .inr ⟨by omega, hso⟩
  obtain ⟨hb1, hb2, hb3⟩ := hb
  have hneR : ∀ y ∈ R, y ≠ p := fun y hy' e => by
    have hsr := hi.iv.srt
    rw [hR] at hsr
    have := (List.pairwise_cons.1 (List.pairwise_append.1 hsr).2.1).1 y hy'
    rw [e] at this
    omega
  have hmem : ∀ y ∈ R, y ∈ s.opn := fun y hy' => by rw [hR]; simp [hy']
  refine ⟨⟨fun x hx => ?_, ⟨by rw [l3]; exact h.kk.mt, by rw [l3]; exact h.kk.nd, by rw [l3]; exact h.kk.top⟩, ⟨R, by rw [l2]; exact hR, fun y hy' => ?_⟩, fun x hx => h.all x (by rw [← l2]; exact hx)⟩, hb1, hb2⟩
  · rw [l2] at hx ⊢
    by_cases e : x = p
    · subst e
      rcases hb3 with hb3 | ⟨hb3, hso⟩
      · obtain ⟨y, hy1, hy2, hy3⟩ := h.bp x hx
        exact ⟨y, hy1, by rw [hb3, ecm]; exact hy2, hy3⟩
      · obtain ⟨y, hy1, hy2, hy3⟩ := h.bp o (hi.iv.vis o ho hc hso)
        exact ⟨y, hy1, by rw [hb3, ecm]; exact hy2, .step he hy3⟩
    · obtain ⟨y, hy1, hy2, hy3⟩ := h.bp x hx
      exact ⟨y, hy1, by rw [l6 x (hi.iv.op x hx).1 e, ecm]; exact hy2, hy3⟩
  · obtain ⟨a, b, c, d⟩ := hy y hy'
    have hyi := (hi.iv.op y (hmem y hy')).1
    refine ⟨a, b, by rw [l6 y hyi (hneR y hy')]; omega, d.go (l6 y hyi (hneR y hy')) (fun x _ _ => ecm x) fun x _ e => by rw [esh]; exact e⟩
theorem others_lr (vis : Int → Wk → Wk) (p : Int) (O : List Int) (f : Nat)
    (hv : ∀ o s, Iv next N s → Inn N o → cm s o = 0 → un s ≤ f → Bp next s → Kk next s → (∀ x ∈ s.opn, Rt next x o) → Iv next N (vis o s) ∧ Fm N s (vis o s) ∧ cm (vis o s) o ≠ 0 ∧ Vp next N o s (vis o s)) :
    ∀ (l D : List Int) (s : Wk), Lp next N p O D s → Lr next N p O s → (∀ o ∈ l, Inn N o ∧ o ∈ row next p) → un s ≤ f → Lr next N p O (othersM vis p l s)
  | [], _, _, _, h, _, _ => h
  | o :: l, D, s, hi, h, hl, hu => by
    obtain ⟨ho, he⟩ := hl o (by simp)
    obtain ⟨s1, hs1⟩ : ∃ s1, (if s.came.getD o.toNat 0 = 0 then vis o s else s) = s1 := ⟨_, rfl⟩
    have key : ∃ D1, Lp next N p O D1 s1 ∧ cm s1 o ≠ 0 ∧ un s1 ≤ f ∧ (Lr next N p O s1 ∨ ((∃ R0 R1, s1.opn = O ++ p :: (R0 ++ R1) ∧ (∀ y ∈ R0, Rt next p y ∧ Rt next y p ∧ bk s1 p ≤ bk s1 y ∧ Dn next N s1 y) ∧ (∀ y ∈ R1, Rt next p y ∧ Rt next y p ∧ bk s1 o ≤ bk s1 y ∧ Dn next N s1 y) ∧ o ∈ R1) ∧ Bp next s1 ∧ Kk next s1 ∧ ∀ x ∈ s1.opn, Rt next x p)) := by
      rw [← hs1]
      by_cases hc : s.came.getD o.toNat 0 = 0
      · rw [if_pos hc]
        obtain ⟨a, b, c, d⟩ := hv o s hi.iv ho hc hu h.bp h.kk fun x hx => (h.all x hx).trans (.edge he)
        obtain ⟨R, hR, hy⟩ := h.op
        obtain ⟨R1, hR1, hy1, hor⟩ := d.op
        have hpo : p ∈ s.opn := by rw [hR]; simp
        have hpI := hi.iv.op p hpo
        have hyR : ∀ y ∈ R, Rt next p y ∧ Rt next y p ∧ bk (vis o s) p ≤ bk (vis o s) y ∧ Dn next N (vis o s) y := fun y hy' => by
          obtain ⟨y1, y2, y3, y4⟩ := hy y hy'
          have hyo : y ∈ s.opn := by rw [hR]; simp [hy']
          have hyI := hi.iv.op y hyo
          have e1 := b.same p hpI.1 hpI.2.1
          have e2 := b.same y hyI.1 hyI.2.1
          exact ⟨y1, y2, by rw [e1.2, e2.2]; exact y3, y4.go e2.2 (fun x hx h0 => (b.same x hx h0).1) b.sh⟩
        have hlp : Lp next N p O D (vis o s) := by
          refine ⟨a, ⟨R ++ R1, by rw [hR1, hR]; simp⟩, fun x hx => ?_⟩
          obtain ⟨x1, x2⟩ := hi.dn x hx
          refine ⟨x1, x2.imp (b.sh x x1) fun x3 => ?_⟩
          have y1 := b.same p hpI.1 hpI.2.1
          have y2 := b.same x x1 (hi.iv.op x x3.1).2.1
          exact ⟨by rw [hR1]; simp [x3.1], by rw [y1.2, y2.1]; exact x3.2⟩
        refine ⟨D, hlp, c, Nat.le_trans b.un hu, ?_⟩
        have hback : ∀ y ∈ R1, Rt next y p := fun y hy' => by
          obtain ⟨-, ⟨z, hz, hz2⟩, -⟩ := hy1 y hy'
          exact hz2.trans (h.all z hz)
        have hall : ∀ x ∈ (vis o s).opn, Rt next x p := fun x hx => by
          rw [hR1] at hx
          rcases List.mem_append.1 hx with h1 | h1
          · exact h.all x h1
          · exact hback x h1
        rcases hor with h1 | h1
        · subst h1
          exact .inl ⟨d.bp, d.kk, ⟨R, by rw [hR1, hR]; simp, hyR⟩, hall⟩
        · refine .inr ⟨⟨R, R1, by rw [hR1, hR]; simp, hyR, fun y hy' => ?_, h1⟩, d.bp, d.kk, hall⟩
          obtain ⟨y1, -, y3, y4⟩ := hy1 y hy'
          exact ⟨.step he y1, hback y hy', y3, y4⟩
      · rw [if_neg hc]
        exact ⟨D, hi, hc, hu, .inl h⟩
    obtain ⟨D1, k1, k2, k3, k4⟩ := key
    have e : othersM vis p (o :: l) s = othersM vis p l (lowerM p o s1) := by rw [othersM, hs1]
    rw [e]
    obtain ⟨l1, l2, l3, l4, l5, l6⟩ := lower_lp k1 ho k2
    have hun : un (lowerM p o s1) = un s1 := by unfold un; rw [l4]
    refine others_lr vis p O f hv l (D1 ++ [o]) (lowerM p o s1) l1 ?_ (fun x hx => hl x (by simp [hx])) (by rw [hun]; exact k3)
    rcases k4 with k4 | ⟨⟨R0, R1, hop, h0, h1, ho1⟩, hbp, hkk, hall⟩
    · exact (lower_lr k1 k4 ho k2 he).1
    · -- the one just visited waits: p takes its time over
      have hoo : o ∈ s1.opn := by rw [hop]; simp [ho1]
      have hso : sh s1 o = false := (k1.iv.op o hoo).2.2
      have hpo : p ∈ s1.opn := by rw [hop]; simp
      have hp := (k1.iv.op p hpo).1
      have hpn : ∀ y, y ∈ R0 ++ R1 → y ≠ p := fun y hy' e => by
        have hsr := k1.iv.srt
        rw [hop] at hsr
        have := (List.pairwise_cons.1 (List.pairwise_append.1 hsr).2.1).1 y hy'
        rw [e] at this
        omega
      have hebk : bk (lowerM p o s1) p = min (bk s1 p) (bk s1 o) := by
        unfold lowerM
        rw [if_neg (by unfold sh at hso; rw [hso]; simp)]
        show (s1.back.set _ _).getD p.toNat 0 = _
        rw [getD_set (by rw [k1.iv.lb]; exact inn_lt hp), if_pos rfl]
        rfl
      have ecm : ∀ x, cm (lowerM p o s1) x = cm s1 x := fun x => by unfold cm; rw [l4]
      have esh : ∀ x, sh (lowerM p o s1) x = sh s1 x := fun x => by unfold sh; rw [l5]
      have hin : ∀ y ∈ R0 ++ R1, Inn N y := fun y hy' => (k1.iv.op y (by rw [hop]; simp at hy' ⊢; exact .inr (.inr hy'))).1
      refine ⟨fun x hx => ?_, ⟨by rw [l3]; exact hkk.mt, by rw [l3]; exact hkk.nd, by rw [l3]; exact hkk.top⟩, ⟨R0 ++ R1, by rw [l2]; exact hop, fun y hy' => ?_⟩, fun x hx => hall x (by rw [← l2]; exact hx)⟩
      · rw [l2] at hx ⊢
        by_cases e : x = p
        · subst e
          by_cases hm : bk s1 x ≤ bk s1 o
          · obtain ⟨y, hy1, hy2, hy3⟩ := hbp x hx
            exact ⟨y, hy1, by rw [hebk, ecm, ← hy2]; omega, hy3⟩
          · obtain ⟨y, hy1, hy2, hy3⟩ := hbp o hoo
            exact ⟨y, hy1, by rw [hebk, ecm, ← hy2]; omega, .step he hy3⟩
        · obtain ⟨y, hy1, hy2, hy3⟩ := hbp x hx
          exact ⟨y, hy1, by rw [l6 x (k1.iv.op x hx).1 e, ecm]; exact hy2, hy3⟩
      · have ey := l6 y (hin y hy') (hpn y hy')
        have hdn : ∀ {q : Int}, Rt next p y ∧ Rt next y p ∧ bk s1 q ≤ bk s1 y ∧ Dn next N s1 y → bk (lowerM p o s1) p ≤ bk s1 q → Rt next p y ∧ Rt next y p ∧ bk (lowerM p o s1) p ≤ bk (lowerM p o s1) y ∧ Dn next N (lowerM p o s1) y := fun ⟨a, b, c, d⟩ hq => ⟨a, b, by rw [ey]; omega, d.go ey (fun x _ _ => ecm x) fun x _ e => by rw [esh]; exact e⟩
        rcases List.mem_append.1 hy' with h2 | h2
        · exact hdn (h0 y h2) (by rw [hebk]; omega)
        · exact hdn (h1 y h2) (by rw [hebk]; omega)
theorem nodup_cm {s : Wk} {l : List Int} (h : l.Pairwise fun a b => cm s a < cm s b) : l.Nodup := h.imp fun hab e => by rw [e] at hab; omega
theorem visit_vp (hnx : ∀ p, Inn N p → p ∉ row next p ∧ ∀ o ∈ row next p, Inn N o) : ∀ (f : Nat) (p : Int) (s : Wk), Iv next N s → Inn N p → cm s p = 0 → un s ≤ f → Bp next s → Kk next s → (∀ x ∈ s.opn, Rt next x p) → Vp next N p s (visitM next f p s)
  | 0, p, s, h, hp, h0, hu, _, _, _ => by
    exfalso
    have := (come_iv h hp h0).2.1
    omega
  | f + 1, p, s, h, hp, h0, hu, hbp, hkk, hall => by
    obtain ⟨c1, c2, c3, c4, c5⟩ := come_iv h hp h0
    have start : Lp next N p s.opn [] (comeM p s) := ⟨c1, ⟨[], rfl⟩, fun o ho => by cases ho⟩
    have hbkp : bk (comeM p s) p = cm (comeM p s) p := by
      rw [c3]
      show (s.back.set p.toNat (s.clock + 1)).getD p.toNat 0 = _
      rw [getD_set (by rw [h.lb]; exact inn_lt hp), if_pos rfl]
    have startR : Lr next N p s.opn (comeM p s) := by
      refine ⟨fun x hx => ?_, ⟨hkk.mt, hkk.nd, hkk.top⟩, ⟨[], rfl, fun y hy => by cases hy⟩, fun x hx => ?_⟩
      · rcases List.mem_append.1 (show x ∈ s.opn ++ [p] from hx) with h1 | h1
        · obtain ⟨y, hy1, hy2, hy3⟩ := hbp x h1
          have e1 := c4.same x (h.op x h1).1 (h.op x h1).2.1
          have e2 := c4.same y (h.op y hy1).1 (h.op y hy1).2.1
          exact ⟨y, List.mem_append.2 (.inl hy1), by rw [e1.2, e2.1]; exact hy2, hy3⟩
        · have e : x = p := by simpa using h1
          subst e
          exact ⟨x, List.mem_append.2 (.inr (by simp)), hbkp, .refl _⟩
      · rcases List.mem_append.1 (show x ∈ s.opn ++ [p] from hx) with h1 | h1
        · exact hall x h1
        · have e : x = p := by simpa using h1
          rw [e]; exact .refl _
    obtain ⟨r1, -⟩ := others_lp (visitM next f) p s.opn f (fun o s' a b c d => by
      obtain ⟨x, y, z, -⟩ := visit_iv hnx f o s' a b c d
      exact ⟨x, y, z⟩) (row next p) [] (comeM p s) start (fun o ho => (hnx p hp).2 o ho) (by omega)
    have rr := others_lr (visitM next f) p s.opn f (fun o s' a b c d e g i => by
      obtain ⟨x, y, z, -⟩ := visit_iv hnx f o s' a b c d
      exact ⟨x, y, z, visit_vp hnx f o s' a b c d e g i⟩) (row next p) [] (comeM p s) start startR (fun o ho => ⟨(hnx p hp).2 o ho, ho⟩) (by omega)
    have ev : visitM next (f + 1) p s = endM p (othersM (visitM next f) p (row next p) (comeM p s)) := rfl
    rw [ev]
    generalize othersM (visitM next f) p (row next p) (comeM p s) = t at r1 rr
    obtain ⟨R, hR, hy⟩ := rr.op
    have hsr := r1.iv.srt
    rw [hR] at hsr
    obtain ⟨s1, s2, s3⟩ := List.pairwise_append.1 hsr
    obtain ⟨s4, s5⟩ := List.pairwise_cons.1 s2
    have hpo : p ∈ t.opn := by rw [hR]; simp
    have hpR : p ∉ R := fun hm => by have := s4 p hm; omega
    have hdp : Dn next N t p := fun o ho => by
      obtain ⟨a, b⟩ := r1.dn o (by simpa using ho)
      exact ⟨a, b.imp id fun c => ⟨(r1.iv.op o c.1).2.1, c.2⟩⟩
    unfold endM
    by_cases hb : t.back.getD p.toNat 0 = t.came.getD p.toNat 0
    · rw [if_pos hb]
      have hb' : bk t p = cm t p := hb
      have hrev : popM p t.opn.reverse = (R.reverse ++ [p], s.opn.reverse) := by
        rw [hR, List.reverse_append, List.reverse_cons, List.append_assoc]
        exact pop_at (by simpa using hpR)
      have e1 : (shutM p t).opn = s.opn := by show (popM p t.opn.reverse).2.reverse = s.opn; rw [hrev]; simp
      have e3 : (shutM p t).knots = t.knots ++ [R.reverse ++ [p]] := by show t.knots ++ [(popM p t.opn.reverse).1] = _; rw [hrev]
      have hin : ∀ y, y ∈ R.reverse ++ [p] ↔ y = p ∨ y ∈ R := fun y => by simp [or_comm]
      have hto : ∀ y, y ∈ R.reverse ++ [p] → Rt next p y ∧ Rt next y p ∧ bk t p ≤ bk t y ∧ Dn next N t y ∧ y ∈ t.opn := fun y hy' => by
        rcases (hin y).1 hy' with h1 | h1
        · subst h1; exact ⟨.refl _, .refl _, Int.le_refl _, hdp, hpo⟩
        · obtain ⟨a, b, c, d⟩ := hy y h1
          exact ⟨a, b, c, d, by rw [hR]; simp [h1]⟩
      refine ⟨fun x hx => ?_, ⟨fun k hk => ?_, ?_, ?_⟩, ⟨[], by rw [e1]; simp, fun y hy => (by cases hy), .inl rfl⟩⟩
      · rw [e1] at hx ⊢
        have hxt : x ∈ t.opn := by rw [hR]; simp [hx]
        obtain ⟨y, hy1, hy2, hy3⟩ := rr.bp x hxt
        refine ⟨y, ?_, hy2, hy3⟩
        obtain ⟨z, hz1, hz2, hz3⟩ := r1.iv.bck x hxt
        rw [hR] at hy1
        rcases List.mem_append.1 hy1 with h1 | h1
        · exact h1
        · have := s3 x hx y h1
          omega
      · rw [e3] at hk
        rcases List.mem_append.1 hk with h1 | h1
        · exact rr.kk.mt k h1
        · have e : k = R.reverse ++ [p] := by simpa using h1
          subst e
          exact fun x hx y hy' => (hto x hx).2.1.trans (hto y hy').1
      · rw [e3, List.flatten_append]
        simp only [List.flatten_cons, List.flatten_nil, List.append_nil]
        refine List.nodup_append.2 ⟨rr.kk.nd, ?_, fun a ha b hb2 e => ?_⟩
        · refine List.nodup_append.2 ⟨?_, by simp, fun a ha b hb2 e => ?_⟩
          · rw [List.Nodup, List.pairwise_reverse]
            exact (nodup_cm s5).imp fun h => Ne.symm h
          · have : b = p := by simpa using hb2
            rw [this] at e
            exact hpR (e ▸ (by simpa using ha))
        · subst e
          obtain ⟨-, -, -, -, ho⟩ := hto a hb2
          have := r1.iv.op a ho
          have h2 := (r1.iv.fl a this.1).2 ha
          rw [this.2.2] at h2
          cases h2
      · rw [e3]
        intro A k B eAB x hx o ho
        rcases List.append_eq_append_iff.1 eAB with ⟨C, h1, h2⟩ | ⟨C, h1, h2⟩
        · cases C with
          | nil =>
            simp at h1 h2
            obtain ⟨h2, -⟩ := h2
            rw [← h2] at hx ⊢
            rw [h1]
            -- a member of the new knot
            obtain ⟨-, -, x3, x4, x5⟩ := hto x (by simpa using hx)
            obtain ⟨oi, ob⟩ := x4 o ho
            rcases ob with ob | ⟨ob, oc⟩
            · exact List.mem_append.2 (.inl ((r1.iv.fl o oi).1 ob))
            · cases eo : sh t o with
              | true => exact List.mem_append.2 (.inl ((r1.iv.fl o oi).1 eo))
              | false =>
                have hoo := r1.iv.vis o oi ob eo
                rw [hR] at hoo
                rcases List.mem_append.1 hoo with h5 | h5
                · have := s3 o h5 p (by simp)
                  omega
                · refine List.mem_append.2 (.inr ?_)
                  have := (hin o).2 (by simpa using h5)
                  simpa using this
          | cons c C => simp at h2
        · cases C with
          | nil =>
            simp at h1 h2
            obtain ⟨h2, -⟩ := h2
            rw [h2] at hx ⊢
            rw [← h1]
            obtain ⟨-, -, x3, x4, x5⟩ := hto x (by simpa using hx)
            obtain ⟨oi, ob⟩ := x4 o ho
            rcases ob with ob | ⟨ob, oc⟩
            · exact List.mem_append.2 (.inl ((r1.iv.fl o oi).1 ob))
            · cases eo : sh t o with
              | true => exact List.mem_append.2 (.inl ((r1.iv.fl o oi).1 eo))
              | false =>
                have hoo := r1.iv.vis o oi ob eo
                rw [hR] at hoo
                rcases List.mem_append.1 hoo with h5 | h5
                · have := s3 o h5 p (by simp)
                  omega
                · refine List.mem_append.2 (.inr ?_)
                  have := (hin o).2 (by simpa using h5)
                  simpa using this
          | cons c C =>
            simp at h2
            rw [← h2.1] at h1
            exact rr.kk.top A k C h1 x hx o ho
    · rw [if_neg hb]
      have hb' : bk t p ≠ cm t p := hb
      obtain ⟨y, hy1, hy2, hy3⟩ := rr.bp p hpo
      obtain ⟨z, hz1, hz2, hz3⟩ := r1.iv.bck p hpo
      have hyO : y ∈ s.opn := by
        rw [hR] at hy1
        rcases List.mem_append.1 hy1 with h1 | h1
        · exact h1
        · rcases List.mem_cons.1 h1 with h2 | h2
          · rw [h2] at hy2; exact absurd hy2 hb'
          · have := s4 y h2; omega
      refine ⟨rr.bp, rr.kk, ⟨p :: R, hR, fun q hq => ?_, .inr (by simp)⟩⟩
      rcases List.mem_cons.1 hq with h1 | h1
      · subst h1
        exact ⟨.refl _, ⟨y, hyO, hy3⟩, Int.le_refl _, hdp⟩
      · obtain ⟨a, b, c, d⟩ := hy q h1
        exact ⟨a, ⟨y, hyO, b.trans hy3⟩, c, d⟩
theorem each_kk (hnx : ∀ p, Inn N p → p ∉ row next p ∧ ∀ o ∈ row next p, Inn N o) (f : Nat) (hf : N ≤ f) : ∀ (k i : Nat) (s : Wk), i + k = N → Iv next N s → s.opn = [] → Kk next s → Kk next (eachM next f k i s)
  | 0, _, _, _, _, _, h1 => h1
  | k + 1, i, s, hi, h, ho, h1 => by
    have hp : Inn N (i : Int) := ⟨by omega, by omega⟩
    have hun : un s ≤ f := by
      unfold un
      have := List.length_filter_le (fun z => decide (z = 0)) s.came
      rw [h.lc] at this
      omega
    by_cases hc : s.came.getD i 0 = 0
    · have hc' : cm s (i : Int) = 0 := by unfold cm; rw [Int.toNat_natCast]; exact hc
      obtain ⟨a, -, -, d⟩ := visit_iv hnx f i s h hp hc' hun
      have v := visit_vp hnx f i s h hp hc' hun (fun x hx => by rw [ho] at hx; cases hx) h1 (fun x hx => by rw [ho] at hx; cases hx)
      rw [eachM, if_pos hc]
      exact each_kk hnx f hf k (i + 1) _ (by omega) a (d ho) v.kk
    · rw [eachM, if_neg hc]
      exact each_kk hnx f hf k (i + 1) s (by omega) h ho h1
/-- A rule that comes back to itself. -/
def Back (next : List (List Int)) (r : Int) : Prop := ∃ o ∈ row next r, Rt next o r
theorem flat_closed {K A B : List (List Int)} (ht : ∀ A k B, K = A ++ k :: B → ∀ x ∈ k, ∀ o ∈ row next x, o ∈ A.flatten ++ k) (e : K = A ++ B) {x o : Int} (hx : x ∈ A.flatten) (ho : o ∈ row next x) : o ∈ A.flatten := by
  obtain ⟨k, hk, hxk⟩ := List.mem_flatten.1 hx
  obtain ⟨A1, A2, e2⟩ := List.append_of_mem hk
  have := ht A1 k (A2 ++ B) (by rw [e, e2]; simp) x hxk o ho
  rw [e2]
  simp only [List.flatten_append, List.flatten_cons, List.mem_append] at this ⊢
  rcases this with h | h
  · exact .inl h
  · exact .inr (.inl h)
theorem rt_closed {K A B : List (List Int)} (ht : ∀ A k B, K = A ++ k :: B → ∀ x ∈ k, ∀ o ∈ row next x, o ∈ A.flatten ++ k) (e : K = A ++ B) {x y : Int} (h : Rt next x y) : x ∈ A.flatten → y ∈ A.flatten := by
  induction h with
  | refl => exact id
  | step a _ ih => exact fun hx => ih (flat_closed ht e hx a)
/-- The rules that come back are just those of knots with two members or more. -/
theorem back_knot (hnx : ∀ p, Inn next.length p → p ∉ row next p ∧ ∀ o ∈ row next p, Inn next.length o) {r : Int} (hr : Inn next.length r) : Back next r ↔ ∃ k ∈ knotsM next, 1 < k.length ∧ r ∈ k := by
  have start : Kk next (startM next.length) := ⟨fun k hk => by simp [startM] at hk, by simp [startM], fun A k B e => by simp [startM] at e⟩
  have kk := each_kk hnx next.length (Nat.le_refl _) next.length 0 (startM next.length) (by omega) start_iv rfl start
  obtain ⟨i1, i2, i3⟩ := each_iv hnx next.length (Nat.le_refl _) next.length 0 (startM next.length) (by omega) start_iv rfl (fun j hj => by omega)
  have hin : r ∈ (knotsM next).flatten := by
    refine (i1.fl r hr).1 ?_
    cases e : sh (eachM next next.length next.length 0 (startM next.length)) r with
    | true => rfl
    | false =>
      obtain ⟨a, ha⟩ := Int.eq_ofNat_of_zero_le hr.1
      have := i1.vis r hr (by rw [ha]; exact i3 a (by have := hr.2; omega)) e
      rw [i2] at this
      cases this
  have hnd : (knotsM next).flatten.Nodup := kk.nd
  have htop : ∀ A k B, knotsM next = A ++ k :: B → ∀ x ∈ k, ∀ o ∈ row next x, o ∈ A.flatten ++ k := kk.top
  have hmut : ∀ k ∈ knotsM next, ∀ x ∈ k, ∀ y ∈ k, Rt next x y := kk.mt
  constructor
  · rintro ⟨o, ho, hor⟩
    obtain ⟨k, hk, hrk⟩ := List.mem_flatten.1 hin
    obtain ⟨A, B, e⟩ := List.append_of_mem hk
    have h1 := htop A k B e r hrk o ho
    have hok : o ∈ k := by
      rcases List.mem_append.1 h1 with h2 | h2
      · exfalso
        have h3 := rt_closed htop e hor h2
        rw [e, List.flatten_append, List.flatten_cons] at hnd
        exact (List.nodup_append.1 hnd).2.2 r h3 r (List.mem_append.2 (.inl hrk)) rfl
      · exact h2
    have hne : o ≠ r := fun e2 => (hnx r hr).1 (e2 ▸ ho)
    refine ⟨k, hk, ?_, hrk⟩
    match k, hrk, hok with
    | [], h5, _ => cases h5
    | [a], h5, h6 =>
      have e5 : r = a := by simpa using h5
      have e6 : o = a := by simpa using h6
      exact absurd (e6.trans e5.symm) hne
    | a :: b :: k, _, _ => simp
  · rintro ⟨k, hk, hl, hrk⟩
    have hkn : k.Nodup := by
      obtain ⟨A, B, e⟩ := List.append_of_mem hk
      rw [e, List.flatten_append, List.flatten_cons] at hnd
      exact (List.nodup_append.1 (List.nodup_append.1 hnd).2.1).1
    obtain ⟨y, hy, hne⟩ : ∃ y ∈ k, y ≠ r := by
      match k, hl, hkn with
      | a :: b :: k, _, hkn =>
        by_cases e : a = r
        · refine ⟨b, by simp, fun e2 => ?_⟩
          have := (List.nodup_cons.1 hkn).1
          rw [e, ← e2] at this
          simp at this
        · exact ⟨a, by simp, e⟩
    have h1 := hmut k hk r hrk y hy
    have h2 := hmut k hk y hy r hrk
    cases h1 with
    | refl => exact absurd rfl hne
    | step a b => exact ⟨_, a, b.trans h2⟩
theorem fold_min_mem : ∀ {l : List Int} {x : Int}, l.foldl min x = x ∨ l.foldl min x ∈ l
  | [], x => .inl rfl
  | y :: l, x => by
    rw [List.foldl_cons]
    rcases fold_min_mem (l := l) (x := min x y) with h | h
    · rw [h]
      by_cases e : x ≤ y
      · exact .inl (by omega)
      · exact .inr (by rw [show min x y = y by omega]; simp)
    · exact .inr (by simp [h])
theorem fold_min_le : ∀ {l : List Int} {x y : Int}, y ∈ l → l.foldl min x ≤ y
  | z :: l, x, y, h => by
    rw [List.foldl_cons]
    rcases List.mem_cons.1 h with h | h
    · have := fold_min (l := l) (x := min x z)
      omega
    · exact fold_min_le h
theorem minM_mem {k : List Int} (h : 1 < k.length) : minM k ∈ k := by
  match k, h with
  | x :: r, _ =>
    show r.foldl min x ∈ x :: r
    rcases fold_min_mem (l := r) (x := x) with h | h
    · rw [h]; simp
    · simp [h]
theorem minM_le {k : List Int} {x : Int} (h : x ∈ k) : minM k ≤ x := by
  match k, h with
  | y :: r, h =>
    show r.foldl min y ≤ x
    rcases List.mem_cons.1 h with h | h
    · rw [h]; exact fold_min
    · exact fold_min_le h
theorem fold_low_mem : ∀ {ks : List (List Int)} {low : Int}, ks.foldl lowM low = low ∨ ∃ k ∈ ks, 1 < k.length ∧ ks.foldl lowM low ∈ k
  | [], low => .inl rfl
  | k :: ks, low => by
    rw [List.foldl_cons]
    rcases fold_low_mem (ks := ks) (low := lowM low k) with h | ⟨k', hk', h1, h2⟩
    · rw [h]
      unfold lowM
      by_cases hl : 1 < k.length
      · rw [if_pos hl]
        by_cases e : low ≤ minM k
        · exact .inl (by omega)
        · exact .inr ⟨k, by simp, hl, by rw [show min low (minM k) = minM k by omega]; exact minM_mem hl⟩
      · rw [if_neg hl]; exact .inl rfl
    · exact .inr ⟨k', by simp [hk'], h1, h2⟩
end
/-- What a circle is told: the least rule that comes back to itself. -/
theorem circle_back {T : Th} (hnx : ∀ p, Inn T.beats.length p → p ∉ row T.beats p ∧ ∀ o ∈ row T.beats p, Inn T.beats.length o) (hl : T.beats.length = T.rules.length) :
    (∃ r : Nat, r < T.rules.length ∧ Back T.beats r ∧ (∀ q : Nat, q < r → ¬ Back T.beats q) ∧ circleM T = (131, (r : Int))) ∨ ((∀ q : Nat, q < T.rules.length → ¬ Back T.beats q) ∧ circleM T = (0, 0)) := by
  have hmin : ∀ q : Nat, q < T.rules.length → Back T.beats q → lowestM T ≤ q := fun q hq hb => by
    obtain ⟨k, hk, h1, h2⟩ := (back_knot hnx (r := q) ⟨by omega, by omega⟩).1 hb
    have := (fold_low (ks := knotsM T.beats) (low := (T.rules.length : Int))).2 k hk h1
    have h3 := minM_le h2
    unfold lowestM
    omega
  unfold circleM
  rcases fold_low_mem (ks := knotsM T.beats) (low := (T.rules.length : Int)) with h | ⟨k, hk, h1, h2⟩
  · have e : lowestM T = T.rules.length := h
    rw [e, if_neg (by omega)]
    refine .inr ⟨fun q hq hb => ?_, rfl⟩
    have := hmin q hq hb
    omega
  · obtain ⟨i1, -, -⟩ := each_iv hnx T.beats.length (Nat.le_refl _) T.beats.length 0 (startM T.beats.length) (by omega) start_iv rfl (fun j hj => by omega)
    have hI : Inn T.beats.length (lowestM T) := i1.kn _ (List.mem_flatten.2 ⟨k, hk, h2⟩)
    have hB : Back T.beats (lowestM T) := (back_knot hnx hI).2 ⟨k, hk, h1, h2⟩
    obtain ⟨r, hr⟩ := Int.eq_ofNat_of_zero_le hI.1
    rw [hr] at hI hB hmin ⊢
    have hlt := hI.2
    rw [if_pos (by omega)]
    refine .inl ⟨r, by omega, hB, fun q hq hb => ?_, rfl⟩
    have := hmin q (by omega) hb
    omega
end Go.Proofs.Ytdmnoeooljofcaa
