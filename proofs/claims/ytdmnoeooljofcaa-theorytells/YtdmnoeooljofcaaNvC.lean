/- What rounds end with is coherent; two foes are not both there, but by strict proof. No Go in sight. -/
import Derived.Test.YtdmnoeooljofcaaKn
namespace Go.Proofs.Ytdmnoeooljofcaa
open Go.RowKit

def tags : List Int := [1, 2, 3, 4]
def isByte (x : Int) : Prop := 0 ≤ x ∧ x < 256
/-- Bytes, below sixteen where they came from nothing. -/
def Bys (m : List Int) : Prop := ∀ q : Nat, isByte (m.getD q 0)
section
variable {T : Th} {F m m' : List Int} {n : Nat}
/-- All marks of the one are among the other's. -/
def Le (m m' : List Int) : Prop := ∀ q t : Int, 0 ≤ q → isTag t → hs m q t = true → hs m' q t = true
theorem Le.refl (m : List Int) : Le m m := fun _ _ _ _ h => h
theorem Le.trans {m1 m2 m3 : List Int} (h : Le m1 m2) (k : Le m2 m3) : Le m1 m3 := fun q t h0 ht hq => k q t h0 ht (h q t h0 ht hq)
end
/-- The marks behind so many rounds. -/
def Mk (T : Th) (F : List Int) (k : Nat) : List Int := iterM T F k (List.replicate T.lits.toNat 0)
section
variable {T : Th} {F m : List Int} {n k j : Nat}
theorem zeros_at {c q : Nat} : (List.replicate c (0 : Int)).getD q 0 = 0 := by
  rw [List.getD_eq_getElem?_getD, List.getElem?_replicate]
  split <;> rfl
/-- No rule beats without end. -/
def NoRing (T : Th) : Prop := ∃ (f : Int → Nat) (B : Nat), (∀ r, f r ≤ B) ∧ ∀ t s : Int, 0 ≤ t → s ∈ row T.beats t → f s < f t
end
end Go.Proofs.Ytdmnoeooljofcaa
/- Where no knot has two members, no rule beats without end. No Go in sight. -/
namespace Go.Proofs.Ytdmnoeooljofcaa
open Go.RowKit

def cm (s : Wk) (x : Int) : Int := s.came.getD x.toNat 0
def bk (s : Wk) (x : Int) : Int := s.back.getD x.toNat 0
def sh (s : Wk) (x : Int) : Bool := s.shut.getD x.toNat false
def Inn (N : Nat) (x : Int) : Prop := 0 ≤ x ∧ x < (N : Int)
def Topo (next : List (List Int)) (L : List Int) : Prop := ∀ A x B, L = A ++ x :: B → ∀ o ∈ row next x, o ∈ A
def un (s : Wk) : Nat := (s.came.filter fun z => decide (z = 0)).length
structure Iv (next : List (List Int)) (N : Nat) (s : Wk) : Prop where
  lc : s.came.length = N
  lb : s.back.length = N
  ls : s.shut.length = N
  ck : ∀ x, Inn N x → 0 ≤ cm s x ∧ cm s x ≤ s.clock
  op : ∀ x ∈ s.opn, Inn N x ∧ cm s x ≠ 0 ∧ sh s x = false
  vis : ∀ x, Inn N x → cm s x ≠ 0 → sh s x = false → x ∈ s.opn
  srt : s.opn.Pairwise fun a b => cm s a < cm s b
  bck : ∀ x ∈ s.opn, ∃ y ∈ s.opn, bk s x = cm s y ∧ cm s y ≤ cm s x
  fl : ∀ x, Inn N x → (sh s x = true ↔ x ∈ s.knots.flatten)
  kn : ∀ x ∈ s.knots.flatten, Inn N x
  top : (∀ k ∈ s.knots, k.length ≤ 1) → Topo next s.knots.flatten
  c0 : 0 ≤ s.clock
  sv : ∀ x, Inn N x → sh s x = true → cm s x ≠ 0
structure Fm (N : Nat) (s s' : Wk) : Prop where
  same : ∀ x, Inn N x → cm s x ≠ 0 → cm s' x = cm s x ∧ bk s' x = bk s x
  sh : ∀ x, Inn N x → sh s x = true → sh s' x = true
  op : ∃ R, s'.opn = s.opn ++ R
  kn : ∃ K, s'.knots = s.knots ++ K
  un : un s' ≤ un s
theorem Fm.refl (N : Nat) (s : Wk) : Fm N s s := ⟨fun _ _ _ => ⟨rfl, rfl⟩, fun _ _ h => h, ⟨[], by simp⟩, ⟨[], by simp⟩, Nat.le_refl _⟩
theorem Fm.trans {N : Nat} {a b c : Wk} (h : Fm N a b) (k : Fm N b c) : Fm N a c := by
  refine ⟨fun x hx h0 => ?_, fun x hx h0 => k.sh x hx (h.sh x hx h0), ?_, ?_, Nat.le_trans k.un h.un⟩
  · obtain ⟨h1, h2⟩ := h.same x hx h0
    obtain ⟨h3, h4⟩ := k.same x hx (by rw [h1]; exact h0)
    exact ⟨h3.trans h1, h4.trans h2⟩
  · obtain ⟨R, h1⟩ := h.op
    obtain ⟨R', h2⟩ := k.op
    exact ⟨R ++ R', by rw [h2, h1, List.append_assoc]⟩
  · obtain ⟨R, h1⟩ := h.kn
    obtain ⟨R', h2⟩ := k.kn
    exact ⟨R ++ R', by rw [h2, h1, List.append_assoc]⟩
theorem inn_ne {N : Nat} {x y : Int} (hx : Inn N x) (hy : Inn N y) (h : x ≠ y) : x.toNat ≠ y.toNat := by unfold Inn at *; omega
theorem inn_lt {N : Nat} {x : Int} (hx : Inn N x) : x.toNat < N := by unfold Inn at *; omega
section
variable {next : List (List Int)} {N : Nat} {s : Wk} {p : Int}
theorem filter_set_zero : ∀ {l : List Int} {i : Nat} {v : Int}, l.getD i 0 = 0 → i < l.length → v ≠ 0 → ((l.set i v).filter fun z => decide (z = 0)).length + 1 = (l.filter fun z => decide (z = 0)).length
  | [], i, v, _, h, _ => by simp at h
  | x :: l, 0, v, h, _, hv => by
    have hx : x = 0 := by simpa using h
    simp [hx, hv]
  | x :: l, i + 1, v, h, hl, hv => by
    have ih := filter_set_zero (l := l) (i := i) (v := v) (by simpa using h) (by simpa using hl) hv
    rw [List.set_cons_succ, List.filter_cons, List.filter_cons]
    split <;> simp [← ih]
theorem come_iv (h : Iv next N s) (hp : Inn N p) (h0 : cm s p = 0) : Iv next N (comeM p s) ∧ un (comeM p s) + 1 = un s ∧ cm (comeM p s) p = s.clock + 1 ∧ Fm N s (comeM p s) ∧ sh (comeM p s) p = false := by
  have hc0 := h.c0
  have hcm : ∀ x, Inn N x → x ≠ p → cm (comeM p s) x = cm s x := fun x hx hne => by
    show (s.came.set p.toNat (s.clock + 1)).getD x.toNat 0 = _
    rw [getD_set (by rw [h.lc]; exact inn_lt hp), if_neg (inn_ne hx hp hne)]
    rfl
  have hbk : ∀ x, Inn N x → x ≠ p → bk (comeM p s) x = bk s x := fun x hx hne => by
    show (s.back.set p.toNat (s.clock + 1)).getD x.toNat 0 = _
    rw [getD_set (by rw [h.lb]; exact inn_lt hp), if_neg (inn_ne hx hp hne)]
    rfl
  have hcp : cm (comeM p s) p = s.clock + 1 := by
    show (s.came.set p.toNat (s.clock + 1)).getD p.toNat 0 = _
    rw [getD_set (by rw [h.lc]; exact inn_lt hp), if_pos rfl]
  have hbp : bk (comeM p s) p = s.clock + 1 := by
    show (s.back.set p.toNat (s.clock + 1)).getD p.toNat 0 = _
    rw [getD_set (by rw [h.lb]; exact inn_lt hp), if_pos rfl]
  have hop : ∀ x ∈ s.opn, x ≠ p := fun x hx e => (h.op x hx).2.1 (by rw [e]; exact h0)
  have hshp : sh s p = false := by
    cases e : sh s p with
    | false => rfl
    | true => exact absurd h0 (h.sv p hp e)
  refine ⟨⟨by show (s.came.set _ _).length = N; rw [List.length_set]; exact h.lc, by show (s.back.set _ _).length = N; rw [List.length_set]; exact h.lb, h.ls, fun x hx => ?_, fun x hx => ?_, fun x hx h1 h2 => ?_, ?_, fun x hx => ?_, h.fl, h.kn, h.top, by show 0 ≤ s.clock + 1; omega, fun x hx h1 => ?_⟩, ?_, hcp, ⟨fun x hx h1 => ?_, fun _ _ h => h, ⟨[p], rfl⟩, ⟨[], by simp [comeM]⟩, ?_⟩, hshp⟩
  · show _ ∧ _ ≤ s.clock + 1
    by_cases e : x = p
    · subst e; rw [hcp]; omega
    · rw [hcm x hx e]; have := h.ck x hx; omega
  · rcases List.mem_append.1 (show x ∈ s.opn ++ [p] from hx) with h1 | h1
    · have := h.op x h1
      exact ⟨this.1, by rw [hcm x this.1 (hop x h1)]; exact this.2.1, this.2.2⟩
    · have e : x = p := by simpa using h1
      subst e
      exact ⟨hp, by rw [hcp]; omega, hshp⟩
  · show x ∈ s.opn ++ [p]
    by_cases e : x = p
    · simp [e]
    · rw [hcm x hx e] at h1
      exact List.mem_append.2 (.inl (h.vis x hx h1 h2))
  · show (s.opn ++ [p]).Pairwise _
    refine List.pairwise_append.2 ⟨h.srt.imp_of_mem ?_, by simp, fun a ha b hb => ?_⟩
    · intro a b ha hb hab
      rw [hcm a (h.op a ha).1 (hop a ha), hcm b (h.op b hb).1 (hop b hb)]
      exact hab
    · have e : b = p := by simpa using hb
      subst e
      rw [hcp, hcm a (h.op a ha).1 (hop a ha)]
      have := h.ck a (h.op a ha).1
      omega
  · show ∃ y ∈ s.opn ++ [p], _
    rcases List.mem_append.1 (show x ∈ s.opn ++ [p] from hx) with h1 | h1
    · obtain ⟨y, hy, h2, h3⟩ := h.bck x h1
      refine ⟨y, List.mem_append.2 (.inl hy), ?_⟩
      rw [hbk x (h.op x h1).1 (hop x h1), hcm y (h.op y hy).1 (hop y hy), hcm x (h.op x h1).1 (hop x h1)]
      exact ⟨h2, h3⟩
    · have e : x = p := by simpa using h1
      subst e
      exact ⟨x, by simp, by rw [hbp, hcp], Int.le_refl _⟩
  · by_cases e : x = p
    · subst e; rw [hcp]; omega
    · rw [hcm x hx e]; exact h.sv x hx h1
  · exact filter_set_zero h0 (by rw [h.lc]; exact inn_lt hp) (by omega)
  · have hne : x ≠ p := fun e => h1 (by rw [e]; exact h0)
    exact ⟨hcm x hx hne, hbk x hx hne⟩
  · have := filter_set_zero (l := s.came) (i := p.toNat) (v := s.clock + 1) h0 (by rw [h.lc]; exact inn_lt hp) (by omega)
    show ((s.came.set p.toNat (s.clock + 1)).filter _).length ≤ (s.came.filter _).length
    omega
/-- What the loop over the others keeps. -/
structure Lp (next : List (List Int)) (N : Nat) (p : Int) (O : List Int) (D : List Int) (s : Wk) : Prop where
  iv : Iv next N s
  at_ : ∃ R, s.opn = O ++ p :: R
  dn : ∀ o ∈ D, Inn N o ∧ (sh s o = true ∨ (o ∈ s.opn ∧ bk s p ≤ cm s o))
theorem lower_lp {O D : List Int} {o : Int} (h : Lp next N p O D s) (ho : Inn N o) (hc : cm s o ≠ 0) : Lp next N p O (D ++ [o]) (lowerM p o s) ∧ (lowerM p o s).opn = s.opn ∧ (lowerM p o s).knots = s.knots ∧ (lowerM p o s).came = s.came ∧ (lowerM p o s).shut = s.shut ∧ (∀ x, Inn N x → x ≠ p → bk (lowerM p o s) x = bk s x) := by
  obtain ⟨R, hR⟩ := h.at_
  have hpo : p ∈ s.opn := by rw [hR]; simp
  have hp := (h.iv.op p hpo).1
  unfold lowerM
  by_cases hs' : s.shut.getD o.toNat false = true
  · rw [if_pos hs']
    refine ⟨⟨h.iv, h.at_, fun x hx => ?_⟩, rfl, rfl, rfl, rfl, fun _ _ _ => rfl⟩
    rcases List.mem_append.1 hx with h1 | h1
    · exact h.dn x h1
    · have e : x = o := by simpa using h1
      subst e
      exact ⟨ho, .inl hs'⟩
  · rw [if_neg hs']
    have hso : sh s o = false := by unfold sh; simpa using hs'
    have hoo := h.iv.vis o ho hc hso
    generalize hs2 : ({ s with back := s.back.set p.toNat (min (s.back.getD p.toNat 0) (s.back.getD o.toNat 0)) } : Wk) = s2
    have e1 : s2.came = s.came := by rw [← hs2]
    have e2 : s2.opn = s.opn := by rw [← hs2]
    have e3 : s2.shut = s.shut := by rw [← hs2]
    have e4 : s2.knots = s.knots := by rw [← hs2]
    have e5 : s2.clock = s.clock := by rw [← hs2]
    have ecm : ∀ x, cm s2 x = cm s x := fun x => by unfold cm; rw [e1]
    have esh : ∀ x, sh s2 x = sh s x := fun x => by unfold sh; rw [e3]
    have eb : ∀ x, Inn N x → x ≠ p → bk s2 x = bk s x := fun x hx hne => by
      rw [← hs2]
      show (s.back.set _ _).getD x.toNat 0 = _
      rw [getD_set (by rw [h.iv.lb]; exact inn_lt hp), if_neg (inn_ne hx hp hne)]
      rfl
    have ebp : bk s2 p = min (bk s p) (bk s o) := by
      rw [← hs2]
      show (s.back.set _ _).getD p.toNat 0 = _
      rw [getD_set (by rw [h.iv.lb]; exact inn_lt hp), if_pos rfl]
      rfl
    have elb : s2.back.length = N := by rw [← hs2]; show (s.back.set _ _).length = N; rw [List.length_set]; exact h.iv.lb
    clear hs2
    obtain ⟨yo, hyo, hb1, hb2⟩ := h.iv.bck o hoo
    obtain ⟨yp, hyp, hb3, hb4⟩ := h.iv.bck p hpo
    refine ⟨⟨⟨by rw [e1]; exact h.iv.lc, elb, by rw [e3]; exact h.iv.ls, fun x hx => by rw [ecm, e5]; exact h.iv.ck x hx, fun x hx => by rw [ecm, esh]; exact h.iv.op x (by rw [← e2]; exact hx), fun x hx a b => by rw [e2]; rw [ecm] at a; rw [esh] at b; exact h.iv.vis x hx a b, ?_, fun x hx => ?_, fun x hx => by rw [esh, e4]; exact h.iv.fl x hx, by rw [e4]; exact h.iv.kn, by rw [e4]; exact h.iv.top, by rw [e5]; exact h.iv.c0, fun x hx a => by rw [ecm]; rw [esh] at a; exact h.iv.sv x hx a⟩, by rw [e2]; exact h.at_, fun x hx => ?_⟩, e2, e4, e1, e3, eb⟩
    · rw [e2]
      exact h.iv.srt.imp fun hab => by rw [ecm, ecm]; exact hab
    · rw [e2] at hx ⊢
      by_cases e : x = p
      · subst e
        rw [ebp]
        by_cases hlt : bk s x ≤ bk s o
        · exact ⟨yp, hyp, by rw [Int.min_eq_left hlt, ecm]; exact hb3, by rw [ecm, ecm]; exact hb4⟩
        · exact ⟨yo, hyo, by rw [Int.min_eq_right (by omega), ecm]; exact hb1, by rw [ecm, ecm]; omega⟩
      · rw [eb x (h.iv.op x hx).1 e]
        obtain ⟨y, hy, a, b⟩ := h.iv.bck x hx
        exact ⟨y, hy, by rw [ecm]; exact a, by rw [ecm, ecm]; exact b⟩
    · rw [esh, e2, ecm, ebp]
      rcases List.mem_append.1 hx with h1 | h1
      · obtain ⟨a, b⟩ := h.dn x h1
        refine ⟨a, b.imp id fun c => ⟨c.1, ?_⟩⟩
        have := c.2
        omega
      · have e : x = o := by simpa using h1
        subst e
        exact ⟨ho, .inr ⟨hoo, by omega⟩⟩
theorem pop_at : ∀ {R Q : List Int}, p ∉ R → popM p (R ++ p :: Q) = (R ++ [p], Q)
  | [], Q, _ => by simp [popM]
  | x :: R, Q, h => by
    have hx : ¬ x = p := fun e => h (by simp [e])
    have ih := pop_at (R := R) (Q := Q) fun hm => h (by simp [hm])
    simp [popM, hx, ih]
theorem shutAll_ln : ∀ {l : List Int} {b : List Bool}, (shutAll b l).length = b.length
  | [], b => rfl
  | x :: l, b => by rw [shutAll, shutAll_ln, List.length_set]
theorem shutAll_at {x : Int} (hx : Inn N x) : ∀ {l : List Int} {b : List Bool}, b.length = N → (∀ y ∈ l, Inn N y) → (shutAll b l).getD x.toNat false = (b.getD x.toNat false || decide (x ∈ l))
  | [], b, _, _ => by simp [shutAll]
  | y :: l, b, hb, h => by
    rw [shutAll, shutAll_at hx (by rw [List.length_set]; exact hb) fun z hz => h z (by simp [hz]), getD_set (by rw [hb]; exact inn_lt (h y (by simp)))]
    by_cases e : x = y
    · subst e; simp
    · rw [if_neg (inn_ne hx (h y (by simp)) e)]
      have : (x ∈ y :: l) ↔ x ∈ l := by simp [e]
      rw [decide_eq_decide.2 this]
theorem topo_snoc {L : List Int} (h : Topo next L) (hp : ∀ o ∈ row next p, o ∈ L) : Topo next (L ++ [p]) := by
  intro A x B e o ho
  rcases List.append_eq_append_iff.1 e with ⟨C, h1, h2⟩ | ⟨C, h1, h2⟩
  · cases C with
    | nil =>
      simp at h1 h2
      subst h1
      rw [← h2.1] at ho
      exact hp o ho
    | cons c C =>
      simp at h2
  · cases C with
    | nil =>
      simp at h1 h2
      rw [h1] at hp
      rw [h2.1] at ho
      exact hp o ho
    | cons c C =>
      simp at h2
      rw [← h2.1] at h1
      exact h A x C h1 o ho
theorem end_iv {O D : List Int} (h : Lp next N p O D s) (hD : ∀ o ∈ row next p, o ∈ D) (hself : p ∉ row next p) : Iv next N (endM p s) ∧ (∃ R, (endM p s).opn = O ++ R) ∧ (O = [] → (endM p s).opn = []) ∧ (endM p s).came = s.came ∧ (endM p s).back = s.back ∧ (∀ x, Inn N x → sh s x = true → sh (endM p s) x = true) ∧ ∃ K, (endM p s).knots = s.knots ++ K := by
  obtain ⟨R, hR⟩ := h.at_
  have hsr := h.iv.srt
  rw [hR] at hsr
  obtain ⟨s1, s2, s3⟩ := List.pairwise_append.1 hsr
  obtain ⟨s4, s5⟩ := List.pairwise_cons.1 s2
  have hpo : p ∈ s.opn := by rw [hR]; simp
  have hp := (h.iv.op p hpo).1
  have hpR : p ∉ R := fun hm => by have := s4 p hm; omega
  unfold endM
  by_cases hb : s.back.getD p.toNat 0 = s.came.getD p.toNat 0
  · rw [if_pos hb]
    have hrev : popM p s.opn.reverse = (R.reverse ++ [p], O.reverse) := by
      rw [hR, List.reverse_append, List.reverse_cons, List.append_assoc]
      exact pop_at (by simpa using hpR)
    have e1 : (shutM p s).opn = O := by show (popM p s.opn.reverse).2.reverse = O; rw [hrev]; simp
    have e2 : (shutM p s).shut = shutAll s.shut (R.reverse ++ [p]) := by show shutAll s.shut (popM p s.opn.reverse).1 = _; rw [hrev]
    have e3 : (shutM p s).knots = s.knots ++ [R.reverse ++ [p]] := by show s.knots ++ [(popM p s.opn.reverse).1] = _; rw [hrev]
    have hin : ∀ y ∈ R.reverse ++ [p], Inn N y ∧ y ∈ s.opn := fun y hy => by
      have : y ∈ s.opn := by
        rw [hR]
        simp at hy ⊢
        rcases hy with h1 | h1
        · exact .inr (.inr h1)
        · exact .inr (.inl h1)
      exact ⟨(h.iv.op y this).1, this⟩
    have esh : ∀ x, Inn N x → sh (shutM p s) x = (sh s x || decide (x ∈ R.reverse ++ [p])) := fun x hx => by
      unfold sh
      rw [e2]
      exact shutAll_at hx h.iv.ls fun y hy => (hin y hy).1
    have ecm : ∀ x, cm (shutM p s) x = cm s x := fun _ => rfl
    have ebk : ∀ x, bk (shutM p s) x = bk s x := fun _ => rfl
    have hO : ∀ x ∈ O, x ∈ s.opn := fun x hx => by rw [hR]; simp [hx]
    have hno : ∀ x ∈ O, x ∉ R.reverse ++ [p] := fun x hx hm => by
      have : x ∈ p :: R := by
        simp at hm ⊢
        rcases hm with h1 | h1
        · exact .inr h1
        · exact .inl h1
      have := s3 x hx x this
      omega
    refine ⟨⟨h.iv.lc, h.iv.lb, by rw [e2, shutAll_ln]; exact h.iv.ls, h.iv.ck, fun x hx => ?_, fun x hx a b => ?_, ?_, fun x hx => ?_, fun x hx => ?_, fun x hx => ?_, fun hk => ?_, h.iv.c0, fun x hx a => ?_⟩, ⟨[], by rw [e1]; simp⟩, fun e => by rw [e1]; exact e, rfl, rfl, fun x hx a => by rw [esh x hx, a]; rfl, ⟨_, e3⟩⟩
    · rw [e1] at hx
      obtain ⟨a, b, c⟩ := h.iv.op x (hO x hx)
      exact ⟨a, b, by rw [esh x a, c, decide_eq_false (hno x hx)]; rfl⟩
    · rw [e1]
      rw [esh x hx] at b
      simp only [Bool.or_eq_false_iff, decide_eq_false_iff_not] at b
      have := h.iv.vis x hx a b.1
      rw [hR] at this
      rcases List.mem_append.1 this with h1 | h1
      · exact h1
      · exact absurd (by
          simp at h1 ⊢
          rcases h1 with h1 | h1
          · exact .inr h1
          · exact .inl h1) b.2
    · rw [e1]; exact s1
    · rw [e1] at hx ⊢
      obtain ⟨y, hy, a, b⟩ := h.iv.bck x (hO x hx)
      refine ⟨y, ?_, a, b⟩
      rw [hR] at hy
      rcases List.mem_append.1 hy with h1 | h1
      · exact h1
      · have := s3 x hx y h1; omega
    · rw [esh x hx, e3, List.flatten_append]
      simp only [Bool.or_eq_true, decide_eq_true_eq, List.flatten_cons, List.flatten_nil, List.append_nil, List.mem_append (a := x) (s := s.knots.flatten)]
      exact or_congr (h.iv.fl x hx) Iff.rfl
    · rw [e3, List.flatten_append] at hx
      simp only [List.flatten_cons, List.flatten_nil, List.append_nil] at hx
      rcases List.mem_append.1 hx with h1 | h1
      · exact h.iv.kn x h1
      · exact (hin x h1).1
    · rw [e3] at hk ⊢
      have hlen := hk (R.reverse ++ [p]) (by simp)
      have hRn : R = [] := by
        simp at hlen
        exact hlen
      subst hRn
      rw [List.flatten_append]
      simp only [List.reverse_nil, List.nil_append, List.flatten_cons, List.flatten_nil, List.append_nil]
      refine topo_snoc (h.iv.top fun k hk' => hk k (by simp [hk'])) fun o ho => ?_
      obtain ⟨a, b⟩ := h.dn o (hD o ho)
      rcases b with b | ⟨b, c⟩
      · exact (h.iv.fl o a).1 b
      · rw [hR] at b
        rcases List.mem_append.1 b with h1 | h1
        · have := s3 o h1 p (by simp)
          have hb' : bk s p = cm s p := hb
          omega
        · have e : o = p := by simpa using h1
          rw [e] at ho
          exact absurd ho hself
    · rw [ecm]
      rw [esh x hx] at a
      simp only [Bool.or_eq_true, decide_eq_true_eq] at a
      rcases a with a | a
      · exact h.iv.sv x hx a
      · exact (h.iv.op x (hin x a).2).2.1
  · rw [if_neg hb]
    refine ⟨h.iv, ⟨p :: R, hR⟩, fun e => ?_, rfl, rfl, fun _ _ a => a, ⟨[], by simp⟩⟩
    exfalso
    subst e
    obtain ⟨y, hy, a, b⟩ := h.iv.bck p hpo
    rw [hR] at hy
    simp at hy
    rcases hy with rfl | hy
    · exact hb a
    · have := s4 y hy; omega
end
section
variable {next : List (List Int)} {N : Nat}
theorem others_lp (vis : Int → Wk → Wk) (p : Int) (O : List Int) (f : Nat) (hrow : ∀ o s, Iv next N s → Inn N o → cm s o = 0 → un s ≤ f → Iv next N (vis o s) ∧ Fm N s (vis o s) ∧ cm (vis o s) o ≠ 0) :
    ∀ (l D : List Int) (s : Wk), Lp next N p O D s → (∀ o ∈ l, Inn N o) → un s ≤ f → Lp next N p O (D ++ l) (othersM vis p l s) ∧ (∀ x, Inn N x → cm s x ≠ 0 → x ≠ p → cm (othersM vis p l s) x = cm s x ∧ bk (othersM vis p l s) x = bk s x) ∧ (∀ x, Inn N x → sh s x = true → sh (othersM vis p l s) x = true) ∧ (∃ K, (othersM vis p l s).knots = s.knots ++ K) ∧ un (othersM vis p l s) ≤ un s ∧ (cm s p ≠ 0 → cm (othersM vis p l s) p = cm s p)
  | [], D, s, h, _, _ => by
    rw [List.append_nil]
    exact ⟨h, fun _ _ _ _ => ⟨rfl, rfl⟩, fun _ _ a => a, ⟨[], by simp [othersM]⟩, Nat.le_refl _, fun _ => rfl⟩
  | o :: l, D, s, h, hl, hu => by
    have ho := hl o (by simp)
    obtain ⟨s1, hs1⟩ : ∃ s1, (if s.came.getD o.toNat 0 = 0 then vis o s else s) = s1 := ⟨_, rfl⟩
    have key : Lp next N p O D s1 ∧ cm s1 o ≠ 0 ∧ Fm N s s1 := by
      rw [← hs1]
      by_cases hc : s.came.getD o.toNat 0 = 0
      · rw [if_pos hc]
        obtain ⟨a, b, c⟩ := hrow o s h.iv ho hc hu
        refine ⟨⟨a, ?_, fun x hx => ?_⟩, c, b⟩
        · obtain ⟨R, hR⟩ := h.at_
          obtain ⟨R', hR'⟩ := b.op
          exact ⟨R ++ R', by rw [hR', hR]; simp⟩
        · obtain ⟨x1, x2⟩ := h.dn x hx
          refine ⟨x1, x2.imp (b.sh x x1) fun x3 => ?_⟩
          obtain ⟨R, hR⟩ := h.at_
          have hpo : p ∈ s.opn := by rw [hR]; simp
          obtain ⟨R', hR'⟩ := b.op
          have y1 := b.same p (h.iv.op p hpo).1 (h.iv.op p hpo).2.1
          have y2 := b.same x x1 (h.iv.op x x3.1).2.1
          exact ⟨by rw [hR']; simp [x3.1], by rw [y1.2, y2.1]; exact x3.2⟩
      · rw [if_neg hc]
        exact ⟨h, hc, Fm.refl _ _⟩
    obtain ⟨k1, k2, k3⟩ := key
    obtain ⟨l1, l2, l3, l4, l5, l6⟩ := lower_lp k1 ho k2
    have hun : un (lowerM p o s1) = un s1 := by unfold un; rw [l4]
    have hcm1 : ∀ x, cm (lowerM p o s1) x = cm s1 x := fun x => by unfold cm; rw [l4]
    have hsh1 : ∀ x, sh (lowerM p o s1) x = sh s1 x := fun x => by unfold sh; rw [l5]
    obtain ⟨r1, r2, r3, ⟨K, r4⟩, r5, r6⟩ := others_lp vis p O f hrow l (D ++ [o]) (lowerM p o s1) l1 (fun x hx => hl x (by simp [hx])) (by rw [hun]; exact Nat.le_trans k3.un hu)
    have e : othersM vis p (o :: l) s = othersM vis p l (lowerM p o s1) := by rw [othersM, hs1]
    rw [e]
    refine ⟨by rw [List.append_assoc] at r1; exact r1, fun x hx h0 hne => ?_, fun x hx a => r3 x hx (by rw [hsh1]; exact k3.sh x hx a), ?_, by rw [hun] at r5; exact Nat.le_trans r5 k3.un, fun h0 => ?_⟩
    · obtain ⟨a, b⟩ := k3.same x hx h0
      obtain ⟨c, d⟩ := r2 x hx (by rw [hcm1, a]; exact h0) hne
      exact ⟨by rw [c, hcm1, a], by rw [d, l6 x hx hne, b]⟩
    · obtain ⟨K', h1⟩ := k3.kn
      exact ⟨K' ++ K, by rw [r4, l3, h1, List.append_assoc]⟩
    · obtain ⟨R, hR⟩ := h.at_
      have hpo : p ∈ s.opn := by rw [hR]; simp
      have := k3.same p (h.iv.op p hpo).1 h0
      rw [r6 (by rw [hcm1, this.1]; exact h0), hcm1, this.1]
theorem visit_iv (hnx : ∀ p, Inn N p → p ∉ row next p ∧ ∀ o ∈ row next p, Inn N o) : ∀ (f : Nat) (p : Int) (s : Wk), Iv next N s → Inn N p → cm s p = 0 → un s ≤ f → Iv next N (visitM next f p s) ∧ Fm N s (visitM next f p s) ∧ cm (visitM next f p s) p ≠ 0 ∧ (s.opn = [] → (visitM next f p s).opn = [])
  | 0, p, s, h, hp, h0, hu => by
    exfalso
    have := (come_iv h hp h0).2.1
    omega
  | f + 1, p, s, h, hp, h0, hu => by
    obtain ⟨c1, c2, c3, c4, c5⟩ := come_iv h hp h0
    have hck := h.c0
    have start : Lp next N p s.opn [] (comeM p s) := ⟨c1, ⟨[], rfl⟩, fun o ho => by cases ho⟩
    obtain ⟨r1, r2, r3, ⟨K, r4⟩, r5, r6⟩ := others_lp (visitM next f) p s.opn f (fun o s' a b c d => by
      obtain ⟨x, y, z, -⟩ := visit_iv hnx f o s' a b c d
      exact ⟨x, y, z⟩) (row next p) [] (comeM p s) start (fun o ho => (hnx p hp).2 o ho) (by omega)
    obtain ⟨e1, e2, e3, e4, e5, e6, K', e7⟩ := end_iv r1 (fun o ho => by simpa using ho) (hnx p hp).1
    have ev : visitM next (f + 1) p s = endM p (othersM (visitM next f) p (row next p) (comeM p s)) := rfl
    rw [ev]
    have hcmE : ∀ x, cm (endM p (othersM (visitM next f) p (row next p) (comeM p s))) x = cm (othersM (visitM next f) p (row next p) (comeM p s)) x := fun x => by unfold cm; rw [e4]
    have hbkE : ∀ x, bk (endM p (othersM (visitM next f) p (row next p) (comeM p s))) x = bk (othersM (visitM next f) p (row next p) (comeM p s)) x := fun x => by unfold bk; rw [e5]
    refine ⟨e1, ⟨fun x hx hx0 => ?_, fun x hx a => e6 x hx (r3 x hx (c4.sh x hx a)), e2, ?_, ?_⟩, ?_, e3⟩
    · have hne : x ≠ p := fun e => hx0 (by rw [e]; exact h0)
      obtain ⟨a, b⟩ := c4.same x hx hx0
      obtain ⟨c, d⟩ := r2 x hx (by rw [a]; exact hx0) hne
      exact ⟨by rw [hcmE, c, a], by rw [hbkE, d, b]⟩
    · obtain ⟨K0, h1⟩ := c4.kn
      exact ⟨K0 ++ K ++ K', by rw [e7, r4, h1]; simp⟩
    · have : un (endM p (othersM (visitM next f) p (row next p) (comeM p s))) = un (othersM (visitM next f) p (row next p) (comeM p s)) := by unfold un; rw [e4]
      rw [this]
      exact Nat.le_trans r5 c4.un
    · rw [hcmE, r6 (by rw [c3]; omega), c3]
      omega
theorem each_iv (hnx : ∀ p, Inn N p → p ∉ row next p ∧ ∀ o ∈ row next p, Inn N o) (f : Nat) (hf : N ≤ f) : ∀ (k i : Nat) (s : Wk), i + k = N → Iv next N s → s.opn = [] → (∀ j : Nat, j < i → cm s j ≠ 0) → Iv next N (eachM next f k i s) ∧ (eachM next f k i s).opn = [] ∧ ∀ j : Nat, j < N → cm (eachM next f k i s) j ≠ 0
  | 0, i, s, hi, h, ho, hj => ⟨h, ho, fun j hjn => hj j (by omega)⟩
  | k + 1, i, s, hi, h, ho, hj => by
    have hp : Inn N (i : Int) := ⟨by omega, by omega⟩
    have hun : un s ≤ f := by
      unfold un
      have := List.length_filter_le (fun z => decide (z = 0)) s.came
      rw [h.lc] at this
      omega
    by_cases hc : s.came.getD i 0 = 0
    · have hc' : cm s (i : Int) = 0 := by unfold cm; rw [Int.toNat_natCast]; exact hc
      obtain ⟨a, b, c, d⟩ := visit_iv hnx f i s h hp hc' hun
      have e : eachM next f (k + 1) i s = eachM next f k (i + 1) (visitM next f i s) := by rw [eachM, if_pos hc]
      rw [e]
      refine each_iv hnx f hf k (i + 1) _ (by omega) a (d ho) fun j hjn => ?_
      by_cases e2 : j = i
      · subst e2; exact c
      · rw [(b.same j ⟨by omega, by omega⟩ (hj j (by omega))).1]; exact hj j (by omega)
    · have e : eachM next f (k + 1) i s = eachM next f k (i + 1) s := by rw [eachM, if_neg hc]
      rw [e]
      refine each_iv hnx f hf k (i + 1) s (by omega) h ho fun j hjn => ?_
      by_cases e2 : j = i
      · subst e2; unfold cm; rw [Int.toNat_natCast]; exact hc
      · exact hj j (by omega)
theorem start_iv : Iv next N (startM N) := by
  have hz : ∀ x, cm (startM N) x = 0 := fun x => zeros_at
  have hsf : ∀ x, sh (startM N) x = false := fun x => by
    show (List.replicate N false).getD x.toNat false = false
    rw [List.getD_eq_getElem?_getD, List.getElem?_replicate]
    split <;> rfl
  refine ⟨by simp [startM], by simp [startM], by simp [startM], fun x hx => by rw [hz]; simp [startM], fun x hx => by simp [startM] at hx, fun x hx a => absurd (hz x) a, by simp [startM], fun x hx => by simp [startM] at hx, fun x hx => by rw [hsf]; simp [startM], fun x hx => by simp [startM] at hx, fun _ A x B e => ?_, by simp [startM], fun x hx a => by rw [hsf] at a; cases a⟩
  simp [startM] at e
def pos (x : Int) : List Int → Nat
  | [] => 0
  | y :: l => if y = x then 0 else pos x l + 1
theorem fold_low : ∀ {ks : List (List Int)} {low : Int}, ks.foldl lowM low ≤ low ∧ ∀ k ∈ ks, 1 < k.length → ks.foldl lowM low ≤ minM k
  | [], low => ⟨Int.le_refl _, fun k hk => by cases hk⟩
  | k :: ks, low => by
    obtain ⟨h1, h2⟩ := fold_low (ks := ks) (low := lowM low k)
    have h3 : lowM low k ≤ low := by unfold lowM; split <;> omega
    rw [List.foldl_cons]
    refine ⟨by omega, fun k' hk' hl => ?_⟩
    rcases List.mem_cons.1 hk' with rfl | hk'
    · have : lowM low k' ≤ minM k' := by unfold lowM; rw [if_pos hl]; omega
      omega
    · exact h2 k' hk' hl
theorem fold_min : ∀ {l : List Int} {x : Int}, l.foldl min x ≤ x
  | [], x => Int.le_refl _
  | y :: l, x => by
    rw [List.foldl_cons]
    have := fold_min (l := l) (x := min x y)
    omega
end
end Go.Proofs.Ytdmnoeooljofcaa
