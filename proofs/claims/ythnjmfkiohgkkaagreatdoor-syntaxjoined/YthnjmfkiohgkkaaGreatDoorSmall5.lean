/- What a reader answers is small: every list within its own most. -/
import Derived.Test.YthnjmfkiohgkkaaGreatDoorItemsAll
import Derived.Test.YthnjmfkiohgkkaaGreatDoorSameAll
namespace Go.Proofs.YthnjmfkiohgkkaaGreatDoor.Sy

def Post {α : Type} (f : M α) (P : α → Prop) : Prop := ∀ s a t, f s = .ok a t → P a
theorem Post.pure {α : Type} {P : α → Prop} {a : α} (h : P a) : Post (Pure.pure a : M α) P := by intro s b t e; cases e; exact h
theorem Post.fail {α : Type} {P : α → Prop} (e : Int) : Post (failM e : M α) P := by intro s b t e; cases e
theorem Post.any {α : Type} (f : M α) : Post f fun _ => True := fun _ _ _ _ => trivial
theorem Post.bind {α β : Type} {x : M α} {f : α → M β} {P : α → Prop} {Q : β → Prop} (hx : Post x P) (hf : ∀ a, P a → Post (f a) Q) : Post (x >>= f) Q := by
  intro s b t h
  obtain ⟨a, u, h1, h2⟩ := bind_ok.1 h
  exact hf a (hx _ _ _ h1) _ _ _ h2
theorem Post.then {α β : Type} {x : M α} {f : α → M β} {Q : β → Prop} (hf : ∀ a, Post (f a) Q) : Post (x >>= f) Q := .bind (.any x) fun a _ => hf a
theorem Post.ite {α : Type} {x y : M α} {P : α → Prop} (c : Bool) (hx : Post x P) (hy : Post y P) : Post (if c = true then x else y) P := by
  cases c
  · simpa using hy
  · simpa using hx
theorem Post.add {α : Type} {P : α → Prop} (k : Nat) (most : Int) {read : M α} (h : Post read P) : Post (addM k most read) P := .then fun _ => h

theorem post_loop {α : Type} {P : α → Prop} (most : Int) {read : M α} {more : M Bool} (hr : Ef read) (hp : Post read P) : ∀ (f : Nat) (acc : List α), (acc.length : Int) ≤ most → (∀ a, a ∈ acc → P a) → Post (loopM most read more f acc) fun l => (l.length : Int) ≤ most ∧ ∀ a, a ∈ l → P a
  | 0, _, _, _ => by intro s a t h; cases h
  | f + 1, acc, h1, h2 => by
    intro s l t h
    unfold loopM at h
    obtain ⟨b, u, e1, h⟩ := bind_ok.1 h
    cases b with
    | false => simp at h; cases h; exact ⟨h1, h2⟩
    | true =>
      simp only [if_true] at h
      obtain ⟨x, v, e2, h⟩ := bind_ok.1 h
      have h3 := (add_room hr e2).2
      have h4 := hp.add _ _ _ _ _ e2
      refine post_loop most hr hp f (acc ++ [x]) (by simp; omega) (fun a ha => ?_) _ _ _ h
      rcases List.mem_append.1 ha with ha | ha
      · exact h2 a ha
      · simp at ha; subst ha; exact h4
theorem post_list {α : Type} {P : α → Prop} (K : Toks) (most : Int) {read : M α} {more : M Bool} (hr : Ef read) (hp : Post read P) : Post (listM K most read more) fun l => (l.length : Int) ≤ most ∧ ∀ a, a ∈ l → P a := by
  intro s l t h
  obtain ⟨x, u, e1, h⟩ := bind_ok.1 h
  have h3 := (add_room hr e1).2
  have h4 := hp.add _ _ _ _ _ e1
  exact post_loop most hr hp _ [x] (by simp; omega) (fun a ha => by simp at ha; subst ha; exact h4) _ _ _ h

section
variable (F : Fns) (K : Toks)
theorem post_brackets {read : M Bytes} (hr : Ef read) : Post (bracketsM K read) fun l => l.length ≤ 1000000000 :=
  .then fun b => .ite b (.bind (post_list K 4 hr (.any _)) fun _ h => .then fun _ => .pure (by have := h.1; omega)) (.pure (by simp))
theorem post_literal : Post (literalM F K) fun a => a.args.length ≤ 1000000000 :=
  .then fun _ => .then fun _ => .bind (post_brackets K (ef_arg K)) fun _ h => .then fun b => .ite b (.then fun _ => .pure h) (.pure h)
theorem post_plainTerm : Post (plainTermM F K) fun a => a.args.length ≤ 1000000000 :=
  .then fun b => .ite b
    (.then fun b => .ite b (.then fun _ => .then fun _ => .then fun _ => .bind (post_brackets K (ef_arg K)) fun _ h => .pure h) (.then fun _ => .pure (by simp)))
    (.then fun b => .ite b (.then fun _ => .pure (by simp)) <| .then fun _ => .bind (post_brackets K (ef_arg K)) fun _ h => .pure h)
theorem post_term : Post (termM F K) fun a => a.args.length ≤ 1000000000 := .bind (post_plainTerm F K) fun _ h => .then fun b => .ite b (.pure h) (.pure h)
theorem post_side : Post (sideM F K) fun l => l.length ≤ 1000000000 ∧ ∀ a, a ∈ l → a.args.length ≤ 1000000000 :=
  .then fun _ => fun s a t h => by have h := post_list K 8 (ef_term F K) (post_term F K) s a t h; exact ⟨by have := h.1; omega, h.2⟩
theorem post_guard : Post (guardM F K) fun g => (g.left.length ≤ 1000000000 ∧ ∀ a, a ∈ g.left → a.args.length ≤ 1000000000) ∧ g.right.length ≤ 1000000000 ∧ ∀ a, a ∈ g.right → a.args.length ≤ 1000000000 :=
  .then fun _ => .bind (post_side F K) fun _ hl => .then fun _ => .bind (post_side F K) fun _ hr => .then fun _ => .pure ⟨hl, hr⟩
theorem small_none : (guardNone.left.length ≤ 1000000000 ∧ ∀ a, a ∈ guardNone.left → a.args.length ≤ 1000000000) ∧ guardNone.right.length ≤ 1000000000 ∧ ∀ a, a ∈ guardNone.right → a.args.length ≤ 1000000000 := by
  simp [guardNone]
theorem post_premise : Post (premiseM F K) SmallPrem :=
  .then fun b => .ite b (.then fun _ => .then fun _ => .then fun _ => .pure ⟨by simp [litNone], small_none.1.1, small_none.1.2, small_none.2.1, small_none.2.2⟩)
    (.then fun b => .ite b (.bind (post_guard F K) fun _ h => .pure ⟨by simp [litNone], h.1.1, h.1.2, h.2.1, h.2.2⟩) (.bind (post_literal F K) fun _ h => .pure ⟨h, small_none.1.1, small_none.1.2, small_none.2.1, small_none.2.2⟩))
theorem post_body : Post (bodyM F K) fun l => l.length ≤ 1000000000 ∧ ∀ a, a ∈ l → SmallPrem a :=
  .then fun b => .ite b (fun s a t h => by have h := post_list K 16 (ef_premise F K) (post_premise F K) s a t h; exact ⟨by have := h.1; omega, h.2⟩) (.pure (by simp))
theorem post_rule : Post (ruleM F K) SmallRule :=
  .then fun _ => .then fun _ => .then fun _ => .then fun _ => .then fun _ => .then fun _ => .then fun _ => .bind (post_body F K) fun _ hb => .then fun _ => .bind (post_literal F K) fun _ hh => .pure ⟨hb.1, hb.2, hh⟩
theorem post_pred (sort : Nat) : Post (predM K sort) fun a => a.kinds.length ≤ 1000000000 ∧ a.values.length ≤ 1000000000 := .then fun _ => .bind (post_brackets K (ef_name K)) fun _ h => .pure ⟨h, by simp⟩
theorem post_amountPred : Post (amountPredM F K) fun a => a.kinds.length ≤ 1000000000 ∧ a.values.length ≤ 1000000000 :=
  .bind (post_pred K 3) fun _ h => .then fun _ => .bind (post_list K 64 (ef_money F K) (.any _)) fun _ hv => .pure ⟨h.1, by have := hv.1; simp only; omega⟩
theorem post_class : Post (classM K) fun a => a.length ≤ 1000000000 := .bind (post_list K 16 (ef_name K) (.any _)) fun _ h => .ite _ (.fail _) (.pure (by have := h.1; omega))
theorem post_total : Post (totalM F K) fun a => a.preds.length ≤ 1000000000 :=
  .then fun _ => .then fun _ => .then fun _ => .then fun _ => .then fun _ => .bind (post_list K 16 (ef_name K) (.any _)) fun _ h => .then fun b => .ite b (.then fun _ => .pure (by have := h.1; simp only; omega)) (.pure (by have := h.1; simp only; omega))
/-- A statute that is within its counts, and small within. -/
structure Held (S : StatM) : Prop where
  fits : Fits S
  preds : ∀ a, a ∈ S.preds → a.kinds.length ≤ 1000000000 ∧ a.values.length ≤ 1000000000
  classes : ∀ a, a ∈ S.classes → a.length ≤ 1000000000
  rules : ∀ a, a ∈ S.rules → SmallRule a
  totals : ∀ a, a ∈ S.totals → a.preds.length ≤ 1000000000
theorem Held.small {S : StatM} (h : Held S) : SmallS S := by
  obtain ⟨⟨f1, f2, f3, f4, f5, f6, f7, f8⟩, h1, h2, h3, h4⟩ := h
  exact ⟨by omega, by omega, by omega, h1, by omega, h2, by omega, by omega, h3, by omega, by omega, h4⟩
theorem mem_snoc {α : Type} {P : α → Prop} {l : List α} {x : α} (h : ∀ a, a ∈ l → P a) (hx : P x) : ∀ a, a ∈ l ++ [x] → P a := by
  intro a ha
  rcases List.mem_append.1 ha with ha | ha
  · exact h a ha
  · simp at ha; subst ha; exact hx

theorem members_most {most : Int} : Post (membersM K most) fun l => (l.length : Int) ≤ most :=
  .bind (post_list K most (ef_name K) (.any _)) fun _ h => .then fun _ => .then fun _ => .pure (by have := h.1; simpa using this)
theorem post_item {S : StatM} (hS : Held S) : Post (itemM F K S) Held := by
  obtain ⟨⟨f1, f2, f3, f4, f5, f6, f7, f8⟩, hp, hc, hr, ht⟩ := hS
  intro s T t h
  unfold itemM at h
  obtain ⟨b, u, h1, h⟩ := bind_ok.1 h
  cases b
  rotate_left
  · simp only [if_true] at h
    obtain ⟨x, v, hx, h⟩ := bind_ok.1 h
    cases h
    have := (add_room (ef_name K) hx).2
    exact ⟨⟨by simp; omega, f2, f3, f4, f5, f6, f7, f8⟩, hp, hc, hr, ht⟩
  simp only [Bool.false_eq_true, if_false] at h
  obtain ⟨b, u, h1, h⟩ := bind_ok.1 h
  cases b
  rotate_left
  · simp only [if_true] at h
    obtain ⟨x, v, hx, h⟩ := bind_ok.1 h
    cases h
    have := members_most K _ _ _ hx
    exact ⟨⟨f1, by simp; omega, f3, f4, f5, f6, f7, f8⟩, hp, hc, hr, ht⟩
  simp only [Bool.false_eq_true, if_false] at h
  obtain ⟨b, u, h1, h⟩ := bind_ok.1 h
  cases b
  rotate_left
  · simp only [if_true] at h
    obtain ⟨x, v, hx, h⟩ := bind_ok.1 h
    cases h
    have := (add_room (ef_pred K _) hx).2
    exact ⟨⟨f1, f2, by simp; omega, f4, f5, f6, f7, f8⟩, mem_snoc hp (Post.add _ _ (post_pred K _) _ _ _ hx), hc, hr, ht⟩
  simp only [Bool.false_eq_true, if_false] at h
  obtain ⟨b, u, h1, h⟩ := bind_ok.1 h
  cases b
  rotate_left
  · simp only [if_true] at h
    obtain ⟨x, v, hx, h⟩ := bind_ok.1 h
    cases h
    have := (add_room (ef_pred K _) hx).2
    exact ⟨⟨f1, f2, by simp; omega, f4, f5, f6, f7, f8⟩, mem_snoc hp (Post.add _ _ (post_pred K _) _ _ _ hx), hc, hr, ht⟩
  simp only [Bool.false_eq_true, if_false] at h
  obtain ⟨b, u, h1, h⟩ := bind_ok.1 h
  cases b
  rotate_left
  · simp only [if_true] at h
    obtain ⟨x, v, hx, h⟩ := bind_ok.1 h
    cases h
    have := (add_room (ef_amountPred F K) hx).2
    exact ⟨⟨f1, f2, by simp; omega, f4, f5, f6, f7, f8⟩, mem_snoc hp (Post.add _ _ (post_amountPred F K) _ _ _ hx), hc, hr, ht⟩
  simp only [Bool.false_eq_true, if_false] at h
  obtain ⟨b, u, h1, h⟩ := bind_ok.1 h
  cases b
  rotate_left
  · simp only [if_true] at h
    obtain ⟨x, v, hx, h⟩ := bind_ok.1 h
    cases h
    have := (add_room (ef_class K) hx).2
    exact ⟨⟨f1, f2, f3, by simp; omega, f5, f6, f7, f8⟩, hp, mem_snoc hc (Post.add _ _ (post_class K) _ _ _ hx), hr, ht⟩
  simp only [Bool.false_eq_true, if_false] at h
  obtain ⟨b, u, h1, h⟩ := bind_ok.1 h
  cases b
  rotate_left
  · simp only [if_true] at h
    obtain ⟨x, v, hx, h⟩ := bind_ok.1 h
    cases h
    have := (add_room (ef_source F K) hx).2
    exact ⟨⟨f1, f2, f3, f4, by simp; omega, f6, f7, f8⟩, hp, hc, hr, ht⟩
  simp only [Bool.false_eq_true, if_false] at h
  obtain ⟨b, u, h1, h⟩ := bind_ok.1 h
  cases b
  rotate_left
  · simp only [if_true] at h
    obtain ⟨x, v, hx, h⟩ := bind_ok.1 h
    cases h
    have := (add_room (ef_rule F K) hx).2
    exact ⟨⟨f1, f2, f3, f4, f5, by simp; omega, f7, f8⟩, hp, hc, mem_snoc hr (Post.add _ _ (post_rule F K) _ _ _ hx), ht⟩
  simp only [Bool.false_eq_true, if_false] at h
  obtain ⟨b, u, h1, h⟩ := bind_ok.1 h
  cases b
  rotate_left
  · simp only [if_true] at h
    obtain ⟨x, v, hx, h⟩ := bind_ok.1 h
    cases h
    have := (add_room (ef_exception K) hx).2
    exact ⟨⟨f1, f2, f3, f4, f5, f6, by simp; omega, f8⟩, hp, hc, hr, ht⟩
  simp only [Bool.false_eq_true, if_false] at h
  obtain ⟨b, u, h1, h⟩ := bind_ok.1 h
  cases b
  rotate_left
  · simp only [if_true] at h
    obtain ⟨x, v, hx, h⟩ := bind_ok.1 h
    cases h
    have := (add_room (ef_total F K) hx).2
    exact ⟨⟨f1, f2, f3, f4, f5, f6, f7, by simp; omega⟩, hp, hc, hr, mem_snoc ht (Post.add _ _ (post_total F K) _ _ _ hx)⟩
  simp only [Bool.false_eq_true, if_false] at h
  cases h
theorem post_items : ∀ (f : Nat) (S : StatM), Held S → Post (itemsM F K f S) Held
  | 0, _, _ => by intro s a t h; cases h
  | f + 1, S, hS => .then fun b => .ite b (.bind (post_item F K hS) fun _ h => .then fun _ => post_items f _ h) (.pure hS)
theorem held_none (t : Bytes) : Held { StatM.none with title := t } := by
  constructor
  · constructor <;> simp [StatM.none]
  · simp [StatM.none]
  · simp [StatM.none]
  · simp [StatM.none]
  · simp [StatM.none]
theorem post_text : Post (textM F K) Held := .then fun _ => post_items F K _ _ (held_none _)
end
end Go.Proofs.YthnjmfkiohgkkaaGreatDoor.Sy
