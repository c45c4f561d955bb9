import Derived.Test.YtbpphlmakmeoaaaGreatDoorItemsAll
import Derived.Test.YtbpphlmakmeoaaaGreatDoorSameAll
namespace Go.Proofs.YtbpphlmakmeoaaaGreatDoor.Sy
def Post {α : Type} (f : M α) (P : α → Prop) : Prop := ∀ s a t, f s = .ok a t → P a
theorem Post.pure {α : Type} {P : α → Prop} {a : α} (h : P a) : Post (Pure.pure a : M α) P := by intro s b t e; cases e; exact h
theorem Post.fail {α : Type} {P : α → Prop} (e : Int) : Post (failM e : M α) P := by intro s b t e; cases e
theorem Post.any {α : Type} (f : M α) : Post f fun _ => True := fun _ _ _ _ => trivial
theorem Post.bind {α β : Type} {x : M α} {f : α → M β} {P : α → Prop} {Q : β → Prop} (hx : Post x P) (hf : ∀ a, P a → Post (f a) Q) : Post (x >>= f) Q := by
 intro s b t h
 obtain ⟨a, u, h1, h2⟩ := eQ.1 h
 exact hf a (hx _ _ _ h1) _ _ _ h2
theorem Post.then {α β : Type} {x : M α} {f : α → M β} {Q : β → Prop} (hf : ∀ a, Post (f a) Q) : Post (x >>= f) Q := .bind (.any x) fun a _ => hf a
theorem Post.ite {α : Type} {x y : M α} {P : α → Prop} (c : Bool) (hx : Post x P) (hy : Post y P) : Post (if c = true then x else y) P := by
 cases c
 · simpa using hy
 · simpa using hx
theorem Post.add {α : Type} {P : α → Prop} (k : Nat) (most : Int) {read : M α} (h : Post read P) : Post (gO k most read) P := .then fun _ => h
theorem rP {α : Type} {P : α → Prop} (most : Int) {read : M α} {more : M Bool} (hr : Ef read) (hp : Post read P) : ∀ (f : Nat) (acc : List α), (acc.length : Int) ≤ most → (∀ a, a ∈ acc → P a) → Post (iN most read more f acc) fun l => (l.length : Int) ≤ most ∧ ∀ a, a ∈ l → P a
 | 0, _, _, _ => by intro s a t h; cases h
 | f + 1, acc, h1, h2 => by
  intro s l t h
  unfold iN at h
  obtain ⟨b, u, e1, h⟩ := eQ.1 h
  cases b with
  | false => simp at h; cases h; exact ⟨h1, h2⟩
  | true =>
   simp only [if_true] at h
   obtain ⟨x, v, e2, h⟩ := eQ.1 h
   have h3 := (iy hr e2).2
   have h4 := hp.add _ _ _ _ _ e2
   refine rP most hr hp f (acc ++ [x]) (by simp; omega) (fun a ha => ?_) _ _ _ h
   rcases List.mem_append.1 ha with ha | ha
   · exact h2 a ha
   · simp at ha; subst ha; exact h4
theorem gH {α : Type} {P : α → Prop} (K : fQ) (most : Int) {read : M α} {more : M Bool} (hr : Ef read) (hp : Post read P) : Post (iP K most read more) fun l => (l.length : Int) ≤ most ∧ ∀ a, a ∈ l → P a := by
 intro s l t h
 obtain ⟨x, u, e1, h⟩ := eQ.1 h
 have h3 := (iy hr e1).2
 have h4 := hp.add _ _ _ _ _ e1
 exact rP most hr hp _ [x] (by simp; omega) (fun a ha => by simp at ha; subst ha; exact h4) _ _ _ h
section
variable (F : j5) (K : fQ)
theorem jV {read : M ee} (hr : Ef read) : Post (iW K read) fun l => l.length ≤ 1000000000 :=
 .then fun b => .ite b (.bind (gH K 4 hr (.any _)) fun _ h => .then fun _ => .pure (by have := h.1; omega)) (.pure (by simp))
theorem m7 : Post (jB F K) fun a => a.args.length ≤ 1000000000 :=
 .then fun _ => .then fun _ => .bind (jV K (lI K)) fun _ h => .then fun b => .ite b (.then fun _ => .pure h) (.pure h)
theorem re : Post (jp F K) fun a => a.args.length ≤ 1000000000 :=
 .then fun b => .ite b
  (.then fun b => .ite b (.then fun _ => .then fun _ => .then fun _ => .bind (jV K (lI K)) fun _ h => .pure h) (.then fun _ => .pure (by simp)))
  (.then fun b => .ite b (.then fun _ => .pure (by simp)) <| .then fun _ => .bind (jV K (lI K)) fun _ h => .pure h)
theorem xO : Post (lW F K) fun a => a.args.length ≤ 1000000000 := .bind (re F K) fun _ h => .then fun b => .ite b (.pure h) (.pure h)
theorem rJ : Post (nT F K) fun l => l.length ≤ 1000000000 ∧ ∀ a, a ∈ l → a.args.length ≤ 1000000000 :=
 .then fun _ => fun s a t h => by have h := gH K 8 (uE F K) (xO F K) s a t h; exact ⟨by have := h.1; omega, h.2⟩
theorem vd : Post (lz F K) fun g => (g.left.length ≤ 1000000000 ∧ ∀ a, a ∈ g.left → a.args.length ≤ 1000000000) ∧ g.right.length ≤ 1000000000 ∧ ∀ a, a ∈ g.right → a.args.length ≤ 1000000000 :=
 .then fun _ => .bind (rJ F K) fun _ hl => .then fun _ => .bind (rJ F K) fun _ hr => .then fun _ => .pure ⟨hl, hr⟩
theorem iU : (guardNone.left.length ≤ 1000000000 ∧ ∀ a, a ∈ guardNone.left → a.args.length ≤ 1000000000) ∧ guardNone.right.length ≤ 1000000000 ∧ ∀ a, a ∈ guardNone.right → a.args.length ≤ 1000000000 := by
 simp [guardNone]
theorem tJ : Post (jo F K) nH :=
 .then fun b => .ite b (.then fun _ => .then fun _ => .then fun _ => .pure ⟨by simp [j2], iU.1.1, iU.1.2, iU.2.1, iU.2.2⟩)
  (.then fun b => .ite b (.bind (vd F K) fun _ h => .pure ⟨by simp [j2], h.1.1, h.1.2, h.2.1, h.2.2⟩) (.bind (m7 F K) fun _ h => .pure ⟨h, iU.1.1, iU.1.2, iU.2.1, iU.2.2⟩))
theorem wb : Post (sy F K) fun l => l.length ≤ 1000000000 ∧ ∀ a, a ∈ l → nH a :=
 .then fun b => .ite b (fun s a t h => by have h := gH K 16 (pB F K) (tJ F K) s a t h; exact ⟨by have := h.1; omega, h.2⟩) (.pure (by simp))
theorem xq : Post (lX F K) lQ :=
 .then fun _ => .then fun _ => .then fun _ => .then fun _ => .then fun _ => .then fun _ => .then fun _ => .bind (wb F K) fun _ hb => .then fun _ => .bind (m7 F K) fun _ hh => .pure ⟨hb.1, hb.2, hh⟩
theorem nL (sort : Nat) : Post (jJ K sort) fun a => a.kinds.length ≤ 1000000000 ∧ a.values.length ≤ 1000000000 := .then fun _ => .bind (jV K (gJ K)) fun _ h => .pure ⟨h, by simp⟩
theorem o4 : Post (iE F K) fun a => a.kinds.length ≤ 1000000000 ∧ a.values.length ≤ 1000000000 :=
 .bind (nL K 3) fun _ h => .then fun _ => .bind (gH K 64 (mR F K) (.any _)) fun _ hv => .pure ⟨h.1, by have := hv.1; simp only; omega⟩
theorem vV : Post (kS K) fun a => a.length ≤ 1000000000 := .bind (gH K 16 (gJ K) (.any _)) fun _ h => .ite _ (.fail _) (.pure (by have := h.1; omega))
theorem uX : Post (kW F K) fun a => a.preds.length ≤ 1000000000 :=
 .then fun _ => .then fun _ => .then fun _ => .then fun _ => .then fun _ => .bind (gH K 16 (gJ K) (.any _)) fun _ h => .then fun b => .ite b (.then fun _ => .pure (by have := h.1; simp only; omega)) (.pure (by have := h.1; simp only; omega))
structure Held (S : StatM) : Prop where
 fits : M7 S
 preds : ∀ a, a ∈ S.preds → a.kinds.length ≤ 1000000000 ∧ a.values.length ≤ 1000000000
 classes : ∀ a, a ∈ S.classes → a.length ≤ 1000000000
 rules : ∀ a, a ∈ S.rules → lQ a
 totals : ∀ a, a ∈ S.totals → a.preds.length ≤ 1000000000
theorem Held.small {S : StatM} (h : Held S) : mu S := by
 obtain ⟨⟨f1, f2, f3, f4, f5, f6, f7, f8⟩, h1, h2, h3, h4⟩ := h
 exact ⟨by omega, by omega, by omega, h1, by omega, h2, by omega, by omega, h3, by omega, by omega, h4⟩
theorem gU {α : Type} {P : α → Prop} {l : List α} {x : α} (h : ∀ a, a ∈ l → P a) (hx : P x) : ∀ a, a ∈ l ++ [x] → P a := by
 intro a ha
 rcases List.mem_append.1 ha with ha | ha
 · exact h a ha
 · simp at ha; subst ha; exact hx
theorem tp {most : Int} : Post (kl K most) fun l => (l.length : Int) ≤ most :=
 .bind (gH K most (gJ K) (.any _)) fun _ h => .then fun _ => .then fun _ => .pure (by have := h.1; simpa using this)
theorem xQ {S : StatM} (hS : Held S) : Post (lN F K S) Held := by
 obtain ⟨⟨f1, f2, f3, f4, f5, f6, f7, f8⟩, hp, hc, hr, ht⟩ := hS
 intro s T t h
 unfold lN at h
 obtain ⟨b, u, h1, h⟩ := eQ.1 h
 cases b
 rotate_left
 · simp only [if_true] at h
   obtain ⟨x, v, hx, h⟩ := eQ.1 h
   cases h
   have := (iy (gJ K) hx).2
   exact ⟨⟨by simp; omega, f2, f3, f4, f5, f6, f7, f8⟩, hp, hc, hr, ht⟩
 simp only [Bool.false_eq_true, if_false] at h
 obtain ⟨b, u, h1, h⟩ := eQ.1 h
 cases b
 rotate_left
 · simp only [if_true] at h
   obtain ⟨x, v, hx, h⟩ := eQ.1 h
   cases h
   have := tp K _ _ _ hx
   exact ⟨⟨f1, by simp; omega, f3, f4, f5, f6, f7, f8⟩, hp, hc, hr, ht⟩
 simp only [Bool.false_eq_true, if_false] at h
 obtain ⟨b, u, h1, h⟩ := eQ.1 h
 cases b
 rotate_left
 · simp only [if_true] at h
   obtain ⟨x, v, hx, h⟩ := eQ.1 h
   cases h
   have := (iy (pX K _) hx).2
   exact ⟨⟨f1, f2, by simp; omega, f4, f5, f6, f7, f8⟩, gU hp (Post.add _ _ (nL K _) _ _ _ hx), hc, hr, ht⟩
 simp only [Bool.false_eq_true, if_false] at h
 obtain ⟨b, u, h1, h⟩ := eQ.1 h
 cases b
 rotate_left
 · simp only [if_true] at h
   obtain ⟨x, v, hx, h⟩ := eQ.1 h
   cases h
   have := (iy (pX K _) hx).2
   exact ⟨⟨f1, f2, by simp; omega, f4, f5, f6, f7, f8⟩, gU hp (Post.add _ _ (nL K _) _ _ _ hx), hc, hr, ht⟩
 simp only [Bool.false_eq_true, if_false] at h
 obtain ⟨b, u, h1, h⟩ := eQ.1 h
 cases b
 rotate_left
 · simp only [if_true] at h
   obtain ⟨x, v, hx, h⟩ := eQ.1 h
   cases h
   have := (iy (sm F K) hx).2
   exact ⟨⟨f1, f2, by simp; omega, f4, f5, f6, f7, f8⟩, gU hp (Post.add _ _ (o4 F K) _ _ _ hx), hc, hr, ht⟩
 simp only [Bool.false_eq_true, if_false] at h
 obtain ⟨b, u, h1, h⟩ := eQ.1 h
 cases b
 rotate_left
 · simp only [if_true] at h
   obtain ⟨x, v, hx, h⟩ := eQ.1 h
   cases h
   have := (iy (yd K) hx).2
   exact ⟨⟨f1, f2, f3, by simp; omega, f5, f6, f7, f8⟩, hp, gU hc (Post.add _ _ (vV K) _ _ _ hx), hr, ht⟩
 simp only [Bool.false_eq_true, if_false] at h
 obtain ⟨b, u, h1, h⟩ := eQ.1 h
 cases b
 rotate_left
 · simp only [if_true] at h
   obtain ⟨x, v, hx, h⟩ := eQ.1 h
   cases h
   have := (iy (xM F K) hx).2
   exact ⟨⟨f1, f2, f3, f4, by simp; omega, f6, f7, f8⟩, hp, hc, hr, ht⟩
 simp only [Bool.false_eq_true, if_false] at h
 obtain ⟨b, u, h1, h⟩ := eQ.1 h
 cases b
 rotate_left
 · simp only [if_true] at h
   obtain ⟨x, v, hx, h⟩ := eQ.1 h
   cases h
   have := (iy (B3 F K) hx).2
   exact ⟨⟨f1, f2, f3, f4, f5, by simp; omega, f7, f8⟩, hp, hc, gU hr (Post.add _ _ (xq F K) _ _ _ hx), ht⟩
 simp only [Bool.false_eq_true, if_false] at h
 obtain ⟨b, u, h1, h⟩ := eQ.1 h
 cases b
 rotate_left
 · simp only [if_true] at h
   obtain ⟨x, v, hx, h⟩ := eQ.1 h
   cases h
   have := (iy (sU K) hx).2
   exact ⟨⟨f1, f2, f3, f4, f5, f6, by simp; omega, f8⟩, hp, hc, hr, ht⟩
 simp only [Bool.false_eq_true, if_false] at h
 obtain ⟨b, u, h1, h⟩ := eQ.1 h
 cases b
 rotate_left
 · simp only [if_true] at h
   obtain ⟨x, v, hx, h⟩ := eQ.1 h
   cases h
   have := (iy (yz F K) hx).2
   exact ⟨⟨f1, f2, f3, f4, f5, f6, f7, by simp; omega⟩, hp, hc, hr, gU ht (Post.add _ _ (uX F K) _ _ _ hx)⟩
 simp only [Bool.false_eq_true, if_false] at h
 cases h
theorem pH : ∀ (f : Nat) (S : StatM), Held S → Post (kN F K f S) Held
 | 0, _, _ => by intro s a t h; cases h
 | f + 1, S, hS => .then fun b => .ite b (.bind (xQ F K hS) fun _ h => .then fun _ => pH f _ h) (.pure hS)
theorem rG (t : ee) : Held { StatM.none with title := t } := by
 constructor
 · constructor <;> simp [StatM.none]
 · simp [StatM.none]
 · simp [StatM.none]
 · simp [StatM.none]
 · simp [StatM.none]
theorem wI : Post (textM F K) Held := .then fun _ => pH F K _ _ (rG _)
end
end Go.Proofs.YtbpphlmakmeoaaaGreatDoor.Sy
