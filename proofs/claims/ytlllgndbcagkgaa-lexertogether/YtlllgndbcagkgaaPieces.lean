/- The tokens of a text, piece by piece: each told; joined, they are cut again. -/
import Derived.Test.YtlllgndbcagkgaaOnes
import Derived.Test.YtlllgndbcagkgaaJoinPlain
namespace Go.Proofs.Ytlllgndbcagkgaa

/-- Two lists, one by one. -/
structure Pair {α β : Type} (P : α → β → Prop) (a : List α) (b : List β) : Prop where
  len : a.length = b.length
  at' : ∀ (j : Nat) (x : α) (y : β), a[j]? = some x → b[j]? = some y → P x y

section
variable {α β : Type} {P : α → β → Prop}
theorem Pair.nil : Pair P [] [] := ⟨rfl, fun j x y h => by simp at h⟩
theorem Pair.cons {x : α} {y : β} {a : List α} {b : List β} (h : P x y) (hp : Pair P a b) : Pair P (x :: a) (y :: b) := by
  refine ⟨by simp [hp.len], fun j u v hu hv => ?_⟩
  cases j with
  | zero => simp at hu hv; subst hu; subst hv; exact h
  | succ j => exact hp.at' j u v (by simpa using hu) (by simpa using hv)
theorem Pair.tail {x : α} {y : β} {a : List α} {b : List β} (h : Pair P (x :: a) (y :: b)) : P x y ∧ Pair P a b :=
  ⟨h.at' 0 x y rfl rfl, by simpa using h.len, fun j u v hu hv => h.at' (j + 1) u v (by simpa using hu) (by simpa using hv)⟩
end

/-- A token and its bytes. -/
def Piece (t : Tok) (x : List UInt8) : Prop := Whole x t.kind ∧ t = tokW x t.kind t.place

def sumLen (xs : List (List UInt8)) : Nat := (xs.map List.length).sum

theorem cut_pieces {l : List UInt8} {i : Nat} {ts : List Tok} {rs : List (List UInt8)} (h : Cut l i ts rs) : ∃ xs, Pair Piece ts xs ∧ sumLen xs ≤ l.length := by
  induction h with
  | nil i => exact ⟨[], .nil, by simp [sumLen]⟩
  | blank _ _ ih => obtain ⟨xs, h1, h2⟩ := ih; exact ⟨xs, h1, by simp; omega⟩
  | remark _ _ ih => obtain ⟨xs, h1, h2⟩ := ih; exact ⟨xs, h1, by simp at h2 ⊢; omega⟩
  | @tok c r i ts rs hb h8 he _ ih =>
    obtain ⟨xs, h1, h2⟩ := ih
    have hl := one_len (l := c :: r) (by simp) he
    refine ⟨(c :: r).take (one (c :: r)).2.1 :: xs, .cons ⟨whole_tok hb h8 he, tok_eq he i⟩ h1, ?_⟩
    simp only [sumLen, List.map_cons, List.sum_cons, List.length_take] at h2 ⊢
    simp only [List.length_drop] at h2
    omega

theorem text_whole {x : List UInt8} {kd : Nat} (h : Whole x kd) (hl : x.length ≤ 65536) (i : Nat) : textF ((tokW x kd i).kind : Int) (tokW x kd i).text = some x := by
  have hw := written_whole h i
  have hc := W_of_cut (cut_one h 0) [] []
  have hR : lexT x = ⟨[tokW x kd 0], [], 0, x.length⟩ := by
    unfold lexT
    rw [if_neg (by omega)]
    have : lexR x = W x 0 [] [] := rfl
    rw [this, hc]; simp
  unfold textF
  rw [hw, hR, if_pos]
  exact ⟨rfl, rfl, rfl, rfl⟩

theorem piece_text {t : Tok} {x : List UInt8} (h : Piece t x) (hl : x.length ≤ 65536) : t.a.text = some x := by
  have := text_whole h.1 hl t.place
  rw [← h.2] at this
  exact this

/-- From the head on. -/
def joinR : List (List UInt8) → List UInt8
  | [] => []
  | [x] => x
  | x :: y :: r => x ++ 32 :: joinR (y :: r)

theorem joinR_cons (x : List UInt8) (r : List (List UInt8)) (h : r ≠ []) : joinR (x :: r) = x ++ 32 :: joinR r := by
  cases r with
  | nil => exact absurd rfl h
  | cons y r => rfl

theorem joinR_snoc : ∀ (l : List (List UInt8)) (s : List UInt8), joinR (l ++ [s]) = if l = [] then s else joinR l ++ 32 :: s := by
  intro l
  induction l with
  | nil => intro s; rfl
  | cons x r ih =>
    intro s
    rw [if_neg (by simp), List.cons_append, joinR_cons _ _ (by simp), ih]
    by_cases h : r = []
    · subst h; simp [joinR]
    · rw [if_neg h, joinR_cons _ _ h]; simp

theorem joinL_eq : ∀ (n : Nat) (l : List (List UInt8)), l.length = n → joinL l = joinR l := by
  intro n
  induction n with
  | zero => intro l hl; have := List.eq_nil_of_length_eq_zero hl; subst this; rfl
  | succ n ih =>
    intro l hl
    rcases List.eq_nil_or_concat l with e | ⟨l', c, e⟩
    · subst e; rfl
    · rw [List.concat_eq_append] at e
      subst e
      rw [joinL_snoc, joinR_snoc, ih l' (by simpa using hl)]

theorem joinR_len : ∀ (xs : List (List UInt8)), (∀ x ∈ xs, x ≠ []) → (joinR xs).length ≤ 2 * sumLen xs := by
  intro xs
  induction xs with
  | nil => intro _; simp [joinR]
  | cons x r ih =>
    intro h
    have h1 : 1 ≤ x.length := List.length_pos_iff.2 (h x (by simp))
    have := ih (fun y hy => h y (by simp [hy]))
    by_cases hr : r = []
    · subst hr; simp [joinR, sumLen]; omega
    · rw [joinR_cons _ _ hr]
      simp only [sumLen, List.map_cons, List.sum_cons, List.length_append, List.length_cons] at this ⊢
      omega

/-- Tokens that are one but for their places. -/
def ButAt (t t' : Tok) : Prop := t.kind = t'.kind ∧ t.text = t'.text

theorem cut_join : ∀ (ts : List Tok) (xs : List (List UInt8)), Pair Piece ts xs → ∀ i, ∃ ts', Cut (joinR xs) i ts' [] ∧ Pair ButAt ts ts' := by
  intro ts
  induction ts with
  | nil =>
    intro xs h i
    have : xs = [] := List.eq_nil_of_length_eq_zero (by rw [← h.len]; rfl)
    subst this
    exact ⟨[], .nil i, .nil⟩
  | cons t ts ih =>
    intro xs h i
    cases xs with
    | nil => have := h.len; simp at this
    | cons x r =>
      obtain ⟨h1, h2⟩ := h.tail
      have hb : ∀ p, ButAt t (tokW x t.kind p) := fun p => ⟨rfl, by have := h1.2; rw [this]; rfl⟩
      by_cases hr : r = []
      · subst hr
        have : ts = [] := List.eq_nil_of_length_eq_zero (by rw [h2.len]; rfl)
        subst this
        exact ⟨[tokW x t.kind i], cut_one h1.1 i, .cons (hb i) .nil⟩
      · obtain ⟨ts', h3, h4⟩ := ih r h2 (i + x.length + 1)
        rw [joinR_cons _ _ hr]
        exact ⟨tokW x t.kind i :: ts', cut_more h1.1 h3, .cons (hb i) h4⟩

theorem sumLen_mem {xs : List (List UInt8)} {x : List UInt8} (h : x ∈ xs) : x.length ≤ sumLen xs := by
  induction xs with
  | nil => simp at h
  | cons y r ih =>
    simp only [sumLen, List.map_cons, List.sum_cons] at ih ⊢
    rcases List.mem_cons.1 h with e | e
    · subst e; omega
    · have := ih e; omega

/-- What Join answers of a text's tokens, and what Tokens answers of that. -/
theorem join_back {s : List UInt8} (he : (lexT s).err = 0) : ∃ xs, Pair Piece (lexT s).tk xs ∧ sumLen xs ≤ s.length ∧ s.length ≤ 65536 ∧ (∀ j t, j < ((lexT s).tk.map Tok.a).length → ((lexT s).tk.map Tok.a)[j]? = some t → t.text.isSome = true) ∧ textsA ((lexT s).tk.map Tok.a) ((lexT s).tk.map Tok.a).length = xs ∧ (joinL xs).length ≤ 2 * s.length ∧
    ((joinL xs).length ≤ 65536 → (lexT (joinL xs)).err = 0 ∧ Pair ButAt (lexT s).tk (lexT (joinL xs)).tk) := by
  obtain ⟨_, hs, hR⟩ := lexT_place he
  have he' := he
  rw [hR] at he' ⊢
  obtain ⟨ts, rs, h1, _, h3⟩ := cut_of_W _ _ (Nat.le_refl _) 0 [] [] he'
  have h1' : (lexR s).tk = ts := by have : (lexR s).tk = [] ++ ts := h1; simpa using this
  obtain ⟨xs, hp, hsum⟩ := cut_pieces h3
  rw [h1']
  have hle : ∀ x ∈ xs, x.length ≤ 65536 := fun x hx => by have := sumLen_mem hx; omega
  have htx : ∀ (j : Nat) (t : Tok), ts[j]? = some t → ∃ x, xs[j]? = some x ∧ t.a.text = some x := by
    intro j t hj
    have hjl : j < xs.length := by rw [← hp.len]; exact (List.getElem?_eq_some_iff.1 hj).1
    refine ⟨xs[j], by simp [hjl], piece_text (hp.at' j t xs[j] hj (by simp [hjl])) (hle _ (List.getElem_mem hjl))⟩
  have hne : ∀ x ∈ xs, x ≠ [] := by
    intro x hx
    obtain ⟨j, hj, rfl⟩ := List.getElem_of_mem hx
    have hjt : j < ts.length := by rw [hp.len]; exact hj
    exact (hp.at' j ts[j] xs[j] (by simp [hjt]) (by simp [hj])).1.ne
  have hjl : (joinL xs).length ≤ 2 * s.length := by
    rw [joinL_eq _ xs rfl]
    have := joinR_len xs hne
    omega
  refine ⟨xs, hp, hsum, hs, ?_, ?_, hjl, fun hj => ?_⟩
  · intro j t hj ht
    rw [List.getElem?_map] at ht
    obtain ⟨t', h4, rfl⟩ := Option.map_eq_some_iff.1 ht
    obtain ⟨x, _, h5⟩ := htx j t' h4
    rw [h5]; rfl
  · rw [textsA_all, List.map_map]
    apply List.ext_getElem?
    intro j
    rw [List.getElem?_map]
    rcases Nat.lt_or_ge j ts.length with h | h
    · have e : ts[j]? = some ts[j] := by simp [h]
      obtain ⟨x, h5, h6⟩ := htx j ts[j] e
      rw [e, h5]
      simp [h6]
    · have e : ts[j]? = none := by simp [h]
      have e2 : xs[j]? = none := by simp; rw [← hp.len]; exact h
      rw [e, e2]; rfl
  · obtain ⟨ts', hc, hb⟩ := cut_join ts xs hp 0
    rw [← joinL_eq _ xs rfl] at hc
    have hW := W_of_cut hc [] []
    have hRj : lexT (joinL xs) = ⟨ts', [], 0, (joinL xs).length⟩ := by
      unfold lexT
      rw [if_neg (by omega)]
      have : lexR (joinL xs) = W (joinL xs) 0 [] [] := rfl
      rw [this, hW]; simp
    rw [hRj]
    exact ⟨rfl, hb⟩
end Go.Proofs.Ytlllgndbcagkgaa
