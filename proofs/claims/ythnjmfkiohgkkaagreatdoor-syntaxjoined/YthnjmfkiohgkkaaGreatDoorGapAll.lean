/- A text is its tokens and remarks: the cut, as a relation. -/
import Derived.Test.YthnjmfkiohgkkaaGreatDoorLexAll
namespace Go.Proofs.YthnjmfkiohgkkaaGreatDoor

/-- How a text is cut. -/
inductive Cut : List UInt8 → Nat → List Tok → List (List UInt8) → Prop
  | nil (i : Nat) : Cut [] i [] []
  | blank {c : UInt8} {r : List UInt8} {i : Nat} {ts : List Tok} {rs : List (List UInt8)} : blankB c = true → Cut r (i + 1) ts rs → Cut (c :: r) i ts rs
  | remark {c : UInt8} {r : List UInt8} {i : Nat} {ts : List Tok} {rs : List (List UInt8)} : clsB c = 8 → Cut (r.drop (span noEnd r)) (i + 1 + span noEnd r) ts rs → Cut (c :: r) i ts (r.take (span noEnd r) :: rs)
  | tok {c : UInt8} {r : List UInt8} {i : Nat} {ts : List Tok} {rs : List (List UInt8)} : blankB c = false → clsB c ≠ 8 → (one (c :: r)).2.2.1 = 0 → Cut ((c :: r).drop (one (c :: r)).2.1) (i + (one (c :: r)).2.1) ts rs →
      Cut (c :: r) i (tokOf (one (c :: r)).1 (one (c :: r)).2.1 (c :: r) i :: ts) rs

theorem cut_of_W : ∀ (n : Nat) (l : List UInt8), l.length ≤ n → ∀ (i : Nat) (tk : List Tok) (rm : List (List UInt8)), (W l i tk rm).err = 0 → ∃ ts rs, (W l i tk rm).tk = tk ++ ts ∧ (W l i tk rm).rm = rm ++ rs ∧ Cut l i ts rs := by
  intro n
  induction n with
  | zero =>
    intro l hl i tk rm _
    have : l = [] := List.eq_nil_of_length_eq_zero (by omega)
    subst this
    exact ⟨[], [], by simp [W_nil], by simp [W_nil], .nil i⟩
  | succ n ih =>
    intro l hl i tk rm h
    cases l with
    | nil => exact ⟨[], [], by simp [W_nil], by simp [W_nil], .nil i⟩
    | cons c r =>
      simp only [List.length_cons] at hl
      by_cases hb : blankB c = true
      · rw [W_blank _ _ _ _ _ hb] at h ⊢
        obtain ⟨ts, rs, h1, h2, h3⟩ := ih r (by omega) _ _ _ h
        exact ⟨ts, rs, h1, h2, .blank hb h3⟩
      · have hb' : blankB c = false := by simpa using hb
        by_cases h8 : clsB c = 8
        · rw [W_remark _ _ _ _ _ h8] at h ⊢
          obtain ⟨ts, rs, h1, h2, h3⟩ := ih _ (by simp; omega) _ _ _ h
          exact ⟨ts, _ :: rs, h1, by rw [h2]; simp, .remark h8 h3⟩
        · by_cases he : (one (c :: r)).2.2.1 = 0
          · have hol := one_len (l := c :: r) (by simp) he
            have eB := W_tok c r i tk rm hb' h8 he
            rw [eB] at h ⊢
            obtain ⟨ts, rs, h1, h2, h3⟩ := ih _ (by simp only [List.length_drop, List.length_cons]; omega) _ _ _ h
            exact ⟨_ :: ts, rs, by rw [h1]; simp, h2, .tok hb' h8 he h3⟩
          · rw [W_err c r i tk rm hb' h8 he] at h
            exact absurd h he

theorem W_of_cut {l : List UInt8} {i : Nat} {ts : List Tok} {rs : List (List UInt8)} (h : Cut l i ts rs) : ∀ (tk : List Tok) (rm : List (List UInt8)), W l i tk rm = ⟨tk ++ ts, rm ++ rs, 0, i + l.length⟩ := by
  induction h with
  | nil i => intro tk rm; simp [W_nil]
  | blank hb _ ih =>
    intro tk rm
    rw [W_blank _ _ _ _ _ hb, ih]
    simp only [List.length_cons, Res.mk.injEq, true_and]; omega
  | @remark c r i ts rs h8 _ ih =>
    intro tk rm
    rw [W_remark _ _ _ _ _ h8, ih]
    have := span_le noEnd r
    simp only [List.append_assoc, List.cons_append, List.nil_append, List.length_drop, List.length_cons, Res.mk.injEq, true_and]; omega
  | @tok c r i ts rs hb h8 he _ ih =>
    intro tk rm
    have hol := one_len (l := c :: r) (by simp) he
    rw [W_tok c r i tk rm hb h8 he, ih]
    simp only [List.append_assoc, List.cons_append, List.nil_append, Res.mk.injEq, true_and]
    simp only [List.length_drop]
    omega

/-- A token as it stands. -/
def writtenF (kd : Int) (tx : List UInt8) : List UInt8 := if kd = 5 then 34 :: (tx ++ [34]) else tx

end Go.Proofs.YthnjmfkiohgkkaaGreatDoor

namespace Go.Proofs.YthnjmfkiohgkkaaGreatDoor

/-- A text that is one token. -/
structure Whole (x : List UInt8) (kd : Nat) : Prop where
  ne : x ≠ []
  ok : (one x).2.2.1 = 0
  kind : (one x).1 = kd
  len : (one x).2.1 = x.length
  blank : blankB (x.getD 0 0) = false
  sharp : clsB (x.getD 0 0) ≠ 8

/-- The token that a text is, at a place. -/
def tokW (x : List UInt8) (kd i : Nat) : Tok := tokOf kd x.length x i

end Go.Proofs.YthnjmfkiohgkkaaGreatDoor

namespace Go.Proofs.YthnjmfkiohgkkaaGreatDoor

def ButAt (t t' : Tok) : Prop := t.kind = t'.kind ∧ t.text = t'.text
/-- A token and its bytes. -/
def Piece (t : Tok) (x : List UInt8) : Prop := Whole x t.kind ∧ t = tokW x t.kind t.place

/-- Tokens without their places. -/
def bare (ts : List Tok) : List (Nat × List UInt8) := ts.map fun t => (t.kind, t.text)

/-- What stands between. -/
def gapB (n : Nat) : List UInt8 :=
  if n = 0 then [32] else if n = 1 then [10, 9] else if n = 2 then [32, 35, 32, 97, 32, 114, 101, 109, 97, 114, 107, 46, 32, 107, 105, 110, 100, 10] else [32, 32, 13, 10]

/-- Tokens as they are written, from the k-th on, each with its gap. -/
def spacedL (g : Nat → Nat) : Nat → List Tok → List UInt8
  | _, [] => []
  | k, t :: r => writtenF (t.kind : Int) t.text ++ (gapB (g k) ++ spacedL g (k + 1) r)

theorem cut_shift {l : List UInt8} {i : Nat} {ts : List Tok} {rs : List (List UInt8)} (h : Cut l i ts rs) : ∀ j, ∃ ts', Cut l j ts' rs ∧ bare ts' = bare ts := by
  induction h with
  | nil i => intro j; exact ⟨[], .nil j, rfl⟩
  | blank hb _ ih => intro j; obtain ⟨ts', h1, h2⟩ := ih (j + 1); exact ⟨ts', .blank hb h1, h2⟩
  | @remark c r i ts rs h8 _ ih => intro j; obtain ⟨ts', h1, h2⟩ := ih (j + 1 + span noEnd r); exact ⟨ts', .remark h8 h1, h2⟩
  | @tok c r i ts rs hb h8 he _ ih =>
    intro j
    obtain ⟨ts', h1, h2⟩ := ih (j + (one (c :: r)).2.1)
    refine ⟨_, .tok hb h8 he h1, ?_⟩
    show _ :: bare ts' = _ :: bare ts
    rw [h2]
    rfl

/-- Two texts with a line's end between. -/
theorem W_two (a b : List UInt8) (ha : (W a 0 [] []).err = 0) (hb : (W b 0 [] []).err = 0) :
    (W (a ++ 10 :: b) 0 [] []).err = 0 ∧ bare (W (a ++ 10 :: b) 0 [] []).tk = bare (W a 0 [] []).tk ++ bare (W b 0 [] []).tk := by
  rcases W_together b a.length a (Nat.le_refl _) 0 [] [] with ⟨h1, h2, h3, h4⟩ | ⟨tk, rm, h1, h2⟩
  · exact absurd ha h1
  · obtain ⟨ts, rs, g1, g2, g3⟩ := cut_of_W _ _ (Nat.le_refl _) 0 [] [] hb
    obtain ⟨ts', g4, g5⟩ := cut_shift g3 (0 + a.length + 1)
    rw [h2, h1, W_of_cut g4 tk rm, g1]
    refine ⟨rfl, ?_⟩
    show bare (tk ++ ts') = bare tk ++ bare ts
    rw [← g5]
    unfold bare
    rw [List.map_append]
end Go.Proofs.YthnjmfkiohgkkaaGreatDoor
