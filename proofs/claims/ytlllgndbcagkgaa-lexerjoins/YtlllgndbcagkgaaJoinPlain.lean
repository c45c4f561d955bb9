/- Texts joined. -/
import Derived.Test.YtlllgndbcagkgaaText
namespace Go.Proofs.Ytlllgndbcagkgaa
open Go.RowKit

/-- A token, whatever is handed over. -/
structure ATok where
  kd : Int
  tx : ByteArray
  pl : Int

def ATok.text (t : ATok) : Option (List UInt8) := textF t.kd t.tx.data.toList

/-- Texts with one blank between. -/
def joinL (l : List (List UInt8)) : List UInt8 := (l.foldl (fun (p : Bool × List UInt8) s => (true, if p.1 = true then p.2 ++ 32 :: s else s)) (false, [])).2

theorem joinL_fst (l : List (List UInt8)) : (l.foldl (fun (p : Bool × List UInt8) s => (true, if p.1 = true then p.2 ++ 32 :: s else s)) (false, [])).1 = decide (l ≠ []) := by
  rcases List.eq_nil_or_concat l with e | ⟨l', c, e⟩
  · subst e; rfl
  · rw [List.concat_eq_append] at e
    subst e; simp

theorem joinL_nil : joinL [] = [] := rfl
theorem joinL_snoc (l : List (List UInt8)) (s : List UInt8) : joinL (l ++ [s]) = if l = [] then s else joinL l ++ 32 :: s := by
  unfold joinL
  rw [List.foldl_append]
  simp only [List.foldl_cons, List.foldl_nil, joinL_fst]
  by_cases h : l = []
  · subst h; simp
  · simp [h]

/-- The texts of the first k. -/
def textsA (A : List ATok) (k : Nat) : List (List UInt8) := (A.take k).map fun t => t.text.getD []

theorem textsA_succ (A : List ATok) (k : Nat) (t : ATok) (s : List UInt8) (h : A[k]? = some t) (hs : t.text = some s) : textsA A (k + 1) = textsA A k ++ [s] := by
  have hk : k < A.length := (List.getElem?_eq_some_iff.1 h).1
  have e : A[k] = t := (List.getElem?_eq_some_iff.1 h).2
  unfold textsA
  rw [List.take_succ_eq_append_getElem hk, e, List.map_append]
  simp [hs]

theorem textsA_len (A : List ATok) (k : Nat) (h : k ≤ A.length) : (textsA A k).length = k := by unfold textsA; simp; omega
theorem textsA_all (A : List ATok) : textsA A A.length = A.map fun t => t.text.getD [] := by unfold textsA; simp

/-- The length so far. -/
def sizeA (A : List ATok) (k : Nat) : Nat := (joinL (textsA A k)).length

def gapL (k : Nat) : List UInt8 := if k = 0 then [] else [32]

theorem joinA_succ (A : List ATok) (k : Nat) (t : ATok) (s : List UInt8) (h : A[k]? = some t) (hs : t.text = some s) : joinL (textsA A (k + 1)) = joinL (textsA A k) ++ (gapL k ++ s) := by
  have hk : k < A.length := (List.getElem?_eq_some_iff.1 h).1
  rw [textsA_succ A k t s h hs, joinL_snoc]
  have hl := textsA_len A k (by omega)
  by_cases e : k = 0
  · subst e
    have : textsA A 0 = [] := rfl
    rw [this]; simp [gapL, joinL_nil]
  · rw [if_neg (fun h => by rw [h] at hl; simp at hl; omega)]
    simp [gapL, e]

theorem text_le {t : ATok} {s : List UInt8} (h : t.text = some s) : s.length ≤ 65536 := by
  unfold ATok.text textF at h
  split at h
  · next hc =>
    have := (lexT_place hc.1).2.1
    simp only [Option.some.injEq] at h
    rw [← h]; exact this
  · simp at h

theorem sizeA_le (A : List ATok) : ∀ (k : Nat), k ≤ A.length → (∀ j t, j < k → A[j]? = some t → t.text.isSome = true) → sizeA A k ≤ k * 65537 := by
  intro k
  induction k with
  | zero => intro _ _; simp [sizeA, textsA, joinL]
  | succ k ih =>
    intro hk h
    have hlt : k < A.length := by omega
    have e : A[k]? = some A[k] := by simp [hlt]
    obtain ⟨s, hs⟩ := Option.isSome_iff_exists.1 (h k _ (by omega) e)
    have := ih (by omega) (fun j t hj => h j t (by omega))
    have hl := text_le hs
    unfold sizeA at this ⊢
    rw [joinA_succ A k _ s e hs]
    simp only [List.length_append]
    have hg : (gapL k).length ≤ 1 := by unfold gapL; split <;> simp
    omega

/-- What Join answers. -/
def joinV (A : List ATok) : Value :=
  match A.findIdx? (fun t => t.text.isNone) with
  | some i => .tuple #[.string ⟨#[]⟩, .int .i64 51, .int .i64 i]
  | none => if 65536 < sizeA A A.length then .tuple #[.string ⟨#[]⟩, .int .i64 5, .int .i64 A.length] else .tuple #[strV (joinL (textsA A A.length)), .int .i64 0, .int .i64 A.length]

theorem joinV_bad (A : List ATok) (k : Nat) (t : ATok) (h : A[k]? = some t) (hn : t.text = none) (hb : ∀ j t, j < k → A[j]? = some t → t.text.isSome = true) : joinV A = .tuple #[.string ⟨#[]⟩, .int .i64 51, .int .i64 k] := by
  have hk : k < A.length := (List.getElem?_eq_some_iff.1 h).1
  have e : A.findIdx? (fun t => t.text.isNone) = some k := by
    rw [List.findIdx?_eq_some_iff_getElem]
    refine ⟨hk, ?_, fun j hj => ?_⟩
    · have : A[k] = t := (List.getElem?_eq_some_iff.1 h).2
      rw [this, hn]; rfl
    · have := hb j A[j] hj (by simp)
      intro hc
      simp only [Option.isNone_iff_eq_none] at hc
      rw [hc] at this; simp at this
  unfold joinV; rw [e]

theorem joinV_ok (A : List ATok) (hb : ∀ j t, j < A.length → A[j]? = some t → t.text.isSome = true) : joinV A = if 65536 < sizeA A A.length then .tuple #[.string ⟨#[]⟩, .int .i64 5, .int .i64 A.length] else .tuple #[strV (joinL (textsA A A.length)), .int .i64 0, .int .i64 A.length] := by
  have e : A.findIdx? (fun t => t.text.isNone) = none := by
    rw [List.findIdx?_eq_none_iff]
    intro t ht
    obtain ⟨j, hj, rfl⟩ := List.getElem_of_mem ht
    have := hb j A[j] hj (by simp)
    simpa using this
  unfold joinV; rw [e]

/-- A row of tokens that was handed over. -/
def RowA (w : World) (a : Option Addr) (A : List ATok) : Prop :=
  ∀ j t, A[j]? = some t → ∃ b o, a = some ⟨b, o, none⟩ ∧ w.cell? ⟨b, o + j * 3, none⟩ = some (.int .i64 t.kd) ∧ w.cell? ⟨b, o + j * 3 + 1, none⟩ = some (.string t.tx) ∧ w.cell? ⟨b, o + j * 3 + 2, none⟩ = some (.int .i64 t.pl)

theorem RowA.below {w w1 : World} {a : Option Addr} {A : List ATok} (h : RowA w a A) {B : Nat} (hB : w.heap.size ≤ B) (hb : Below B w w1) : RowA w1 a A := fun j t hj => by
  obtain ⟨b, o, h1, h2, h3, h4⟩ := h j t hj
  have hl : b < B := Nat.lt_of_lt_of_le (World.block_lt_of_cell? w _ h2) hB
  exact ⟨b, o, h1, (hb.cell (p := ⟨b, o + j * 3, none⟩) hl).trans h2, (hb.cell (p := ⟨b, o + j * 3 + 1, none⟩) hl).trans h3, (hb.cell (p := ⟨b, o + j * 3 + 2, none⟩) hl).trans h4⟩

def Tok.a (t : Tok) : ATok := ⟨t.kind, ⟨t.text.toArray⟩, t.place⟩

theorem RowT.a {w : World} {a : Option Addr} {tk : List Tok} (h : RowT w a tk) : RowA w a (tk.map Tok.a) := fun j t hj => by
  rw [List.getElem?_map] at hj
  obtain ⟨t', h1, rfl⟩ := Option.map_eq_some_iff.1 hj
  obtain ⟨b, o, e, h2, h3, h4⟩ := h j t' h1
  exact ⟨b, o, e, h2, h3, h4⟩

/-- A builder is kept where all old blocks are. -/
theorem bld_below {w w1 : World} {B b : Nat} {bs : List Value} (h : Lib.IsBuilder 67 5 B b bs w) (hb : Below w.heap.size w w1) : Lib.IsBuilder 67 5 B b bs w1 := by
  have one : ∀ {p : Value}, Lib.BuilderAt 67 5 B b p bs w → Lib.BuilderAt 67 5 B b p bs w1 := fun {p} ⟨h1, v, h2, h3, h4⟩ => by
    refine ⟨h1, v, (hb.block b (Array.getElem?_eq_some_iff.1 h2).1).trans h2, ⟨h3.1, ?_⟩, h4⟩
    rcases h3.2 with h5 | ⟨g, cap, cur, h5, h6, h7, h8⟩
    · exact .inl h5
    · exact .inr ⟨g, cap, cur, h5, h6, (hb.block g (Array.getElem?_eq_some_iff.1 h7).1).trans h7, h8⟩
  rcases h with h | h
  · exact .inl (one h)
  · exact .inr (one h)
end Go.Proofs.Ytlllgndbcagkgaa
