/- A row of tokens, read. -/
import Derived.Test.YthnjmfkiohgkkaaGreatDoorTokens
namespace Go.Proofs.YthnjmfkiohgkkaaGreatDoor.Sy
open Go.RowKit

/-- A row of tokens lies at an address. -/
def RowT (w : World) (a : Option Addr) (tk : List Tok) : Prop :=
  ∀ j t, tk[j]? = some t → ∃ b o, a = some ⟨b, o, none⟩ ∧ w.cell? ⟨b, o + j * 3, none⟩ = some (.int .i64 t.kind) ∧ w.cell? ⟨b, o + j * 3 + 1, none⟩ = some (strV t.text) ∧ w.cell? ⟨b, o + j * 3 + 2, none⟩ = some (.int .i64 t.place)

theorem add_at (g j : Nat) : (⟨g, 0, none⟩ : Addr).add j = ⟨g, j, none⟩ := by unfold Addr.add; split <;> simp_all

theorem cellsT_at (tk : List Tok) : ∀ (j : Nat) (t : Tok), tk[j]? = some t → (cellsT tk)[j * 3]? = some (.int .i64 t.kind) ∧ (cellsT tk)[j * 3 + 1]? = some (strV t.text) ∧ (cellsT tk)[j * 3 + 2]? = some (.int .i64 t.place) := by
  induction tk with
  | nil => intro j t h; simp at h
  | cons a l ih =>
    intro j t h
    have e : cellsT (a :: l) = .int .i64 a.kind :: strV a.text :: .int .i64 a.place :: cellsT l := by simp [cellsT]
    rw [e]
    cases j with
    | zero => simp at h; subst h; simp
    | succ j =>
      have := ih j t (by simpa using h)
      have e1 : (j + 1) * 3 = j * 3 + 3 := by omega
      rw [e1]
      simpa using this

theorem own_rowT {w : World} {B : Nat} {v : Value} {tk : List Tok} (h : w.ownsRow B 50 3 v tk.length (cellsT tk)) : ∃ a c, v = .slice a tk.length c ∧ RowT w a tk := by
  rcases h.2 with ⟨h1, h2⟩ | ⟨g, cap, cur, rfl, h2, h3, h4⟩
  · refine ⟨none, 0, by rw [h1, h2], fun j t hj => ?_⟩
    have : tk = [] := List.eq_nil_of_length_eq_zero h2
    subst this; simp at hj
  · refine ⟨some ⟨g, 0, none⟩, cap, rfl, fun j t hj => ?_⟩
    have := cellsT_at tk j t hj
    have hc : ∀ j u, (cellsT tk)[j]? = some u → w.cell? ⟨g, j, none⟩ = some u := fun j u hu => by have := h.cells (g := g) rfl j u hu; rwa [add_at] at this
    refine ⟨g, 0, rfl, ?_⟩
    rw [Nat.zero_add]
    exact ⟨hc _ _ this.1, hc _ _ this.2.1, hc _ _ this.2.2⟩

end Go.Proofs.YthnjmfkiohgkkaaGreatDoor.Sy
