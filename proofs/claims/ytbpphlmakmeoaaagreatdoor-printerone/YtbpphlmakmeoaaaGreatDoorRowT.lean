import Derived.Test.YtbpphlmakmeoaaaGreatDoorScanAll
namespace Go.Proofs.YtbpphlmakmeoaaaGreatDoor.Sy
open Go.RowKit
def L9 (w : World) (a : Option Addr) (tk : List fw) : Prop :=
 ∀ j t, tk[j]? = some t → ∃ b o, a = some ⟨b, o, none⟩ ∧ w.cell? ⟨b, o + j * 3, none⟩ = some (.int .i64 t.kind) ∧ w.cell? ⟨b, o + j * 3 + 1, none⟩ = some (kh t.text) ∧ w.cell? ⟨b, o + j * 3 + 2, none⟩ = some (.int .i64 t.place)
theorem J3 (g j : Nat) : (⟨g, 0, none⟩ : Addr).add j = ⟨g, j, none⟩ := by unfold Addr.add; split <;> simp_all
theorem wg (tk : List fw) : ∀ (j : Nat) (t : fw), tk[j]? = some t → (hX tk)[j * 3]? = some (.int .i64 t.kind) ∧ (hX tk)[j * 3 + 1]? = some (kh t.text) ∧ (hX tk)[j * 3 + 2]? = some (.int .i64 t.place) := by
 induction tk with
 | nil => intro j t h; simp at h
 | cons a l ih =>
  intro j t h
  have e : hX (a :: l) = .int .i64 a.kind :: kh a.text :: .int .i64 a.place :: hX l := by simp [hX]
  rw [e]
  cases j with
  | zero => simp at h; subst h; simp
  | succ j =>
   have := ih j t (by simpa using h)
   have e1 : (j + 1) * 3 = j * 3 + 3 := by omega
   rw [e1]
   simpa using this
theorem yG {w : World} {B : Nat} {v : Value} {tk : List fw} (h : w.ownsRow B 188 3 v tk.length (hX tk)) : ∃ a c, v = .slice a tk.length c ∧ L9 w a tk := by
 rcases h.2 with ⟨h1, h2⟩ | ⟨g, Aa, Ab, rfl, h2, h3, h4⟩
 · refine ⟨none, 0, by rw [h1, h2], fun j t hj => ?_⟩
   have : tk = [] := List.eq_nil_of_length_eq_zero h2
   subst this; simp at hj
 · refine ⟨some ⟨g, 0, none⟩, Aa, rfl, fun j t hj => ?_⟩
   have := wg tk j t hj
   have hc : ∀ j u, (hX tk)[j]? = some u → w.cell? ⟨g, j, none⟩ = some u := fun j u hu => by have := h.cells (g := g) rfl j u hu; rwa [J3] at this
   refine ⟨g, 0, rfl, ?_⟩
   rw [Nat.zero_add]
   exact ⟨hc _ _ this.1, hc _ _ this.2.1, hc _ _ this.2.2⟩
end Go.Proofs.YtbpphlmakmeoaaaGreatDoor.Sy
