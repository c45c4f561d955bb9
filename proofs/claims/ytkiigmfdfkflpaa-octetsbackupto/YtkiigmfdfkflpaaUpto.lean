/- What the bound of the second form gives: how long a slice of bytes and a text among the arguments can be. -/
import Derived.Test.YtkiigmfdfkflpaaArgs
import Derived.JoinedCond
namespace Go.Proofs.Ytkiigmfdfkflpaa
open Go.ChangeShapes Go.WideShapes Go.ChangeAt Go.RowKit

theorem bulk_part {H : Type} {d : DataW H} : ∀ {l : List (DataW H)}, d ∈ l → Rows.uptoBulk d ≤ Rows.uptoBulkAll l
  | x :: r, h => by
    rw [Rows.uptoBulkAll]
    rcases List.mem_cons.1 h with e | e
    · rw [e]; omega
    · have := bulk_part e; omega

theorem bulk_pos {H : Type} (d : DataW H) : 0 < Rows.uptoBulk d := by
  cases d with
  | lit l => cases l <;> (rw [Rows.uptoBulk]; try omega)
             all_goals simp
  | _ => rw [Rows.uptoBulk]; omega

theorem bulk_count {H : Type} : ∀ l : List (DataW H), l.length ≤ Rows.uptoBulkAll l
  | [] => by simp
  | x :: r => by
    have h1 := bulk_count r
    have h2 := bulk_pos x
    rw [Rows.uptoBulkAll, List.length_cons]
    omega

theorem bulk_limit {H : Type} {l : List (DataW H)} (hk : Rows.uptoSmall H l = true) : Rows.uptoBulkAll l ≤ 1048576 := of_decide_eq_true hk

theorem bulk_text {H : Type} {l : List (DataW H)} {s : ByteArray} (hk : Rows.uptoSmall H l = true) (h : DataW.lit (.string s.data.toList) ∈ l) : s.size ≤ 1048576 := by
  have h1 := bulk_part h
  have h2 := bulk_limit hk
  rw [Rows.uptoBulk] at h1
  have e : s.data.toList.length = s.size := by rw [Array.length_toList]; rfl
  omega

/-- A slice of bytes among the arguments, under the bound. -/
theorem arg_bytes_upto {H : Type} {enc : TypeId × Value → H} {W : World} {base : Nat} {l : List (DataW H)} {v : Value} {d : DataW H} {p : List MemPlace}
    (hv : Value.okWide Try.prog W .any base 23 v) (h : DataW.Trod enc Try.prog W 0 (fun _ => true) true 23 v d p) (hk : Rows.uptoSmall H l = true) (hd : d ∈ l) :
    ∃ a len cap zs, v = .slice a len cap ∧ zs.length = len ∧ len ≤ cap ∧ len ≤ 1048576 ∧ (a = none → cap = 0) ∧ Row W a zs := by
  obtain ⟨a, len, cap, rfl⟩ := okWide_slice Try.underlying23 hv
  obtain ⟨fuel, hf⟩ := h
  rcases open_ints Try.underlying23 Try.underlying5 cells5 hf with ⟨hcs, _⟩ | ⟨x, l', c, zs, hcs, _, hl, hm, hz, hx, hcell, hwz⟩
  · simp [Value.cells] at hcs
    obtain ⟨rfl, rfl, rfl⟩ := hcs
    exact ⟨none, 0, 0, [], rfl, rfl, Nat.le_refl _, Nat.zero_le _, fun _ => rfl, ⟨fun h => absurd rfl h, by simp⟩⟩
  · simp [Value.cells] at hcs
    obtain ⟨rfl, rfl, rfl⟩ := hcs
    have hz' : zs.length = cap := by simpa using hz
    simp only [Prod.mk.injEq] at hx
    obtain ⟨rfl, rfl⟩ := hx
    have h1 := bulk_part hd
    have h2 := bulk_limit hk
    rw [Rows.uptoBulk] at h1
    have h3 := bulk_count (lits (H := H) .u8 (zs.take len))
    simp only [lits, List.length_map, List.length_take] at h1 h3
    refine ⟨some x, len, cap, zs.take len, rfl, by simp; omega, hl, by omega, by simp, row_of_cells hl hz' hcell hwz⟩

end Go.Proofs.Ytkiigmfdfkflpaa
