/- What a law's walk is told of a slice of bytes that came in: its bytes, where they lie, and that there are no more of them than the form lets in. -/
import Derived.Test.YtanonjggegibkaaOpnt
import Derived.ProofKit
import Derived.OpenShut
import Derived.ShutString
import Derived.ChangeOld
import Derived.SizedLaws
namespace Go.Proofs.Ytanonjggegibkaa
open Go.ChangeShapes Go.WideShapes Go.ChangeAt Go.RowKit

theorem bytes5 : Try.prog.bytesOf 5 = 1 := by kernel_rfl
theorem cells5 : Try.prog.cellsOf 5 = 1 := by kernel_rfl

theorem row_of_cells {w : World} {x : Addr} {len cap : Nat} {zs : List Int} (_hl : len ≤ cap) (hz : zs.length = cap) (hcell : ∀ i, i < zs.length → w.cell? (x.add i) = some (.int .u8 (zs.getD i 0))) (hwz : ∀ n ∈ zs, (Lit.int .u8 n).wf = true) :
    Row w (some x) (zs.take len) := by
  refine ⟨fun hne => ?_, bytes_getD fun z hz => bounds_u8 (hwz z (List.mem_of_mem_take hz))⟩
  have hpos : 0 < len ∧ 0 < zs.length := by
    constructor
    · rcases Nat.eq_zero_or_pos len with h | h
      · subst h; simp at hne
      · exact h
    · rcases Nat.eq_zero_or_pos zs.length with h | h
      · have := List.eq_nil_of_length_eq_zero h; subst this; simp at hne
      · exact h
  obtain ⟨b, off, spot⟩ := x
  have hc := hcell 0 hpos.2
  have hspot : spot = none := by simpa [Addr.add] using World.cell?_spot hc
  subst hspot
  refine ⟨b, off, rfl, fun i hi => ?_⟩
  have hi' : i < len ∧ i < zs.length := by rw [List.length_take] at hi; omega
  have := hcell i hi'.2
  rw [Addr.add_lit] at this
  rw [this]
  simp [List.getD, hi'.1]

set_option maxRecDepth 100000 in
/-- A slice of bytes among the arguments. -/
theorem arg_bytes {H : Type} {enc : TypeId × Value → H} {W : World} {base : Nat} {ts : List TypeId} {ds : List (DataW H)} {j : Nat} {v : Value} {d : DataW H} {p : List MemPlace}
    (hv : Value.okWide Try.prog W .any base 34 v) (h : DataW.Trod enc Try.prog W 0 (fun _ => true) true 34 v d p) (hsz : (DataW.weightsEach Try.prog ts ds).all (· ≤ reachBytes) = true) (ht : ts[j]? = some 34) (hd : ds[j]? = some d) :
    ∃ a len cap zs, v = .slice a len cap ∧ zs.length = len ∧ len ≤ cap ∧ len ≤ 140737488351232 ∧ (a = none → cap = 0) ∧ Row W a zs := by
  obtain ⟨a, len, cap, rfl⟩ := okWide_slice Try.underlying34 hv
  obtain ⟨fuel, hf⟩ := h
  rcases open_ints Try.underlying34 Try.underlying5 cells5 hf with ⟨hcs, _⟩ | ⟨x, l, c, zs, hcs, _, hl, hm, hz, hx, hcell, hwz⟩
  · simp [Value.cells] at hcs
    obtain ⟨rfl, rfl, rfl⟩ := hcs
    exact ⟨none, 0, 0, [], rfl, rfl, Nat.le_refl _, Nat.zero_le _, fun _ => rfl, ⟨fun h => absurd rfl h, by simp⟩⟩
  · simp [Value.cells] at hcs
    obtain ⟨rfl, rfl, rfl⟩ := hcs
    have hz' : zs.length = cap := by simpa using hz
    simp only [Prod.mk.injEq] at hx
    obtain ⟨rfl, rfl⟩ := hx
    have hs := sized_slice hsz ht hd Try.underlying34
    rw [bytes5] at hs
    simp only [lits, List.length_map, List.length_take, List.length_drop, reachBytes] at hs
    refine ⟨some x, len, cap, zs.take len, rfl, by simp; omega, hl, by omega, by simp, row_of_cells hl hz' hcell hwz⟩

end Go.Proofs.Ytanonjggegibkaa
