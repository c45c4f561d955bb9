/- Arguments: slices of numbers. -/
import Derived.Test.YthnjmfkiohgkkaaGreatDoorLaid5
import Derived.Test.YthnjmfkiohgkkaaGreatDoorMo
import Derived.JoinedCond
namespace Go.Proofs.YthnjmfkiohgkkaaGreatDoor
open Go.ChangeShapes Go.WideShapes Go.ChangeAt Go.RowKit

theorem nums_of_cells {w : World} {x : Addr} {len cap : Nat} {zs : List Int} (_hl : len ≤ cap) (_hz : zs.length = cap) (hcell : ∀ i, i < zs.length → w.cell? (x.add i) = some (.int .i64 (zs.getD i 0))) :
    Mo.Nums .i64 w (some x) (zs.take len) := by
  refine ⟨fun hne => ?_⟩
  have hpos : 0 < len ∧ 0 < zs.length := by
    constructor
    · rcases Nat.eq_zero_or_pos len with h | h
      · subst h; simp at hne
      · exact h
    · rcases Nat.eq_zero_or_pos zs.length with h | h
      · have := List.eq_nil_of_length_eq_zero h; subst this; simp at hne
      · exact h
  obtain ⟨b, off, spot⟩ := x
  have hc := hcell 0 hpos.2
  have hspot : spot = none := by simpa [Addr.add] using World.cell?_spot hc
  subst hspot
  refine ⟨b, off, rfl, fun i hi => ?_⟩
  have hi' : i < len ∧ i < zs.length := by rw [List.length_take] at hi; omega
  have := hcell i hi'.2
  rw [Addr.add_lit] at this
  rw [this]
  simp [List.getD, hi'.1]

theorem laidOutAll : laidOutB Tryz.prog = true := by kernel_rfl

theorem cells3 : Tryz.prog.cellsOf 3 = 1 := by kernel_rfl
theorem bytes3 : Tryz.prog.bytesOf 3 = 8 := by kernel_rfl

set_option maxRecDepth 100000 in
/-- A slice among the arguments. -/
theorem arg_ints {H : Type} {enc : TypeId × Value → H} {W : World} {base : Nat} {ts : List TypeId} {ds : List (DataW H)} {j : Nat} {v : Value} {d : DataW H} {p : List MemPlace}
    (hv : Value.okWide Tryz.prog W .any base 41 v) (h : DataW.Trod enc Tryz.prog W 0 (fun _ => true) true 41 v d p) (hsz : (DataW.weightsEach Tryz.prog ts ds).all (· ≤ reachBytes) = true) (ht : ts[j]? = some 41) (hd : ds[j]? = some d) :
    ∃ a len cap zs, v = .slice a len cap ∧ zs.length = len ∧ len ≤ cap ∧ len ≤ 140737488351232 ∧ (a = none → cap = 0) ∧ Mo.Nums .i64 W a zs := by
  obtain ⟨a, len, cap, rfl⟩ := okWide_slice Tryz.underlying41 hv
  obtain ⟨fuel, hf⟩ := h
  rcases open_ints Tryz.underlying41 Tryz.underlying3 cells3 hf with ⟨hcs, _⟩ | ⟨x, l, c, zs, hcs, _, hl, hm, hz, hx, hcell, hwz⟩
  · simp [Value.cells] at hcs
    obtain ⟨rfl, rfl, rfl⟩ := hcs
    exact ⟨none, 0, 0, [], rfl, rfl, Nat.le_refl _, Nat.zero_le _, fun _ => rfl, ⟨fun h => absurd rfl h⟩⟩
  · simp [Value.cells] at hcs
    obtain ⟨rfl, rfl, rfl⟩ := hcs
    have hz' : zs.length = cap := by simpa using hz
    simp only [Prod.mk.injEq] at hx
    obtain ⟨rfl, rfl⟩ := hx
    have hs := sized_slice hsz ht hd Tryz.underlying41
    rw [bytes3] at hs
    simp only [lits, List.length_map, List.length_take, List.length_drop, reachBytes] at hs
    refine ⟨some x, len, cap, zs.take len, rfl, by simp; omega, hl, ?_, by simp, nums_of_cells hl hz' hcell⟩
    omega

end Go.Proofs.YthnjmfkiohgkkaaGreatDoor
