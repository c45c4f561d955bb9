/- Texts among the arguments; what Add's answers come to. -/
import Derived.Test.YtijpdoclmplclaaAlive
import Derived.SliceStrings
import Derived.WalkKit
import Derived.ProofKit
import Derived.OpenShut
import Derived.ChangeOld
import Derived.SizedLaws
namespace Go.Proofs.Ytijpdoclmplclaa
open Go.RowKit Go.Shelf Go.Maps

/-- The texts of a slice among the arguments. -/
def Texts (w : World) (a : Option Addr) (n : Nat) : Prop := ∀ i, i < n → ∃ g o s, a = some ⟨g, o, none⟩ ∧ w.cell? ⟨g, o + i, none⟩ = some (.string s) ∧ g < w.heap.size ∧ s.size ≤ maxLen
theorem Texts.below {w w' : World} {a : Option Addr} {n : Nat} (h : Texts w a n) (hb : Below w.heap.size w w') : Texts w' a n := by
  intro i hi
  obtain ⟨g, o, s, e, hc, hg, hs⟩ := h i hi
  exact ⟨g, o, s, e, (World.cell?_of_block (hb.block g hg)).trans hc, Nat.lt_of_lt_of_le hg hb.size, hs⟩

theorem cellsS : Try.prog.cellsOf 9 = 1 := by kernel_rfl
theorem bytesS : Try.prog.bytesOf 9 = 16 := by kernel_rfl
section
open Go.ChangeShapes Go.WideShapes Go.ChangeAt
set_option maxRecDepth 100000 in
/-- A slice of texts among the arguments. -/
theorem arg_texts {H : Type} {enc : TypeId × Value → H} {W : World} {base : Nat} {ts : List TypeId} {ds : List (DataW H)} {j : Nat} {v : Value} {d : DataW H} {p : List MemPlace}
    (hv : Value.okWide Try.prog W .any base 39 v) (h : DataW.Trod enc Try.prog W 0 (fun _ => true) true 39 v d p) (hsz : (DataW.weightsEach Try.prog ts ds).all (· ≤ reachBytes) = true) (ht : ts[j]? = some 39) (hd : ds[j]? = some d) :
    ∃ a len cap, v = .slice a len cap ∧ len ≤ 140737488351232 ∧ Texts W a len := by
  obtain ⟨a, len, cap, rfl⟩ := okWide_slice Try.underlying39 hv
  obtain ⟨fuel, hf⟩ := h
  rcases open_strings Try.underlying39 Try.underlying9 cellsS hf with ⟨hcs, _⟩ | ⟨x, l, c, zs, hcs, _, hl, hm, hz, hx, hcell, hwz⟩
  · simp [Value.cells] at hcs
    obtain ⟨rfl, rfl, rfl⟩ := hcs
    exact ⟨none, 0, 0, rfl, Nat.zero_le _, fun i hi => by omega⟩
  · simp [Value.cells] at hcs
    obtain ⟨rfl, rfl, rfl⟩ := hcs
    have hz' : zs.length = cap := by simpa using hz
    simp only [Prod.mk.injEq] at hx
    obtain ⟨rfl, rfl⟩ := hx
    have hs := sized_slice hsz ht hd Try.underlying39
    rw [bytesS] at hs
    simp only [ChangeShapes.strs, List.length_map, List.length_take, List.length_drop, reachBytes] at hs
    refine ⟨some x, len, cap, rfl, by omega, fun i hi => ?_⟩
    obtain ⟨b, off, spot⟩ := x
    have hc := hcell i (by omega)
    have hc0 := hcell 0 (by omega)
    have hspot : spot = none := by simpa [Addr.add] using World.cell?_spot hc0
    subst hspot
    have hc2 : W.cell? ⟨b, off + i, none⟩ = some (.string (zs.getD i ByteArray.empty)) := by
      rw [← hc]
      congr 1
      unfold Addr.add
      by_cases e : i = 0 <;> simp [e]
    refine ⟨b, off, _, rfl, hc2, World.block_lt_of_cell? W ⟨b, off + i, none⟩ hc2, hwz _ ?_⟩
    rw [List.getD_eq_getElem?_getD, List.getElem?_eq_getElem (by omega)]
    simp
end

theorem num_any (e : Int) (w : World) : Calls Try.prog 13 #[.int .i64 e] w fun r w' => r = .returned (.int .i64 e) ∧ w' = w := by
  go_enter Try.func13, Try.ntmps13
  go_wp2
  go_ret
  exact ⟨rfl, rfl⟩

/-- Where Add answers a number. -/
theorem add_ok {most : Int} {l : List Bytes} {s : Bytes} (h : (addM most l s).2.1 = 0) : isNameB s = true ∧ s ∈ (addM most l s).2.2 ∧ (addM most l s).1 = posB (addM most l s).2.2 s := by
  unfold addM at h ⊢
  by_cases h1 : isNameB s = false
  · rw [if_pos h1] at h; cases h
  · rw [if_neg h1] at h ⊢
    refine ⟨by simpa using h1, ?_⟩
    by_cases h2 : s ∈ l
    · rw [if_pos h2]; exact ⟨h2, rfl⟩
    · rw [if_neg h2] at h ⊢
      by_cases h3 : (l.length : Int) = most
      · rw [if_pos h3] at h; cases h
      · rw [if_neg h3]
        refine ⟨by simp, ?_⟩
        show (l.length : Int) = (posB (l ++ [s]) s : Nat)
        unfold posB
        rw [if_pos (by simp), List.idxOf_append, if_neg h2]
        simp
theorem add_again {most : Int} {l : List Bytes} {s : Bytes} (h : isNameB s = true) (hm : s ∈ l) : addM most l s = ((posB l s : Int), 0, l) := by
  unfold addM
  rw [if_neg (by rw [h]; simp), if_pos hm]
theorem name_pos {l : List Bytes} {s : Bytes} (hm : s ∈ l) : nameM l (posB l s) = (s, 0) := by
  unfold nameM posB
  rw [if_pos hm, if_pos ⟨by omega, by have := List.idxOf_lt_length_of_mem hm; omega⟩]
  have := List.idxOf_lt_length_of_mem hm
  simp [List.getD, this]
end Go.Proofs.Ytijpdoclmplclaa
