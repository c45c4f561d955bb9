/- The document's Share: what it answers, whatever it is given. -/
import Derived.Test.YthpbadnedhjncabGreatDoorSharePlain
namespace Go.Proofs.YthpbadnedhjncabGreatDoor
open Go.RowKit

theorem infoI64' : (Tryz.prog.info? 2).map (fun i => (i.zero, i.size, i.bytes)) = some (some (.int .i64 0), 1, 8) := by kernel_rfl

/-- What Share's answer is. -/
def ShareEnds (w : World) (t : Int) (zs : List Int) (e : Ending) (w' : World) : Prop :=
  ∃ x n cx, e = .returned (.tuple #[.slice x n cx, .int .i64 (shareErr t zs)]) ∧ n = (shareM t zs).length ∧ (shareErr t zs ≠ 0 → x = none ∧ cx = 0) ∧ w'.ownsRow w.heap.size 22 1 (.slice x n cx) n ((shareM t zs).map (Value.int .i64)) ∧ Below w.heap.size w w'

theorem share_bad {w : World} {t : Int} {zs : List Int} {c : Int} (h : shareErr t zs = c) (hc : c ≠ 0) {w' : World} (hb : Below w.heap.size w w') : ShareEnds w t zs (.returned (.tuple #[.slice none 0 0, .int .i64 c])) w' := by
  have hm : shareM t zs = [] := by unfold shareM; rw [if_neg (by rw [h]; exact hc)]
  refine ⟨none, 0, 0, by rw [h], by rw [hm]; rfl, fun _ => ⟨rfl, rfl⟩, ?_, hb⟩
  rw [hm]
  exact World.ownsRow_nil _ _ _ _

theorem share_ok {w : World} {t : Int} {zs : List Int} (h : shareErr t zs = 0) {x : Option Addr} {n cx : Nat} {os : List Int} (ho : shareOut t zs = os) {w' : World} (hl : n = os.length) (hr : w'.ownsRow w.heap.size 22 1 (.slice x n cx) n (os.map (Value.int .i64))) (hb : Below w.heap.size w w') : ShareEnds w t zs (.returned (.tuple #[.slice x n cx, .int .i64 0])) w' := by
  have hm : shareM t zs = os := by unfold shareM; rw [if_pos h, ho]
  exact ⟨x, n, cx, by rw [h], by rw [hm]; exact hl, fun hh => absurd h hh, by rw [hm]; exact hr, hb⟩

theorem err_t {t : Int} {zs : List Int} (h : t < 0 ∨ may t = false) : shareErr t zs = 22 := by unfold shareErr; rw [if_pos h]
theorem err_n {t : Int} {zs : List Int} (h0 : 0 ≤ t) (h : may t = true) (hn : zs.length = 0 ∨ 4096 < zs.length) : shareErr t zs = 3 := by unfold shareErr; rw [if_neg (by rw [h]; simp; omega), if_pos hn]
theorem err_w {t : Int} {zs : List Int} (h0 : 0 ≤ t) (h : may t = true) (hn : 1 ≤ zs.length ∧ zs.length ≤ 4096) {c : Int} (hc : c ∈ zs) (hf : ¬ fitW c) : shareErr t zs = 4 := by unfold shareErr; rw [if_neg (by rw [h]; simp; omega), if_neg (by omega), if_pos (fun hh => hf (hh c hc))]
theorem err_s {t : Int} {zs : List Int} (h0 : 0 ≤ t) (h : may t = true) (hn : 1 ≤ zs.length ∧ zs.length ≤ 4096) (hf : ∀ z ∈ zs, fitW z) (hs : zs.sum = 0) : shareErr t zs = 1 := by unfold shareErr; rw [if_neg (by rw [h]; simp; omega), if_neg (by omega), if_neg (by simpa using hf), if_pos hs]
theorem err_0 {t : Int} {zs : List Int} (h0 : 0 ≤ t) (h : may t = true) (hn : 1 ≤ zs.length ∧ zs.length ≤ 4096) (hf : ∀ z ∈ zs, fitW z) (hs : zs.sum ≠ 0) : shareErr t zs = 0 := by unfold shareErr; rw [if_neg (by rw [h]; simp; omega), if_neg (by omega), if_neg (by simpa using hf), if_neg hs]

end Go.Proofs.YthpbadnedhjncabGreatDoor
