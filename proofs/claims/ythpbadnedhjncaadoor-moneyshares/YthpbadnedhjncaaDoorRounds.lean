/- The program's table of roundings: a map of six functions, made anew at each call, and what is found in it. -/
import Derived.Test.YthpbadnedhjncaaDoorFrac
import Derived.MapKept
import Derived.Carry
namespace Go.Proofs.YthpbadnedhjncaaDoor
open Go.RowKit Go.MapKept

theorem setObj_new (w : World) (o o' : Obj) : ({ (w.alloc o) with heap := (w.alloc o).heap.setIfInBounds w.heap.size o' } : World) = w.alloc o' := by
  have h : (w.heap.push o).setIfInBounds w.heap.size o' = w.heap.push o' := by
    apply Array.ext
    · simp
    · intro i h1 h2
      simp at h1
      rw [Array.getElem_setIfInBounds (by simpa using h1), Array.getElem_push, Array.getElem_push]
      split <;> split <;> first | rfl | omega
  show ({ (w.alloc o) with heap := (w.heap.push o).setIfInBounds w.heap.size o' } : World) = _
  rw [h]
  rfl

theorem upd_new (w : World) (es : Array MapEntry) (c : Nat) (k : Int) (v : Value) (hf : Instr.findNow (.int .i64) (.int .i64 k) es.toList 0 = some none) :
    (Instr.mapUpdate 74 (.map (some w.heap.size)) (.int .i64 k) v).run Tryd.prog (w.alloc (.map es c)) = .ok () (w.alloc (.map (es.push ⟨.int .i64 k, v, c⟩) (c + 1))) := by
  have h1 := Go.MapKept.run_findKey (P := Tryd.prog) (w := w.alloc (.map es c)) (kt := 47) (k := .int .i64 k) (l := es.toList) Tryd.underlying47 hf
  have h2 : (w.alloc (.map es c)).heap[w.heap.size]? = some (.map es c) := heap_alloc_new w _
  have h3 : (Instr.checkKey false 10000 47 (.int .i64 k)).run Tryd.prog (w.alloc (.map es c)) = .ok () (w.alloc (.map es c)) := run_checkKey (P := Tryd.prog) (w := w.alloc (.map es c)) (kt := 47) (k := .int .i64 k) Tryd.underlying47 (by simp [IsKey]) false 9999
  have h4 := run_setObj_map (P := Tryd.prog) (.map (es.push ⟨.int .i64 k, v, c⟩) (c + 1)) h2
  rw [setObj_new] at h4
  unfold Instr.mapUpdate
  simp only [Sem.run_bind, run_underlying Tryd.underlying74, Result.andThen, Go.MapKept.run_getObj_map h2, h3, h1, h4]

def fnV (n : Nat) : Value := .func (.func n) #[] #[]

def roundEs : Array MapEntry := #[⟨.int .i64 1, fnV 52, 0⟩, ⟨.int .i64 2, fnV 53, 1⟩, ⟨.int .i64 3, fnV 54, 2⟩, ⟨.int .i64 4, fnV 55, 3⟩, ⟨.int .i64 5, fnV 56, 4⟩, ⟨.int .i64 6, fnV 57, 5⟩]

set_option maxRecDepth 100000 in
set_option maxHeartbeats 1000000 in
theorem roundings_any (w : World) : Calls Tryd.prog 41 #[] w fun e w' => e = .returned (.map (some w.heap.size)) ∧ w' = w.alloc (.map roundEs 6) := by
  have k0 := run_makeMap (P := Tryd.prog) 74
  have k1 := upd_new w #[] 0 1 (fnV 52) rfl
  have k2 := upd_new w #[⟨.int .i64 1, fnV 52, 0⟩] 1 2 (fnV 53) rfl
  have k3 := upd_new w #[⟨.int .i64 1, fnV 52, 0⟩, ⟨.int .i64 2, fnV 53, 1⟩] 2 3 (fnV 54) rfl
  have k4 := upd_new w #[⟨.int .i64 1, fnV 52, 0⟩, ⟨.int .i64 2, fnV 53, 1⟩, ⟨.int .i64 3, fnV 54, 2⟩] 3 4 (fnV 55) rfl
  have k5 := upd_new w #[⟨.int .i64 1, fnV 52, 0⟩, ⟨.int .i64 2, fnV 53, 1⟩, ⟨.int .i64 3, fnV 54, 2⟩, ⟨.int .i64 4, fnV 55, 3⟩] 4 5 (fnV 56) rfl
  have k6 := upd_new w #[⟨.int .i64 1, fnV 52, 0⟩, ⟨.int .i64 2, fnV 53, 1⟩, ⟨.int .i64 3, fnV 54, 2⟩, ⟨.int .i64 4, fnV 55, 3⟩, ⟨.int .i64 5, fnV 56, 4⟩] 5 6 (fnV 57) rfl
  have HE : Hid (roundEs = #[⟨.int .i64 1, fnV 52, 0⟩, ⟨.int .i64 2, fnV 53, 1⟩, ⟨.int .i64 3, fnV 54, 2⟩, ⟨.int .i64 4, fnV 55, 3⟩, ⟨.int .i64 5, fnV 56, 4⟩, ⟨.int .i64 6, fnV 57, 5⟩]) := rfl
  simp only [List.push_toArray, List.cons_append, List.nil_append, Nat.reduceAdd] at k1 k2 k3 k4 k5 k6
  unfold fnV at *
  go_enter Tryd.func41, Tryd.ntmps41
  go_wp2
  go_ret
  exact ⟨rfl, by rw [HE.out]⟩

theorem look_table (w : World) (b : Nat) (k : Int) (z : Value) (hb : w.heap[b]? = some (.map roundEs 6)) (hz : (zeroValue 72).run Tryd.prog w = .ok z w) (a : Option (Nat × Value)) (hf : Instr.findNow (.int .i64) (.int .i64 k) roundEs.toList 0 = some a) :
    (Instr.lookup 74 (.map (some b)) (.int .i64 k) true).run Tryd.prog w = .ok (match a with | some (_, v) => .tuple #[v, .bool true] | none => .tuple #[z, .bool false]) w := by
  have h1 := Go.MapKept.run_findKey (P := Tryd.prog) (w := w) (kt := 47) (k := .int .i64 k) (l := roundEs.toList) Tryd.underlying47 hf
  have h3 : (Instr.checkKey roundEs.isEmpty 10000 47 (.int .i64 k)).run Tryd.prog w = .ok () w := run_checkKey (P := Tryd.prog) (w := w) (kt := 47) (k := .int .i64 k) Tryd.underlying47 (by simp [IsKey]) _ 9999
  unfold Instr.lookup
  cases a with
  | none => simp only [Sem.run_bind, run_underlying Tryd.underlying74, Result.andThen, Go.MapKept.run_getObj_map hb, h3, h1, hz, Sem.run_pure]; rfl
  | some x => simp only [Sem.run_bind, run_underlying Tryd.underlying74, Result.andThen, Go.MapKept.run_getObj_map hb, h3, h1, Sem.run_pure]; rfl

theorem find_none (k : Int) (h : k < 1 ∨ 6 < k) : Instr.findNow (.int .i64) (.int .i64 k) roundEs.toList 0 = some none := by
  have e : ∀ j : Int, 1 ≤ j → j ≤ 6 → (k == j) = false := fun j h1 h2 => by simp; omega
  simp [roundEs, Instr.findNow, Instr.sameNow]
  simp [e]

/-- What is found in the table: the rounding's function, or nothing. -/
theorem look_yes (w : World) (b : Nat) (k : Int) (n : Nat) (hb : w.heap[b]? = some (.map roundEs 6)) (h : k = 1 ∧ n = 52 ∨ k = 2 ∧ n = 53 ∨ k = 3 ∧ n = 54 ∨ k = 4 ∧ n = 55 ∨ k = 5 ∧ n = 56 ∨ k = 6 ∧ n = 57) :
    (Instr.lookup 74 (.map (some b)) (.int .i64 k) true).run Tryd.prog w = .ok (.tuple #[fnV n, .bool true]) w := by
  rcases h with ⟨rfl, rfl⟩ | ⟨rfl, rfl⟩ | ⟨rfl, rfl⟩ | ⟨rfl, rfl⟩ | ⟨rfl, rfl⟩ | ⟨rfl, rfl⟩
  · exact look_table w b 1 .nilFunc hb (Tryd.zeroValue72 w) (some (0, fnV 52)) rfl
  · exact look_table w b 2 .nilFunc hb (Tryd.zeroValue72 w) (some (1, fnV 53)) rfl
  · exact look_table w b 3 .nilFunc hb (Tryd.zeroValue72 w) (some (2, fnV 54)) rfl
  · exact look_table w b 4 .nilFunc hb (Tryd.zeroValue72 w) (some (3, fnV 55)) rfl
  · exact look_table w b 5 .nilFunc hb (Tryd.zeroValue72 w) (some (4, fnV 56)) rfl
  · exact look_table w b 6 .nilFunc hb (Tryd.zeroValue72 w) (some (5, fnV 57)) rfl

theorem look_no (w : World) (b : Nat) (k : Int) (hb : w.heap[b]? = some (.map roundEs 6)) (h : k < 1 ∨ 6 < k) :
    (Instr.lookup 74 (.map (some b)) (.int .i64 k) true).run Tryd.prog w = .ok (.tuple #[.nilFunc, .bool false]) w :=
  look_table w b k .nilFunc hb (Tryd.zeroValue72 w) none (find_none k h)

/-- The rounding's function, whatever it is: what it answers. -/
theorem round_any (k : Int) (n : Nat) (h : k = 1 ∧ n = 52 ∨ k = 2 ∧ n = 53 ∨ k = 3 ∧ n = 54 ∨ k = 4 ∧ n = 55 ∨ k = 5 ∧ n = 56 ∨ k = 6 ∧ n = 57) (b : Bool) (q r d : Int) (w : World) (h0 : 0 ≤ q) (h1 : q ≤ 1000000000000000) (hr : 0 ≤ r) (hr1 : r < 1000000000) :
    Calls Tryd.prog n #[fracV b q r d] w fun e w' => e = .returned (.int .u64 (rndM k b q r d)) ∧ Below w.heap.size w w' := by
  rcases h with ⟨rfl, rfl⟩ | ⟨rfl, rfl⟩ | ⟨rfl, rfl⟩ | ⟨rfl, rfl⟩ | ⟨rfl, rfl⟩ | ⟨rfl, rfl⟩
  · exact down_any b q r d w
  · exact up_any b q r d w h0 h1
  · exact floor_any b q r d w h0 h1
  · exact ceil_any b q r d w h0 h1
  · exact half_any b q r d w h0 h1 hr hr1
  · exact even_any b q r d w h0 h1 hr hr1

end Go.Proofs.YthpbadnedhjncaaDoor
