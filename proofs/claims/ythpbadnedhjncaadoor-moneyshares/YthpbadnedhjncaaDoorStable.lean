/- slices.SortStableFunc on places, by the program's closure: rows of fewer than twenty places. -/
import Derived.Test.YthpbadnedhjncaaDoorCmp
namespace Go.Proofs.YthpbadnedhjncaaDoor
open Go.RowKit Go.Shelf Go.Lib Go.Sort

/-- A place, as a cell bears it. -/
def encP {k : Nat} (x : Fin (k + 1)) : Value := .int .i64 (x.val : Int)

/-- What the closure answers of two places. -/
def cfP {k : Nat} (r : Nat → Nat) (x y : Fin (k + 1)) : Int := cmpM (r y.val : Int) (r x.val : Int)

theorem encP_one {k : Nat} : OneCell (encP (k := k)) := by
  intro x
  rfl

theorem cell_sortWorld {α : Type} [Inhabited α] (enc : α → Value) (w : World) (blk off m : Nat) (dk : Array α) (os : Array Obj) (b i : Nat) (hb : b ≠ blk) (hlt : b < w.heap.size) :
    (sortWorld enc w blk off m dk os).cell? ⟨b, i, none⟩ = w.cell? ⟨b, i, none⟩ := by
  unfold sortWorld
  rw [cell?_grow _ _ _ (by rw [size_putRow]; exact hlt), cell?_putRow_other enc _ blk off _ _ (Or.inl hb)]
  rfl

theorem cmp_lays {k : Nat} (r : Nat → Nat) (w0 : World) (blk p q c : Nat) (hpb : p ≠ blk) (hqb : q ≠ blk) (hp : w0.cell? ⟨p, 0, none⟩ = some (.slice (some ⟨q, 0, none⟩) (k + 1) c))
    (hq : ∀ i, i < k + 1 → w0.cell? ⟨q, i, none⟩ = some (.int .u64 (r i : Int))) : CmpLays1 Tryd.prog 62 #[.pointer (some ⟨p, 0, none⟩)] (encP (k := k)) (cfP r) blk 0 (k + 1) w0 := by
  intro m os dk hs x y
  have hp0 := World.block_lt_of_cell? _ _ hp
  have hq0 := World.block_lt_of_cell? _ _ (hq 0 (by omega))
  refine (closure_any (sortWorld encP w0 blk 0 m dk os) x.val y.val p q (k + 1) c (r x.val) (r y.val) x.isLt y.isLt ?_ ?_ ?_).mono ?_
  · intro m' os'; rw [sortWorld_grown_c, cell_sortWorld _ _ _ _ _ _ _ _ _ hpb hp0]; exact hp
  · intro m' os'; rw [sortWorld_grown_c, cell_sortWorld _ _ _ _ _ _ _ _ _ hqb hq0]; exact hq _ x.isLt
  · intro m' os'; rw [sortWorld_grown_c, cell_sortWorld _ _ _ _ _ _ _ _ _ hqb hq0]; exact hq _ y.isLt
  · rintro e w' ⟨rfl, h⟩
    exact ⟨rfl, h⟩

set_option maxRecDepth 100000 in
set_option maxHeartbeats 2000000 in
theorem stable_small {k : Nat} (cf : Fin (k + 1) → Fin (k + 1) → Int) (g : Nat) (cb : Array Value) (blk cap : Nat) (d0 d : Array (Fin (k + 1))) (w0 w : World)
    (eg : ∀ args w, (callFunc g args).run Tryd.prog w = .ok (.enter g args) w) (hcmp : CmpLays1 Tryd.prog g cb encP cf blk 0 d0.size w0) (R : Row1 encP w0 blk 0 d0) (hs : d0.size = d.size) (S : SW encP w0 blk 0 d w) (hd : d.size < 20) :
    Calls Tryd.prog 72 #[.slice (some ⟨blk, 0, none⟩) d.size cap, .int .i64 d.size, .func (.func g) #[] cb] w fun e w' => e = .returned (.tuple #[]) ∧ SW encP w0 blk 0 (Sort.insertionSort (ltOf cf) d 0 d.size) w' := by
  have CI := hide (Tryd.insertionSortCmpFunc_s encP cf g cb blk 0 cap 0 d.size d0 d w0 w eg hcmp R hs S (by omega) (Nat.le_refl _) (by omega))
  clear S R hcmp eg
  go_enter Tryd.func72, Tryd.ntmps72
  go_wp2_with fail
  have h1 : ¬ (20 : Int) ≤ (d.size : Int) := by omega
  have h2 : ¬ (20 : Int) < (d.size : Int) := by omega
  refine wp_loop_rounds 1 ?_
  rw [rounds_succ]
  go_wp2_with (go_at_call 83; refine CI.out.mono ?_; rintro e w1 ⟨rfl, hS⟩)
  refine wp_loop_rounds 1 ?_
  rw [rounds_succ]
  go_wp2
  go_end0
  exact ⟨rfl, hS⟩

theorem sortStable_small {k : Nat} (cf : Fin (k + 1) → Fin (k + 1) → Int) (g : Nat) (cb : Array Value) (blk cap : Nat) (d0 d : Array (Fin (k + 1))) (w0 w : World)
    (eg : ∀ args w, (callFunc g args).run Tryd.prog w = .ok (.enter g args) w) (hcmp : CmpLays1 Tryd.prog g cb encP cf blk 0 d0.size w0) (R : Row1 encP w0 blk 0 d0) (hs : d0.size = d.size) (S : SW encP w0 blk 0 d w) (hd : d.size < 20) :
    Calls Tryd.prog 61 #[.slice (some ⟨blk, 0, none⟩) d.size cap, .func (.func g) #[] cb] w fun e w' => e = .returned (.tuple #[]) ∧ SW encP w0 blk 0 (Sort.insertionSort (ltOf cf) d 0 d.size) w' := by
  have CI := hide (stable_small cf g cb blk cap d0 d w0 w eg hcmp R hs S hd)
  clear S R hcmp eg
  go_enter Tryd.func61, Tryd.ntmps61
  go_wp2_with (go_at_call 72; refine CI.out.mono ?_; rintro e w1 ⟨rfl, hS⟩)
  go_end0
  exact ⟨rfl, hS⟩

end Go.Proofs.YthpbadnedhjncaaDoor
