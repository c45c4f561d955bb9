/- What is done once: the list by name is laid into the table. -/
import Derived.Test.YtijpdoclmplclaaBy
import Derived.Deep.RegionHeld3
namespace Go.Proofs.Ytijpdoclmplclaa
open Go.RowKit Go.Shelf Go.Maps Go.WideMaps Go.Lib Go.Sort

set_option maxRecDepth 100000 in
set_option maxHeartbeats 3200000 in
theorem srt1_any {l : List Bytes} {nv sv : Value} {w : World} {B b : Nat} (hrow : w.ownsRow 0 9 1 nv l.length (strs l)) (hl : l.length ≤ 4096) (hn : l.Nodup)
    (hp : w.cell? ⟨b, 0, none⟩ = some (ptr B)) (c1 : w.cell? ⟨B, 1, none⟩ = some nv) (c6 : w.cell? ⟨B, 6, none⟩ = some sv) (f6 : w.frozen? ⟨B, 6, none⟩ = false) (hB : B < w.heap.size) :
    Calls Try.prog 41 #[.pointer (some ⟨b, 0, none⟩)] w fun e w' => e = .returned (.tuple #[]) ∧
      ∃ w2 v, Below w.heap.size w w2 ∧ w2.ownsRow w.heap.size 3 1 v l.length (ints (srt l)) ∧ w' = w2.setCell ⟨B, 6, none⟩ v := by
  have CB : Hid (∀ W : World, W.heap = w.heap → W.os = w.os → W.tape = w.tape → W.output = w.output → Calls Try.prog 42 #[nv] W fun e w' => ∃ va vc, e = .returned (.slice va l.length vc) ∧ Hid (w'.ownsRow w.heap.size 3 1 (.slice va l.length vc) l.length (ints (srt l))) ∧ Hid (Below w.heap.size w w') ∧ w'.cell? ⟨b, 0, none⟩ = some (ptr B) ∧ w'.cell? ⟨B, 1, none⟩ = some nv ∧ w'.cell? ⟨B, 6, none⟩ = some sv ∧ w'.frozen? ⟨B, 6, none⟩ = false) := by
    intro W h1 h2 h3 h4
    have hr : W.ownsRow 0 9 1 nv l.length (strs l) := owns_keep hrow fun g _ => by rw [h1]
    refine (byName_any hr hl hn).mono ?_
    rintro e w' ⟨v, rfl, hv, hb⟩
    rw [h1] at hv hb
    have hB' : Below w.heap.size w w' := ⟨hb.os.trans h2, hb.tape.trans h3, hb.output.trans h4, by rw [← h1]; exact hb.size, fun k hk => by rw [hb.block k hk, h1]⟩
    have hbl : b < w.heap.size := by
      apply Classical.byContradiction
      intro hn
      simp [World.cell?, Array.getElem?_eq_none (show w.heap.size ≤ b by omega)] at hp
    obtain ⟨va, vc, rfl⟩ := owns_slice hv
    exact ⟨va, vc, rfl, hide hv, hide hB', (World.cell?_of_block (hB'.block b hbl)).trans hp, (World.cell?_of_block (hB'.block B hB)).trans c1, (World.cell?_of_block (hB'.block B hB)).trans c6, (World.frozen?_of_block (hB'.block B hB)).trans f6⟩
  obtain ⟨ta, tc, rfl⟩ := owns_slice hrow
  clear hrow hn
  go_enter Try.func41, Try.ntmps41
  go_wp2_with fail
  go_region_with (go_at_call 42; refine (CB.out w.drew rfl rfl rfl rfl).mono ?_; rintro e w1 ⟨va, vc, rfl, hv, hb, k0, k1, k6, kf⟩)
  all_goals (go_wp2_with fail; go_end0; exact ⟨rfl, w1, _, hb.out, hv.out, rfl⟩)
end Go.Proofs.Ytijpdoclmplclaa
