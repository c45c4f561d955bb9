/- So many months on: the program's and the document's. -/
import Derived.Test.YtnafhjmeofddoaaAlive
namespace Go.Proofs.Ytnafhjmeofddoaa
open Go.RowKit

theorem months_any (y m d : Int) (w : World) (h1 : 1 ≤ y) (h2 : y ≤ 9999) (h3 : 1 ≤ m) (h4 : m ≤ 12) :
    Calls Try.prog 39 #[aggD y m d] w fun e w' => e = .returned (.int .i64 ((y - 1) * 12 + m - 1)) ∧ Below w.heap.size w w' := by
  unfold aggD
  go_enter Try.func39, Try.ntmps39
  go_wp2
  go_ret
  exact ⟨rfl, (Below.refl _ _).alloc (Nat.le_refl _) _⟩

/-- A day, or the month's last. -/
def cutD (Y M d : Int) : Int := if mlen Y M < d then mlen Y M else d

/-- A day's box, and behind it a box for an answer. -/
abbrev Two (B : Nat) (w : World) (y m d : Int) (W : World) : Prop :=
  Box B w y m d W ∧ W.cell? ⟨B + 1, 0, none⟩ = some (.int .i64 0) ∧ W.cell? ⟨B + 1, 1, none⟩ = some (.int .i64 0) ∧ W.cell? ⟨B + 1, 2, none⟩ = some (.int .i64 0) ∧ B + 1 < W.heap.size ∧ ∀ o, W.frozen? ⟨B + 1, o, none⟩ = false

theorem Two.mk {w : World} {y m d : Int} : Two w.heap.size w y m d ((w.alloc (.cells #[.int .i64 y, .int .i64 m, .int .i64 d] 53)).alloc (.cells #[.int .i64 0, .int .i64 0, .int .i64 0] 53)) := by
  have hb := Box.mk (w := w) (y := y) (m := m) (d := d)
  generalize hW : w.alloc (.cells #[.int .i64 y, .int .i64 m, .int .i64 d] 53) = W at hb ⊢
  have hs : w.heap.size + 1 = W.heap.size := by rw [← hW]; simp
  refine ⟨hb.below ((Below.refl _ _).alloc (Nat.le_refl _) _), ?_, ?_, ?_, ?_, ?_⟩
  · rw [hs]; simp
  · rw [hs]; simp
  · rw [hs]; simp
  · rw [hs]; simp
  · intro o; rw [hs]; simp

theorem Two.below {B : Nat} {w W W' : World} {y m d : Int} (h : Two B w y m d W) (hb : Below W.heap.size W W') : Two B w y m d W' := by
  obtain ⟨h0, h1, h2, h3, h4, h5⟩ := h
  obtain ⟨hc, hf⟩ := bcell hb
  exact ⟨h0.below hb, by rw [hc _ _ h4]; exact h1, by rw [hc _ _ h4]; exact h2, by rw [hc _ _ h4]; exact h3, by have := hb.size; omega, fun o => by rw [hf _ _ h4]; exact h5 o⟩

theorem Two.drewBelow {B : Nat} {w W W' : World} {y m d : Int} (h : Two B w y m d W) (hb : Below W.drew.heap.size W.drew W') : Two B w y m d W' :=
  Two.below (W := W.drew) ⟨h.1.drew, h.2⟩ hb

theorem Box.set {B : Nat} {w W : World} {y m d : Int} {u v x : Value} (h : Box B w y m d W) : Box B w y m d (((W.setCell ⟨B + 1, 0, none⟩ u).setCell ⟨B + 1, 1, none⟩ v).setCell ⟨B + 1, 2, none⟩ x) := by
  obtain ⟨a0, a1, a2, a3, a4⟩ := h
  refine ⟨?_, ?_, ?_, by simpa using a3, ((a4.setCell (by simp) _).setCell (by simp) _).setCell (by simp) _⟩
  · rw [World.cell?_setCell_other _ _ _ _ (by simp), World.cell?_setCell_other _ _ _ _ (by simp), World.cell?_setCell_other _ _ _ _ (by simp)]; exact a0
  · rw [World.cell?_setCell_other _ _ _ _ (by simp), World.cell?_setCell_other _ _ _ _ (by simp), World.cell?_setCell_other _ _ _ _ (by simp)]; exact a1
  · rw [World.cell?_setCell_other _ _ _ _ (by simp), World.cell?_setCell_other _ _ _ _ (by simp), World.cell?_setCell_other _ _ _ _ (by simp)]; exact a2

set_option maxHeartbeats 800000 in
theorem stepped_any (y m d n Y M : Int) (w : World) (h : Day y m d) (hn0 : 0 ≤ (y - 1) * 12 + m - 1 + n) (hn1 : (y - 1) * 12 + m - 1 + n < 119988) (hY : ((y - 1) * 12 + m - 1 + n) / 12 + 1 = Y) (hM : ((y - 1) * 12 + m - 1 + n) % 12 + 1 = M) (y1 : 1 ≤ Y) (y2 : Y ≤ 9999) (m1 : 1 ≤ M) (m2 : M ≤ 12) :
    Calls Try.prog 40 #[aggD y m d, .int .i64 n] w fun e w' => e = .returned (aggD Y M (cutD Y M d)) ∧ Below w.heap.size w w' := by
  obtain ⟨h1, h2, h3, h4, h5, h6⟩ := h
  have hml := mlen_pos y m
  have hml' := mlen_pos Y M
  have HB := Two.mk (w := w) (y := y) (m := m) (d := d)
  have HY := hide hY
  have HM := hide hM
  clear hY hM
  unfold aggD
  go_enter Try.func40, Try.ntmps40
  go_wp2_with fail
  generalize (w.alloc (.cells #[.int .i64 y, .int .i64 m, .int .i64 d] 53)).alloc (.cells #[.int .i64 0, .int .i64 0, .int .i64 0] 53) = W at HB ⊢
  generalize hB : w.heap.size = B at HB ⊢
  have HE := hide hB
  clear hB
  refine (months_any _ _ _ _ h1 h2 h3 h4).mono ?_
  rintro e w1 ⟨rfl, hb⟩
  have HB1 := HB.below hb
  clear HB hb
  go_wp2_with fail
  rw [HY.out, HM.out]
  clear HY HM hn0 hn1
  have HB2 := HB1.1
  have HB3 := hide HB1
  clear HB1
  go_region_held3 (fun X : World => X.cell? ⟨B, 0, none⟩ = some (.int .i64 y) ∧ X.cell? ⟨B, 1, none⟩ = some (.int .i64 m) ∧ X.cell? ⟨B, 2, none⟩ = some (.int .i64 d) ∧ B < X.heap.size ∧ Below B w X) (first | exact Box.drew ‹_› | assumption | exact Box.below ‹_› ‹_› | exact Box.set ‹_›) ((go_at_call 32; refine (monthLength_any _ _ _ (by omega) (by omega) (by omega) (by omega)).mono ?_; rintro e w32 ⟨rfl, hb⟩; obtain ⟨c0, c1, c2, c3, c4⟩ := (HB3.out.drewBelow hb).2))
  rename_i hS
  have HCut := hide (show (if mlen Y M < d then mlen Y M else d) = cutD Y M d from rfl)
  rw [HCut.out] at hS ⊢
  generalize hE : cutD Y M d = E at hS ⊢
  have HE2 := hide hE
  clear hE
  go_wp2
  refine bodyPost_ret (v := aggD Y M E) (by simp [results, Try.results40, go_sem, c0, c1, c2]) rfl ⟨by rw [← HE2.out], ?_⟩
  rw [HE.out]
  exact hS.2.2.2.2

end Go.Proofs.Ytnafhjmeofddoaa
