/- Is there such a day? And its number: the program's methods. -/
import Derived.Test.YtnafhjmeofddoabMonth
import Derived.Deep.RegionHeld3
import Derived.BigQuiet
import Derived.Deep.QuietTactic
namespace Go.Proofs.Ytnafhjmeofddoab
open Go.RowKit

theorem bcell {W w1 : World} (hb : Below W.heap.size W w1) : (∀ b o, b < W.heap.size → w1.cell? ⟨b, o, none⟩ = W.cell? ⟨b, o, none⟩) ∧ (∀ b o, b < W.heap.size → w1.frozen? ⟨b, o, none⟩ = W.frozen? ⟨b, o, none⟩) :=
  ⟨fun b o h => hb.cell (p := ⟨b, o, none⟩) h, fun b o h => hb.frozen (p := ⟨b, o, none⟩) h⟩

theorem drewN_below (w : World) (m B : Nat) : Below B w (w.drewN m) := ⟨rfl, rfl, rfl, Nat.le_refl _, fun _ _ => rfl⟩

abbrev Box (B : Nat) (w : World) (y m d : Int) (W : World) : Prop :=
  W.cell? ⟨B, 0, none⟩ = some (.int .i64 y) ∧ W.cell? ⟨B, 1, none⟩ = some (.int .i64 m) ∧ W.cell? ⟨B, 2, none⟩ = some (.int .i64 d) ∧ B < W.heap.size ∧ Below B w W

theorem Box.mk {w : World} {y m d : Int} : Box w.heap.size w y m d (w.alloc (.cells #[.int .i64 y, .int .i64 m, .int .i64 d] 36)) :=
  ⟨by simp, by simp, by simp, by simp, (Below.refl _ _).alloc (Nat.le_refl _) _⟩

theorem Box.below {B : Nat} {w W W' : World} {y m d : Int} (h : Box B w y m d W) (hb : Below W.heap.size W W') : Box B w y m d W' := by
  obtain ⟨h0, h1, h2, h3, h4⟩ := h
  obtain ⟨hc, _⟩ := bcell hb
  exact ⟨(hc B 0 h3).trans h0, (hc B 1 h3).trans h1, (hc B 2 h3).trans h2, by have := hb.size; omega, h4.trans (hb.mono (by omega))⟩

theorem Box.drew {B : Nat} {w W : World} {y m d : Int} (h : Box B w y m d W) : Box B w y m d W.drew := by
  obtain ⟨h0, h1, h2, h3, h4⟩ := h
  exact ⟨by simpa using h0, by simpa using h1, by simpa using h2, by simpa using h3, h4.drew⟩


set_option maxHeartbeats 800000 in
theorem exists_in (y m d : Int) (w : World) (h1 : 1 ≤ y) (h2 : y ≤ 9999) (h3 : 1 ≤ m) (h4 : m ≤ 12) (h5 : 1 ≤ d) :
    Calls Try.prog 13 #[.agg #[.int .i64 y, .int .i64 m, .int .i64 d]] w fun e w' => e = .returned (.bool (decide (d ≤ mlen y m))) ∧ Below w.heap.size w w' := by
  have hd : decide (1 ≤ d) = true := by simpa using h5
  have hml := mlen_pos y m
  have HB := Box.mk (w := w) (y := y) (m := m) (d := d)
  go_enter Try.func13, Try.ntmps13
  go_wp2_with fail
  generalize w.alloc (.cells #[.int .i64 y, .int .i64 m, .int .i64 d] 36) = W at HB ⊢
  generalize hB : w.heap.size = B at HB ⊢
  have HE := hide hB
  clear hB
  go_region_held3 (fun X : World => X.cell? ⟨B, 0, none⟩ = some (.int .i64 y) ∧ X.cell? ⟨B, 1, none⟩ = some (.int .i64 m) ∧ X.cell? ⟨B, 2, none⟩ = some (.int .i64 d) ∧ B < X.heap.size ∧ Below B w X) (first | exact Box.drew ‹_› | assumption | exact Box.below ‹_› ‹_›) (first | (go_at_call 18; refine (isMonth_yes _ _ _ (by omega) (by omega) (by omega) (by omega)).mono ?_; rintro e w' ⟨rfl, rfl⟩) | (go_at_call 17; refine (monthLength_any _ _ _ (by omega) (by omega) (by omega) (by omega)).mono ?_; rintro e w32 ⟨rfl, hb⟩))
  rename_i hS
  go_wp2
  go_ret
  exact ⟨rfl, by rw [HE.out]; exact hS.2.2.2.2⟩

set_option maxHeartbeats 800000 in
theorem exists_day0 (y m d : Int) (w : World) (h1 : 1 ≤ y) (h2 : y ≤ 9999) (h3 : 1 ≤ m) (h4 : m ≤ 12) (h5 : d < 1) :
    Calls Try.prog 13 #[.agg #[.int .i64 y, .int .i64 m, .int .i64 d]] w fun e w' => e = .returned (.bool false) ∧ Below w.heap.size w w' := by
  have hd : decide (1 ≤ d) = false := by simp; omega
  go_enter Try.func13, Try.ntmps13
  go_wp2_with fail
  go_quiet ((go_at_call 18; exact Calls.quiet_of_same (isMonth_yes _ _ _ (by omega) (by omega) (by omega) (by omega))))
  go_wp2
  go_ret
  exact ⟨rfl, ((Below.refl _ _).alloc (Nat.le_refl _) _).trans (drewN_below _ _ _)⟩

set_option maxHeartbeats 800000 in
theorem exists_month0 (y m d : Int) (w : World) (h : ¬ (1 ≤ y ∧ y ≤ 9999 ∧ 1 ≤ m ∧ m ≤ 12)) :
    Calls Try.prog 13 #[.agg #[.int .i64 y, .int .i64 m, .int .i64 d]] w fun e w' => e = .returned (.bool false) ∧ Below w.heap.size w w' := by
  have HN := hide h
  clear h
  go_enter Try.func13, Try.ntmps13
  go_wp2_with fail
  go_quiet ((go_at_call 18; exact Calls.quiet_of_same (isMonth_no _ _ _ HN.out)))
  go_wp2
  go_ret
  exact ⟨rfl, ((Below.refl _ _).alloc (Nat.le_refl _) _).trans (drewN_below _ _ _)⟩

instance (y m d : Int) : Decidable (Day y m d) :=
  decidable_of_iff (1 ≤ y ∧ y ≤ 9999 ∧ 1 ≤ m ∧ m ≤ 12 ∧ 1 ≤ d ∧ d ≤ mlen y m) ⟨fun ⟨a, b, c, d, e, f⟩ => ⟨a, b, c, d, e, f⟩, fun ⟨a, b, c, d, e, f⟩ => ⟨a, b, c, d, e, f⟩⟩

theorem exists_yes (y m d : Int) (w : World) (h : Day y m d) :
    Calls Try.prog 13 #[.agg #[.int .i64 y, .int .i64 m, .int .i64 d]] w fun e w' => e = .returned (.bool true) ∧ Below w.heap.size w w' := by
  have := exists_in y m d w h.y1 h.y2 h.m1 h.m2 h.d1
  rwa [decide_eq_true h.d2] at this

theorem exists_no (y m d : Int) (w : World) (h : ¬ Day y m d) :
    Calls Try.prog 13 #[.agg #[.int .i64 y, .int .i64 m, .int .i64 d]] w fun e w' => e = .returned (.bool false) ∧ Below w.heap.size w w' := by
  by_cases hm : 1 ≤ y ∧ y ≤ 9999 ∧ 1 ≤ m ∧ m ≤ 12
  · obtain ⟨h1, h2, h3, h4⟩ := hm
    by_cases h5 : 1 ≤ d
    · have := exists_in y m d w h1 h2 h3 h4 h5
      rwa [decide_eq_false (fun h6 => h ⟨h1, h2, h3, h4, h5, h6⟩)] at this
    · exact exists_day0 y m d w h1 h2 h3 h4 (by omega)
  · exact exists_month0 y m d w hm

end Go.Proofs.Ytnafhjmeofddoab
