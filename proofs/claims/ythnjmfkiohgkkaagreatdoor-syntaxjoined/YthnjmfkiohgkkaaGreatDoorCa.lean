/- Days, months, years: plain mathematics, no program in sight. A day's number, which days there are, that each number has just one, and the day behind. -/
import Derived.WalkKit
import Derived.Test.YthnjmfkiohgkkaaGreatDoorProg
import Derived.WalkSpells
import Derived.WalkLawsBesides
import Derived.Deep.RegionHeld3
import Derived.BigQuiet
import Derived.Deep.QuietTactic
namespace Go.Proofs.YthnjmfkiohgkkaaGreatDoor.Ca

def leapB (y : Int) : Bool := decide (y % 4 = 0) && (!decide (y % 100 = 0) || decide (y % 400 = 0))

theorem leapB_iff (y : Int) : leapB y = true ↔ (y % 4 = 0 ∧ (y % 100 ≠ 0 ∨ y % 400 = 0)) := by simp [leapB]

/-- A month's days. -/
def mlen (y m : Int) : Int := if m = 2 then (if leapB y then 29 else 28) else if m = 4 ∨ m = 6 ∨ m = 9 ∨ m = 11 then 30 else 31

/-- A year's days. -/
def ylen (y : Int) : Int := if leapB y then 366 else 365

/-- The days of all years ahead of one. -/
def aheadY (y : Int) : Int := (y - 1) * 365 + (y - 1) / 4 - (y - 1) / 100 + (y - 1) / 400

/-- The days of the first k months. -/
def before (y : Int) : Nat → Int
  | 0 => 0
  | k + 1 => before y k + mlen y (k + 1 : Nat)

/-- There is such a day. -/
structure Day (y m d : Int) : Prop where
  y1 : 1 ≤ y
  y2 : y ≤ 9999
  m1 : 1 ≤ m
  m2 : m ≤ 12
  d1 : 1 ≤ d
  d2 : d ≤ mlen y m

/-- A day's number. -/
def numOf (y m d : Int) : Int := aheadY y + before y (m - 1).toNat + d

theorem mlen_pos (y m : Int) : 28 ≤ mlen y m ∧ mlen y m ≤ 31 := by
  unfold mlen; split
  · split <;> omega
  · split <;> omega

theorem ylen_pos (y : Int) : 365 ≤ ylen y ∧ ylen y ≤ 366 := by unfold ylen; split <;> omega

theorem before_step (y : Int) (k : Nat) : before y (k + 1) = before y k + mlen y (k + 1 : Nat) := rfl

theorem before_up (y : Int) : ∀ (j k : Nat), j ≤ k → before y j ≤ before y k := by
  intro j k h
  induction k with
  | zero => have : j = 0 := by omega
            subst this; exact Int.le_refl _
  | succ k ih =>
    rcases Nat.lt_or_ge k j with h1 | h1
    · have : j = k + 1 := by omega
      subst this; exact Int.le_refl _
    · have := ih h1
      have := mlen_pos y (k + 1 : Nat)
      rw [before_step]; omega

theorem before_nonneg (y : Int) (k : Nat) : 0 ≤ before y k := before_up y 0 k (Nat.zero_le _)

theorem before_twelve (y : Int) : before y 12 = ylen y := by
  simp only [before, mlen, ylen]
  cases leapB y <;> decide

theorem before_le (y : Int) (k : Nat) (h : k ≤ 12) : before y k ≤ ylen y := by
  rw [← before_twelve]; exact before_up y _ _ h

theorem ahead_step (y : Int) (_h : 1 ≤ y) : aheadY (y + 1) = aheadY y + ylen y := by
  unfold aheadY ylen
  cases hl : leapB y with
  | true => have := (leapB_iff y).1 hl
            simp only [if_true]; omega
  | false =>
    have : ¬ (y % 4 = 0 ∧ (y % 100 ≠ 0 ∨ y % 400 = 0)) := fun h' => by simp [(leapB_iff y).2 h'] at hl
    simp only [Bool.false_eq_true, if_false]; omega

theorem ahead_up (y : Int) (k : Nat) (h : 1 ≤ y) : aheadY y ≤ aheadY (y + k) := by
  induction k with
  | zero => simp
  | succ k ih =>
    have e := ahead_step (y + k) (by omega)
    have := ylen_pos (y + k)
    rw [show y + ((k + 1 : Nat) : Int) = y + k + 1 by omega, e]; omega

theorem ahead_mono {y z : Int} (h : 1 ≤ y) (hz : y ≤ z) : aheadY y ≤ aheadY z := by
  have := ahead_up y (z - y).toNat h
  rwa [show y + ((z - y).toNat : Int) = z by omega] at this

theorem ahead_next {y z : Int} (h : 1 ≤ y) (hz : y < z) : aheadY y + ylen y ≤ aheadY z := by
  rw [← ahead_step y h]; exact ahead_mono (by omega) (by omega)

theorem Day.before_d {y m d : Int} (h : Day y m d) : before y (m - 1).toNat + d ≤ before y m.toNat := by
  have := h.m1; have := h.d2
  rw [show m.toNat = (m - 1).toNat + 1 by omega, before_step, show (((m - 1).toNat + 1 : Nat) : Int) = m by omega]
  omega

theorem Day.inYear {y m d : Int} (h : Day y m d) : 1 ≤ before y (m - 1).toNat + d ∧ before y (m - 1).toNat + d ≤ ylen y := by
  have := h.m2; have := h.d1
  have := before_nonneg y (m - 1).toNat
  have := h.before_d
  have := before_le y m.toNat (by omega)
  omega

/-- Days go by year, month and day. -/
theorem Day.lt {y m d z k f : Int} (h : Day y m d) (h' : Day z k f) (hlt : y < z ∨ (y = z ∧ (m < k ∨ (m = k ∧ d < f)))) : numOf y m d < numOf z k f := by
  have a := h.inYear
  have b := h'.inYear
  have h1 := h.m1
  have h1' := h'.m1
  rcases hlt with hy | ⟨rfl, hm | ⟨rfl, hd⟩⟩
  · have := ahead_next h.y1 hy
    unfold numOf; omega
  · have := h.before_d
    have := before_up y m.toNat (k - 1).toNat (by omega)
    have := h'.d1
    unfold numOf; omega
  · unfold numOf; omega

theorem Day.only {y m d z k f : Int} (h : Day y m d) (h' : Day z k f) (he : numOf y m d = numOf z k f) : y = z ∧ m = k ∧ d = f := by
  by_cases hc : y = z ∧ m = k ∧ d = f
  · exact hc
  · exfalso
    have : (y < z ∨ (y = z ∧ (m < k ∨ (m = k ∧ d < f)))) ∨ (z < y ∨ (z = y ∧ (k < m ∨ (k = m ∧ f < d)))) := by omega
    rcases this with c | c
    · have := h.lt h' c; omega
    · have := h'.lt h c; omega

/-- The day behind. -/
def nextD (y m d : Int) : Int × Int × Int := if d < mlen y m then (y, m, d + 1) else if m < 12 then (y, m + 1, 1) else (y + 1, 1, 1)

end Go.Proofs.YthnjmfkiohgkkaaGreatDoor.Ca

namespace Go.Proofs.YthnjmfkiohgkkaaGreatDoor.Ca
open Go.RowKit

theorem hide {p : Prop} (h : p) : Hid p := h

theorem ret_int {k : IntKind} {a b : Int} (h : a = b) : Ending.returned (.int k a) = .returned (.int k b) := by rw [h]
theorem ret_bool {a b : Bool} (h : a = b) : Ending.returned (.bool a) = .returned (.bool b) := by rw [h]

def dayB (x : Int) : Bool := decide (1 ≤ x ∧ x ≤ 3652059)
def monB (y m : Int) : Bool := decide (1 ≤ y ∧ y ≤ 9999 ∧ 1 ≤ m ∧ m ≤ 12)

theorem isMonth_yes (y m : Int) (w : World) (h1 : 1 ≤ y) (h2 : y ≤ 9999) (h3 : 1 ≤ m) (h4 : m ≤ 12) : Calls Tryz.prog 211 #[.int .i64 y, .int .i64 m] w fun e w' => e = .returned (.bool true) ∧ w' = w := by
  go_enter Tryz.func211, Tryz.ntmps211
  go_wp2
  go_ret
  exact ⟨rfl, rfl⟩

theorem isMonth_no (y m : Int) (w : World) (h : ¬ (1 ≤ y ∧ y ≤ 9999 ∧ 1 ≤ m ∧ m ≤ 12)) : Calls Tryz.prog 211 #[.int .i64 y, .int .i64 m] w fun e w' => e = .returned (.bool false) ∧ w' = w := by
  by_cases h1 : 1 ≤ y
  · by_cases h2 : y ≤ 9999
    · by_cases h3 : 1 ≤ m
      · have h4 : 12 < m := by omega
        clear h
        go_enter Tryz.func211, Tryz.ntmps211
        go_wp2
        go_ret
        exact ⟨ret_bool (by simp; omega), rfl⟩
      · clear h
        go_enter Tryz.func211, Tryz.ntmps211
        go_wp2
        go_ret
        exact ⟨rfl, rfl⟩
    · clear h
      go_enter Tryz.func211, Tryz.ntmps211
      go_wp2
      go_ret
      exact ⟨rfl, rfl⟩
  · clear h
    go_enter Tryz.func211, Tryz.ntmps211
    go_wp2
    go_ret
    exact ⟨rfl, rfl⟩

theorem isLeap_any (y : Int) (w : World) (h1 : 0 ≤ y) (h2 : y ≤ 10000) : Calls Tryz.prog 220 #[.int .i64 y] w fun e w' => e = .returned (.bool (leapB y)) ∧ w' = w := by
  go_enter Tryz.func220, Tryz.ntmps220
  go_wp2
  all_goals
    go_ret
    refine ⟨ret_bool ?_, rfl⟩
    first
      | (simp [leapB, *]; done)
      | (simp [leapB, *]; rfl)

theorem ahead_any (y : Int) (w : World) (h1 : 1 ≤ y) (h2 : y ≤ 10000) : Calls Tryz.prog 180 #[.int .i64 y] w fun e w' => e = .returned (.int .i64 (aheadY y)) ∧ w' = w := by
  go_enter Tryz.func180, Tryz.ntmps180
  go_wp2
  go_ret
  exact ⟨ret_int (by unfold aheadY; omega), rfl⟩

end Go.Proofs.YthnjmfkiohgkkaaGreatDoor.Ca

namespace Go.Proofs.YthnjmfkiohgkkaaGreatDoor.Ca
open Go.RowKit

set_option maxHeartbeats 800000 in
theorem monthLength_any (y m : Int) (w : World) (h1 : 0 ≤ y) (h2 : y ≤ 10000) (h3 : 1 ≤ m) (h4 : m ≤ 12) :
    Calls Tryz.prog 212 #[.int .i64 y, .int .i64 m] w fun e w' => e = .returned (.int .i64 (mlen y m)) ∧ Below w.heap.size w w' := by
  by_cases hm : m = 2
  · subst hm
    cases hl : leapB y with
    | true =>
      have HE := hide (show mlen y 2 = 29 by simp [mlen, hl])
      have HL := hide hl
      clear hl
      go_enter Tryz.func212, Tryz.ntmps212
      go_wp2_with (go_at_call 220; refine (isLeap_any _ _ (by omega) (by omega)).mono ?_; rintro e w' ⟨rfl, rfl⟩; rw [HL.out])
      go_ret
      exact ⟨ret_int (by rw [HE.out]), Below.refl _ _⟩
    | false =>
      have HE := hide (show mlen y 2 = 28 by simp [mlen, hl])
      have HL := hide hl
      clear hl
      go_enter Tryz.func212, Tryz.ntmps212
      go_wp2_with (go_at_call 220; refine (isLeap_any _ _ (by omega) (by omega)).mono ?_; rintro e w' ⟨rfl, rfl⟩; rw [HL.out])
      go_ret
      exact ⟨ret_int (by rw [HE.out]), (Below.refl _ _).alloc (Nat.le_refl _) _⟩
  · have hc : m = 1 ∨ m = 3 ∨ m = 4 ∨ m = 5 ∨ m = 6 ∨ m = 7 ∨ m = 8 ∨ m = 9 ∨ m = 10 ∨ m = 11 ∨ m = 12 := by omega
    clear hm h3 h4
    rcases hc with rfl | rfl | rfl | rfl | rfl | rfl | rfl | rfl | rfl | rfl | rfl
    all_goals
      go_enter Tryz.func212, Tryz.ntmps212
      go_wp2
      go_ret
      exact ⟨ret_int (by simp [mlen]), (Below.refl _ _).alloc (Nat.le_refl _) _⟩

end Go.Proofs.YthnjmfkiohgkkaaGreatDoor.Ca

namespace Go.Proofs.YthnjmfkiohgkkaaGreatDoor.Ca
open Go.RowKit

theorem bcell {W w1 : World} (hb : Below W.heap.size W w1) : (∀ b o, b < W.heap.size → w1.cell? ⟨b, o, none⟩ = W.cell? ⟨b, o, none⟩) ∧ (∀ b o, b < W.heap.size → w1.frozen? ⟨b, o, none⟩ = W.frozen? ⟨b, o, none⟩) :=
  ⟨fun b o h => hb.cell (p := ⟨b, o, none⟩) h, fun b o h => hb.frozen (p := ⟨b, o, none⟩) h⟩

theorem drewN_below (w : World) (m B : Nat) : Below B w (w.drewN m) := ⟨rfl, rfl, rfl, Nat.le_refl _, fun _ _ => rfl⟩

abbrev Box (B : Nat) (w : World) (y m d : Int) (W : World) : Prop :=
  W.cell? ⟨B, 0, none⟩ = some (.int .i64 y) ∧ W.cell? ⟨B, 1, none⟩ = some (.int .i64 m) ∧ W.cell? ⟨B, 2, none⟩ = some (.int .i64 d) ∧ B < W.heap.size ∧ Below B w W

theorem Box.mk {w : World} {y m d : Int} : Box w.heap.size w y m d (w.alloc (.cells #[.int .i64 y, .int .i64 m, .int .i64 d] 230)) :=
  ⟨by simp, by simp, by simp, by simp, (Below.refl _ _).alloc (Nat.le_refl _) _⟩

theorem Box.below {B : Nat} {w W W' : World} {y m d : Int} (h : Box B w y m d W) (hb : Below W.heap.size W W') : Box B w y m d W' := by
  obtain ⟨h0, h1, h2, h3, h4⟩ := h
  obtain ⟨hc, _⟩ := bcell hb
  exact ⟨(hc B 0 h3).trans h0, (hc B 1 h3).trans h1, (hc B 2 h3).trans h2, by have := hb.size; omega, h4.trans (hb.mono (by omega))⟩

theorem Box.drew {B : Nat} {w W : World} {y m d : Int} (h : Box B w y m d W) : Box B w y m d W.drew := by
  obtain ⟨h0, h1, h2, h3, h4⟩ := h
  exact ⟨by simpa using h0, by simpa using h1, by simpa using h2, by simpa using h3, h4.drew⟩


set_option maxHeartbeats 800000 in
theorem exists_in (y m d : Int) (w : World) (h1 : 1 ≤ y) (h2 : y ≤ 9999) (h3 : 1 ≤ m) (h4 : m ≤ 12) (h5 : 1 ≤ d) :
    Calls Tryz.prog 193 #[.agg #[.int .i64 y, .int .i64 m, .int .i64 d]] w fun e w' => e = .returned (.bool (decide (d ≤ mlen y m))) ∧ Below w.heap.size w w' := by
  have hd : decide (1 ≤ d) = true := by simpa using h5
  have hml := mlen_pos y m
  have HB := Box.mk (w := w) (y := y) (m := m) (d := d)
  go_enter Tryz.func193, Tryz.ntmps193
  go_wp2_with fail
  generalize w.alloc (.cells #[.int .i64 y, .int .i64 m, .int .i64 d] 230) = W at HB ⊢
  generalize hB : w.heap.size = B at HB ⊢
  have HE := hide hB
  clear hB
  go_region_held3 (fun X : World => X.cell? ⟨B, 0, none⟩ = some (.int .i64 y) ∧ X.cell? ⟨B, 1, none⟩ = some (.int .i64 m) ∧ X.cell? ⟨B, 2, none⟩ = some (.int .i64 d) ∧ B < X.heap.size ∧ Below B w X) (first | exact Box.drew ‹_› | assumption | exact Box.below ‹_› ‹_›) (first | (go_at_call 211; refine (isMonth_yes _ _ _ (by omega) (by omega) (by omega) (by omega)).mono ?_; rintro e w' ⟨rfl, rfl⟩) | (go_at_call 212; refine (monthLength_any _ _ _ (by omega) (by omega) (by omega) (by omega)).mono ?_; rintro e w32 ⟨rfl, hb⟩))
  rename_i hS
  go_wp2
  go_ret
  exact ⟨rfl, by rw [HE.out]; exact hS.2.2.2.2⟩

set_option maxHeartbeats 800000 in
theorem exists_day0 (y m d : Int) (w : World) (h1 : 1 ≤ y) (h2 : y ≤ 9999) (h3 : 1 ≤ m) (h4 : m ≤ 12) (h5 : d < 1) :
    Calls Tryz.prog 193 #[.agg #[.int .i64 y, .int .i64 m, .int .i64 d]] w fun e w' => e = .returned (.bool false) ∧ Below w.heap.size w w' := by
  have hd : decide (1 ≤ d) = false := by simp; omega
  go_enter Tryz.func193, Tryz.ntmps193
  go_wp2_with fail
  go_quiet ((go_at_call 211; exact Calls.quiet_of_same (isMonth_yes _ _ _ (by omega) (by omega) (by omega) (by omega))))
  go_wp2
  go_ret
  exact ⟨rfl, ((Below.refl _ _).alloc (Nat.le_refl _) _).trans (drewN_below _ _ _)⟩

set_option maxHeartbeats 800000 in
theorem exists_month0 (y m d : Int) (w : World) (h : ¬ (1 ≤ y ∧ y ≤ 9999 ∧ 1 ≤ m ∧ m ≤ 12)) :
    Calls Tryz.prog 193 #[.agg #[.int .i64 y, .int .i64 m, .int .i64 d]] w fun e w' => e = .returned (.bool false) ∧ Below w.heap.size w w' := by
  have HN := hide h
  clear h
  go_enter Tryz.func193, Tryz.ntmps193
  go_wp2_with fail
  go_quiet ((go_at_call 211; exact Calls.quiet_of_same (isMonth_no _ _ _ HN.out)))
  go_wp2
  go_ret
  exact ⟨rfl, ((Below.refl _ _).alloc (Nat.le_refl _) _).trans (drewN_below _ _ _)⟩

instance (y m d : Int) : Decidable (Day y m d) :=
  decidable_of_iff (1 ≤ y ∧ y ≤ 9999 ∧ 1 ≤ m ∧ m ≤ 12 ∧ 1 ≤ d ∧ d ≤ mlen y m) ⟨fun ⟨a, b, c, d, e, f⟩ => ⟨a, b, c, d, e, f⟩, fun ⟨a, b, c, d, e, f⟩ => ⟨a, b, c, d, e, f⟩⟩

theorem exists_yes (y m d : Int) (w : World) (h : Day y m d) :
    Calls Tryz.prog 193 #[.agg #[.int .i64 y, .int .i64 m, .int .i64 d]] w fun e w' => e = .returned (.bool true) ∧ Below w.heap.size w w' := by
  have := exists_in y m d w h.y1 h.y2 h.m1 h.m2 h.d1
  rwa [decide_eq_true h.d2] at this

theorem exists_no (y m d : Int) (w : World) (h : ¬ Day y m d) :
    Calls Tryz.prog 193 #[.agg #[.int .i64 y, .int .i64 m, .int .i64 d]] w fun e w' => e = .returned (.bool false) ∧ Below w.heap.size w w' := by
  by_cases hm : 1 ≤ y ∧ y ≤ 9999 ∧ 1 ≤ m ∧ m ≤ 12
  · obtain ⟨h1, h2, h3, h4⟩ := hm
    by_cases h5 : 1 ≤ d
    · have := exists_in y m d w h1 h2 h3 h4 h5
      rwa [decide_eq_false (fun h6 => h ⟨h1, h2, h3, h4, h5, h6⟩)] at this
    · exact exists_day0 y m d w h1 h2 h3 h4 (by omega)
  · exact exists_month0 y m d w hm

end Go.Proofs.YthnjmfkiohgkkaaGreatDoor.Ca

namespace Go.Proofs.YthnjmfkiohgkkaaGreatDoor.Ca
open Go.RowKit

theorem before_small (y : Int) (k : Nat) (h : k ≤ 12) : 0 ≤ before y k ∧ before y k ≤ 366 := by
  have := before_nonneg y k
  have := before_le y k h
  have := ylen_pos y
  omega

theorem ahead_small {y : Int} (h1 : 1 ≤ y) (h2 : y ≤ 10000) : 0 ≤ aheadY y ∧ aheadY y ≤ 3652059 := by unfold aheadY; omega

theorem numOf_of {y m d : Int} {k : Nat} (h : (k : Int) = m - 1) : aheadY y + before y k + d = numOf y m d := by
  unfold numOf; rw [show (m - 1).toNat = k by omega]

set_option maxHeartbeats 800000 in
theorem date_any (y m d : Int) (w : World) (h : Day y m d) :
    Calls Tryz.prog 194 #[.agg #[.int .i64 y, .int .i64 m, .int .i64 d]] w fun e w' => e = .returned (.int .i64 (numOf y m d)) ∧ Below w.heap.size w w' := by
  obtain ⟨h1, h2, h3, h4, h5, h6⟩ := h
  have hml := mlen_pos y m
  have hal := ahead_small h1 (by omega)
  have HA := hide (show aheadY y = (y - 1) * 365 + (y - 1) / 4 - (y - 1) / 100 + (y - 1) / 400 from rfl)
  have HB := Box.mk (w := w) (y := y) (m := m) (d := d)
  go_enter Tryz.func194, Tryz.ntmps194
  go_wp2_with fail
  generalize w.alloc (.cells #[.int .i64 y, .int .i64 m, .int .i64 d] 230) = W at HB ⊢
  generalize hB : w.heap.size = B at HB ⊢
  have HE := hide hB
  clear hB
  have HBx := hide HB
  obtain ⟨c0, c1, c2, c3, c4⟩ := HB
  clear c3 c4
  go_wp2_with fail
  go_loopw [4, 23] (fun s i wr => ∃ k : Nat, (k : Int) ≤ m - 1 ∧ i = .int .i64 k ∧ s = .int .i64 (aheadY y + before y k) ∧ Hid (Box B w y m d wr)) (fun _ i _ => (12 - intOf i).toNat)
  case atStart => exact ⟨0, by omega, rfl, by simp [before, aheadY], HBx⟩
  case round =>
    clear c0 c1 c2 HBx HA
    obtain ⟨k, hk, rfl, rfl, HBx⟩ := hrel
    have hbs := before_small y k (by omega)
    have HB := HBx.out
    obtain ⟨c0, c1, c2, c3, c4⟩ := HB
    clear c3 c4
    by_cases hlt : (k : Int) < m - 1
    · have hml' := mlen_pos y (k + 1)
      have HS := hide (before_step y k)
      go_wp2_with (go_at_call 212; refine (monthLength_any _ _ _ (by omega) (by omega) (by omega) (by omega)).mono ?_; rintro e w32 ⟨rfl, hb⟩)
      go_roundw
      case rel => exact ⟨k + 1, by omega, by go_num, by rw [HS.out]; simp; omega, HBx.out.below hb⟩
      case measure => simp [intOf]; omega
    · have HN := hide (numOf_of (y := y) (m := m) (d := d) (k := k) (by omega))
      go_wp2
      go_ret
      exact ⟨ret_int HN.out, by rw [HE.out]; exact HBx.out.2.2.2.2⟩

/-- What Of answers. -/
def ofP (y m d : Int) : Int × Int := if Day y m d then (numOf y m d, 0) else (0, 31)

def duo (p : Int × Int) : Value := .tuple #[.int .i64 p.1, .int .i64 p.2]

set_option maxHeartbeats 800000 in
theorem of_any (y m d : Int) (w : World) :
    Calls Tryz.prog 176 #[.int .i64 y, .int .i64 m, .int .i64 d] w fun e w' => e = .returned (duo (ofP y m d)) ∧ Below w.heap.size w w' := by
  have HB := Box.mk (w := w) (y := y) (m := m) (d := d)
  by_cases hd : Day y m d
  · have HO := hide (show ofP y m d = (numOf y m d, 0) by simp [ofP, hd])
    have HD := hide hd
    clear hd
    go_enter Tryz.func176, Tryz.ntmps176
    go_wp2_with fail
    generalize w.alloc (.cells #[.int .i64 y, .int .i64 m, .int .i64 d] 230) = W at HB ⊢
    generalize hB : w.heap.size = B at HB ⊢
    have HE := hide hB
    clear hB
    refine (exists_yes _ _ _ _ HD.out).mono ?_
    rintro e w1 ⟨rfl, hb⟩
    have HB1 := hide (HB.below hb)
    clear HB hb
    have HB := HB1.out
    obtain ⟨c0, c1, c2, c3, c4⟩ := HB
    clear c3 c4
    go_wp2_with fail
    refine (date_any _ _ _ _ HD.out).mono ?_
    rintro e w2 ⟨rfl, hb⟩
    have HB2 := hide (HB1.out.below hb)
    clear c0 c1 c2 HB1 hb
    go_wp2
    go_ret2
    refine ⟨by rw [HO.out]; rfl, by rw [HE.out]; exact HB2.out.2.2.2.2⟩
  · have HO := hide (show ofP y m d = (0, 31) by simp [ofP, hd])
    have HD := hide hd
    clear hd
    go_enter Tryz.func176, Tryz.ntmps176
    go_wp2_with fail
    generalize w.alloc (.cells #[.int .i64 y, .int .i64 m, .int .i64 d] 230) = W at HB ⊢
    generalize hB : w.heap.size = B at HB ⊢
    have HE := hide hB
    clear hB
    refine (exists_no _ _ _ _ HD.out).mono ?_
    rintro e w1 ⟨rfl, hb⟩
    have HB1 := hide (HB.below hb)
    clear HB hb
    go_wp2
    go_ret2
    refine ⟨by rw [HO.out]; rfl, by rw [HE.out]; exact HB1.out.2.2.2.2⟩

/-- What Days answers. -/
def daysP (y m : Int) : Int × Int := if 1 ≤ y ∧ y ≤ 9999 ∧ 1 ≤ m ∧ m ≤ 12 then (mlen y m, 0) else (0, 31)

end Go.Proofs.YthnjmfkiohgkkaaGreatDoor.Ca

namespace Go.Proofs.YthnjmfkiohgkkaaGreatDoor.Ca
open Go.RowKit

def isD (c : UInt8) : Prop := 48 ≤ (c.toNat : Int) ∧ (c.toNat : Int) ≤ 57
instance (c : UInt8) : Decidable (isD c) := by unfold isD; infer_instance

/-- The number of digits. -/
def valD (l : List UInt8) : Int := l.foldl (fun n c => n * 10 + ((c.toNat : Int) - 48)) 0

theorem valD_snoc (l : List UInt8) (c : UInt8) : valD (l ++ [c]) = valD l * 10 + ((c.toNat : Int) - 48) := by simp [valD]

theorem valD_bd : ∀ (n : Nat) (l : List UInt8), l.length = n → (∀ c ∈ l, isD c) → 0 ≤ valD l ∧ valD l < 10 ^ n := by
  intro n
  induction n with
  | zero => intro l hl _; have := List.eq_nil_of_length_eq_zero hl; subst this; simp [valD]
  | succ n ih =>
    intro l hl h
    rcases List.eq_nil_or_concat l with e | ⟨l', c, e⟩
    · subst e; simp at hl
    · rw [List.concat_eq_append] at e
      subst e
      have hc := h c (by simp)
      unfold isD at hc
      have := ih l' (by simpa using hl) (fun x hx => h x (by simp [hx]))
      rw [valD_snoc, Int.pow_succ]
      omega

theorem valD_small (l : List UInt8) (hl : l.length ≤ 8) (h : ∀ c ∈ l, isD c) : 0 ≤ valD l ∧ valD l ≤ 99999999 := by
  have hb := valD_bd l.length l rfl h
  have : (10 : Int) ^ l.length ≤ 10 ^ 8 := by
    have := Nat.pow_le_pow_right (n := 10) (by decide) hl
    exact_mod_cast this
  omega

/-- What number answers. -/
def numberP (l : List UInt8) : Int := if ∀ c ∈ l, isD c then valD l else -1

theorem take_snoc (s : ByteArray) (k : Nat) (h : k < s.size) : s.data.toList.take (k + 1) = s.data.toList.take k ++ [s[k]] := by
  rw [List.take_succ_eq_append_getElem (by simpa using h)]; rfl

theorem mem_at (s : ByteArray) (k : Nat) (h : k < s.size) : s[k] ∈ s.data.toList := by
  have : s[k] = s.data.toList[k]'(by simpa using h) := rfl
  rw [this]; exact List.getElem_mem _

set_option maxHeartbeats 400000 in
theorem number_any (t : ByteArray) (w : World) (h8 : t.size ≤ 8) :
    Calls Tryz.prog 162 #[.string t] w fun e w' => e = .returned (.int .i64 (numberP t.data.toList)) ∧ w' = w := by
  go_enter Tryz.func162, Tryz.ntmps162
  go_wp2_with fail
  go_loop [3, 4] (fun n i => ∃ k : Nat, k ≤ t.size ∧ i = .int .i64 k ∧ n = .int .i64 (valD (t.data.toList.take k)) ∧ Hid (∀ c ∈ t.data.toList.take k, isD c)) (fun _ i => t.size - (intOf i).toNat)
  case atStart => exact ⟨0, Nat.zero_le _, rfl, rfl, by simp [Hid]⟩
  case round =>
    obtain ⟨k, hk, rfl, rfl, HD⟩ := hrel
    have hbd := valD_small (t.data.toList.take k) (by simp; omega) HD.out
    by_cases hlt : k < t.size
    · have hb255 : (t[k].toNat : Int) ≤ 255 := by have := t[k].toNat_lt; omega
      have HS := hide (take_snoc t k hlt)
      have HM := hide (mem_at t k hlt)
      by_cases h1 : (t[k].toNat : Int) < 48
      · have HN : Hid (numberP t.data.toList = -1) := by unfold Hid numberP; rw [if_neg]; intro h; have := h _ HM.out; unfold isD at this; omega
        go_wp2
        go_ret
        exact ⟨ret_int (by rw [HN.out]), rfl⟩
      · by_cases h2 : 57 < (t[k].toNat : Int)
        · have HN : Hid (numberP t.data.toList = -1) := by unfold Hid numberP; rw [if_neg]; intro h; have := h _ HM.out; unfold isD at this; omega
          go_wp2
          go_ret
          exact ⟨ret_int (by rw [HN.out]), rfl⟩
        · have HV : Hid (valD (t.data.toList.take (k + 1)) = valD (t.data.toList.take k) * 10 + ((t[k].toNat : Int) - 48)) := by unfold Hid; rw [HS.out, valD_snoc]
          have HD2 : Hid (∀ c ∈ t.data.toList.take (k + 1), isD c) := by
            unfold Hid
            rw [HS.out]
            intro c hc
            rcases List.mem_append.1 hc with h | h
            · exact HD.out c h
            · simp at h; subst h; unfold isD; omega
          go_wp2
          go_round
          case rel => exact ⟨k + 1, by omega, by go_num, by rw [HV.out], HD2⟩
          case measure => simp [intOf]; omega
    · have HN : Hid (valD (t.data.toList.take k) = numberP t.data.toList) := by
        have hD := HD.out
        rw [List.take_of_length_le (by simp; omega)] at hD ⊢
        unfold numberP
        rw [if_pos hD]
        rfl
      go_wp2
      go_ret
      exact ⟨ret_int HN.out, rfl⟩

end Go.Proofs.YthnjmfkiohgkkaaGreatDoor.Ca

namespace Go.Proofs.YthnjmfkiohgkkaaGreatDoor.Ca
open Go.RowKit

/-- The byte at a place, 0 beyond the end. -/
def byteAt (t : ByteArray) (k : Nat) : Int := ((t.data.toList.getD k 0).toNat : Int)

theorem byteAt_of (t : ByteArray) (k : Nat) (h : k < t.size) : (t[k].toNat : Int) = byteAt t k := by
  have e : t[k] = t.data.toList[k]'(by simpa using h) := rfl
  unfold byteAt
  have h' : k < t.data.size := h
  rw [e, show t.data.toList.getD k 0 = t.data.toList[k] by simp only [List.getD, Array.getElem?_toList]; rw [Array.getElem?_eq_getElem h']; rfl]

def okOne (t : ByteArray) (k : Nat) : Prop := if k = 4 ∨ k = 7 then byteAt t k = 45 else 48 ≤ byteAt t k ∧ byteAt t k ≤ 57

def okTo (t : ByteArray) : Nat → Prop
  | 0 => True
  | k + 1 => okTo t k ∧ okOne t k

/-- The number of the digits so far. -/
def partD (t : ByteArray) : Nat → Int
  | 0 => 0
  | k + 1 => if k = 4 ∨ k = 7 then partD t k else partD t k * 10 + (byteAt t k - 48)

theorem okTo_at (t : ByteArray) : ∀ (n k : Nat), k < n → okTo t n → okOne t k := by
  intro n
  induction n with
  | zero => intro k h; omega
  | succ n ih =>
    intro k h ho
    by_cases e : k = n
    · subst e; exact ho.2
    · exact ih k (by omega) ho.1

theorem partD_bd (t : ByteArray) : ∀ k, okTo t k → 0 ≤ partD t k ∧ partD t k < 10 ^ k := by
  intro k
  induction k with
  | zero => intro _; simp [partD]
  | succ k ih =>
    intro ⟨h1, h2⟩
    have := ih h1
    unfold partD
    unfold okOne at h2
    rw [Int.pow_succ]
    by_cases e : k = 4 ∨ k = 7
    · rw [if_pos e]; omega
    · rw [if_neg e] at h2 ⊢; omega

theorem partD_small (t : ByteArray) (k : Nat) (hk : k ≤ 10) (h : okTo t k) : 0 ≤ partD t k ∧ partD t k ≤ 10000000000 := by
  have hb := partD_bd t k h
  have : (10 : Int) ^ k ≤ 10 ^ 10 := by
    have := Nat.pow_le_pow_right (n := 10) (by decide) hk
    exact_mod_cast this
  omega

open Classical in
/-- What readDigits answers. -/
noncomputable def readP (t : ByteArray) : Int × Bool := if t.size = 10 ∧ okTo t 10 then (partD t 10, true) else (0, false)

def duoB (p : Int × Bool) : Value := .tuple #[.int .i64 p.1, .bool p.2]

theorem readP_no (t : ByteArray) (k : Nat) (hk : k < 10) (h : ¬ okOne t k) : readP t = (0, false) := by
  unfold readP; rw [if_neg]; intro ⟨_, h2⟩; exact h (okTo_at t 10 k hk h2)

set_option maxHeartbeats 800000 in
theorem readDigits_any (t : ByteArray) (w : World) :
    Calls Tryz.prog 175 #[.string t] w fun e w' => e = .returned (duoB (readP t)) ∧ ∃ n, w' = w.drewN n := by
  by_cases h10 : t.size = 10
  · have HR : Hid (okTo t 10 → readP t = (partD t 10, true)) := fun h => by unfold readP; rw [if_pos ⟨h10, h⟩]
    go_enter Tryz.func175, Tryz.ntmps175
    go_wp2
    go_loopw [4, 9] (fun n i wr => ∃ (k : Nat) (D : Int), k ≤ 10 ∧ i = .int .i64 k ∧ n = .int .i64 D ∧ 0 ≤ D ∧ D ≤ 10000000000 ∧ Hid (D = partD t k) ∧ Hid (okTo t k) ∧ ∃ m, Hid (wr = w.drewN m)) (fun _ i _ => (10 - intOf i).toNat)
    case atStart => exact ⟨0, 0, by omega, rfl, rfl, by omega, by omega, rfl, trivial, 0, rfl⟩
    case round =>
      obtain ⟨k, D, hk, rfl, rfl, hD0, hD1, HD, HO, m, HW⟩ := hrel
      have hc : k = 0 ∨ k = 1 ∨ k = 2 ∨ k = 3 ∨ k = 4 ∨ k = 5 ∨ k = 6 ∨ k = 7 ∨ k = 8 ∨ k = 9 ∨ k = 10 := by omega
      rcases hc with rfl | rfl | rfl | rfl | rfl | rfl | rfl | rfl | rfl | rfl | rfl
      · have hlt : 0 < t.size := by omega
        have HB := hide (byteAt_of t 0 hlt)
        have hb255 : (t[0].toNat : Int) ≤ 255 := by have := t[0].toNat_lt; omega
        by_cases h1 : (t[0].toNat : Int) < 48
        · have HN := hide (readP_no t 0 (by omega) (by unfold okOne; rw [if_neg (by decide), ← HB.out]; omega))
          go_wp2
          go_ret2
          exact ⟨by rw [HN.out]; rfl, _, HW⟩
        · by_cases h2 : 57 < (t[0].toNat : Int)
          · have HN := hide (readP_no t 0 (by omega) (by unfold okOne; rw [if_neg (by decide), ← HB.out]; omega))
            go_wp2
            go_ret2
            exact ⟨by rw [HN.out]; rfl, _, HW⟩
          · have HO2 : Hid (okTo t 1) := ⟨HO.out, by unfold okOne; rw [if_neg (by decide), ← HB.out]; omega⟩
            have HD2 : Hid (D * 10 + ((t[0].toNat : Int) - 48) = partD t 1) := by unfold Hid; rw [HB.out, HD.out]; rfl
            have hs := partD_small t 1 (by omega) HO2.out
            rw [← HD2.out] at hs
            go_wp2
            go_roundw
            case rel => exact ⟨1, _, by omega, rfl, rfl, by omega, by omega, HD2, HO2, _, HW⟩
            case measure => simp [intOf]
      · have hlt : 1 < t.size := by omega
        have HB := hide (byteAt_of t 1 hlt)
        have hb255 : (t[1].toNat : Int) ≤ 255 := by have := t[1].toNat_lt; omega
        by_cases h1 : (t[1].toNat : Int) < 48
        · have HN := hide (readP_no t 1 (by omega) (by unfold okOne; rw [if_neg (by decide), ← HB.out]; omega))
          go_wp2
          go_ret2
          exact ⟨by rw [HN.out]; rfl, _, HW⟩
        · by_cases h2 : 57 < (t[1].toNat : Int)
          · have HN := hide (readP_no t 1 (by omega) (by unfold okOne; rw [if_neg (by decide), ← HB.out]; omega))
            go_wp2
            go_ret2
            exact ⟨by rw [HN.out]; rfl, _, HW⟩
          · have HO2 : Hid (okTo t 2) := ⟨HO.out, by unfold okOne; rw [if_neg (by decide), ← HB.out]; omega⟩
            have HD2 : Hid (D * 10 + ((t[1].toNat : Int) - 48) = partD t 2) := by unfold Hid; rw [HB.out, HD.out]; rfl
            have hs := partD_small t 2 (by omega) HO2.out
            rw [← HD2.out] at hs
            go_wp2
            go_roundw
            case rel => exact ⟨2, _, by omega, rfl, rfl, by omega, by omega, HD2, HO2, _, HW⟩
            case measure => simp [intOf]
      · have hlt : 2 < t.size := by omega
        have HB := hide (byteAt_of t 2 hlt)
        have hb255 : (t[2].toNat : Int) ≤ 255 := by have := t[2].toNat_lt; omega
        by_cases h1 : (t[2].toNat : Int) < 48
        · have HN := hide (readP_no t 2 (by omega) (by unfold okOne; rw [if_neg (by decide), ← HB.out]; omega))
          go_wp2
          go_ret2
          exact ⟨by rw [HN.out]; rfl, _, HW⟩
        · by_cases h2 : 57 < (t[2].toNat : Int)
          · have HN := hide (readP_no t 2 (by omega) (by unfold okOne; rw [if_neg (by decide), ← HB.out]; omega))
            go_wp2
            go_ret2
            exact ⟨by rw [HN.out]; rfl, _, HW⟩
          · have HO2 : Hid (okTo t 3) := ⟨HO.out, by unfold okOne; rw [if_neg (by decide), ← HB.out]; omega⟩
            have HD2 : Hid (D * 10 + ((t[2].toNat : Int) - 48) = partD t 3) := by unfold Hid; rw [HB.out, HD.out]; rfl
            have hs := partD_small t 3 (by omega) HO2.out
            rw [← HD2.out] at hs
            go_wp2
            go_roundw
            case rel => exact ⟨3, _, by omega, rfl, rfl, by omega, by omega, HD2, HO2, _, HW⟩
            case measure => simp [intOf]
      · have hlt : 3 < t.size := by omega
        have HB := hide (byteAt_of t 3 hlt)
        have hb255 : (t[3].toNat : Int) ≤ 255 := by have := t[3].toNat_lt; omega
        by_cases h1 : (t[3].toNat : Int) < 48
        · have HN := hide (readP_no t 3 (by omega) (by unfold okOne; rw [if_neg (by decide), ← HB.out]; omega))
          go_wp2
          go_ret2
          exact ⟨by rw [HN.out]; rfl, _, HW⟩
        · by_cases h2 : 57 < (t[3].toNat : Int)
          · have HN := hide (readP_no t 3 (by omega) (by unfold okOne; rw [if_neg (by decide), ← HB.out]; omega))
            go_wp2
            go_ret2
            exact ⟨by rw [HN.out]; rfl, _, HW⟩
          · have HO2 : Hid (okTo t 4) := ⟨HO.out, by unfold okOne; rw [if_neg (by decide), ← HB.out]; omega⟩
            have HD2 : Hid (D * 10 + ((t[3].toNat : Int) - 48) = partD t 4) := by unfold Hid; rw [HB.out, HD.out]; rfl
            have hs := partD_small t 4 (by omega) HO2.out
            rw [← HD2.out] at hs
            go_wp2
            go_roundw
            case rel => exact ⟨4, _, by omega, rfl, rfl, by omega, by omega, HD2, HO2, _, HW⟩
            case measure => simp [intOf]
      · have hlt : 4 < t.size := by omega
        have HB := hide (byteAt_of t 4 hlt)
        by_cases h1 : (t[4].toNat : Int) = 45
        · have HO2 : Hid (okTo t 5) := ⟨HO.out, by unfold okOne; rw [if_pos (by decide), ← HB.out]; exact h1⟩
          have HD2 : Hid (D = partD t 5) := HD.out
          go_wp2
          go_region
          go_wp2
          go_roundw
          case rel => exact ⟨5, D, by omega, rfl, rfl, hD0, hD1, HD2, HO2, m + 1, by rw [HW.out]; rfl⟩
          case measure => simp [intOf]
        · have HN := hide (readP_no t 4 (by omega) (by unfold okOne; rw [if_pos (by decide), ← HB.out]; exact h1))
          have hf : ((({ data := #[48, 48, 48, 48, 45, 48, 48, 45, 48, 48] } : ByteArray)[4]'(by decide)).toNat : Int) = 45 := by decide
          go_wp2
          go_region
          go_wp2
          go_ret2
          exact ⟨by rw [HN.out]; rfl, m + 1, by rw [HW.out]; rfl⟩
      · have hlt : 5 < t.size := by omega
        have HB := hide (byteAt_of t 5 hlt)
        have hb255 : (t[5].toNat : Int) ≤ 255 := by have := t[5].toNat_lt; omega
        by_cases h1 : (t[5].toNat : Int) < 48
        · have HN := hide (readP_no t 5 (by omega) (by unfold okOne; rw [if_neg (by decide), ← HB.out]; omega))
          go_wp2
          go_ret2
          exact ⟨by rw [HN.out]; rfl, _, HW⟩
        · by_cases h2 : 57 < (t[5].toNat : Int)
          · have HN := hide (readP_no t 5 (by omega) (by unfold okOne; rw [if_neg (by decide), ← HB.out]; omega))
            go_wp2
            go_ret2
            exact ⟨by rw [HN.out]; rfl, _, HW⟩
          · have HO2 : Hid (okTo t 6) := ⟨HO.out, by unfold okOne; rw [if_neg (by decide), ← HB.out]; omega⟩
            have HD2 : Hid (D * 10 + ((t[5].toNat : Int) - 48) = partD t 6) := by unfold Hid; rw [HB.out, HD.out]; rfl
            have hs := partD_small t 6 (by omega) HO2.out
            rw [← HD2.out] at hs
            go_wp2
            go_roundw
            case rel => exact ⟨6, _, by omega, rfl, rfl, by omega, by omega, HD2, HO2, _, HW⟩
            case measure => simp [intOf]
      · have hlt : 6 < t.size := by omega
        have HB := hide (byteAt_of t 6 hlt)
        have hb255 : (t[6].toNat : Int) ≤ 255 := by have := t[6].toNat_lt; omega
        by_cases h1 : (t[6].toNat : Int) < 48
        · have HN := hide (readP_no t 6 (by omega) (by unfold okOne; rw [if_neg (by decide), ← HB.out]; omega))
          go_wp2
          go_ret2
          exact ⟨by rw [HN.out]; rfl, _, HW⟩
        · by_cases h2 : 57 < (t[6].toNat : Int)
          · have HN := hide (readP_no t 6 (by omega) (by unfold okOne; rw [if_neg (by decide), ← HB.out]; omega))
            go_wp2
            go_ret2
            exact ⟨by rw [HN.out]; rfl, _, HW⟩
          · have HO2 : Hid (okTo t 7) := ⟨HO.out, by unfold okOne; rw [if_neg (by decide), ← HB.out]; omega⟩
            have HD2 : Hid (D * 10 + ((t[6].toNat : Int) - 48) = partD t 7) := by unfold Hid; rw [HB.out, HD.out]; rfl
            have hs := partD_small t 7 (by omega) HO2.out
            rw [← HD2.out] at hs
            go_wp2
            go_roundw
            case rel => exact ⟨7, _, by omega, rfl, rfl, by omega, by omega, HD2, HO2, _, HW⟩
            case measure => simp [intOf]
      · have hlt : 7 < t.size := by omega
        have HB := hide (byteAt_of t 7 hlt)
        by_cases h1 : (t[7].toNat : Int) = 45
        · have HO2 : Hid (okTo t 8) := ⟨HO.out, by unfold okOne; rw [if_pos (by decide), ← HB.out]; exact h1⟩
          have HD2 : Hid (D = partD t 8) := HD.out
          go_wp2
          go_region
          go_wp2
          go_roundw
          case rel => exact ⟨8, D, by omega, rfl, rfl, hD0, hD1, HD2, HO2, m + 1, by rw [HW.out]; rfl⟩
          case measure => simp [intOf]
        · have HN := hide (readP_no t 7 (by omega) (by unfold okOne; rw [if_pos (by decide), ← HB.out]; exact h1))
          have hf : ((({ data := #[48, 48, 48, 48, 45, 48, 48, 45, 48, 48] } : ByteArray)[7]'(by decide)).toNat : Int) = 45 := by decide
          go_wp2
          go_region
          go_wp2
          go_ret2
          exact ⟨by rw [HN.out]; rfl, m + 1, by rw [HW.out]; rfl⟩
      · have hlt : 8 < t.size := by omega
        have HB := hide (byteAt_of t 8 hlt)
        have hb255 : (t[8].toNat : Int) ≤ 255 := by have := t[8].toNat_lt; omega
        by_cases h1 : (t[8].toNat : Int) < 48
        · have HN := hide (readP_no t 8 (by omega) (by unfold okOne; rw [if_neg (by decide), ← HB.out]; omega))
          go_wp2
          go_ret2
          exact ⟨by rw [HN.out]; rfl, _, HW⟩
        · by_cases h2 : 57 < (t[8].toNat : Int)
          · have HN := hide (readP_no t 8 (by omega) (by unfold okOne; rw [if_neg (by decide), ← HB.out]; omega))
            go_wp2
            go_ret2
            exact ⟨by rw [HN.out]; rfl, _, HW⟩
          · have HO2 : Hid (okTo t 9) := ⟨HO.out, by unfold okOne; rw [if_neg (by decide), ← HB.out]; omega⟩
            have HD2 : Hid (D * 10 + ((t[8].toNat : Int) - 48) = partD t 9) := by unfold Hid; rw [HB.out, HD.out]; rfl
            have hs := partD_small t 9 (by omega) HO2.out
            rw [← HD2.out] at hs
            go_wp2
            go_roundw
            case rel => exact ⟨9, _, by omega, rfl, rfl, by omega, by omega, HD2, HO2, _, HW⟩
            case measure => simp [intOf]
      · have hlt : 9 < t.size := by omega
        have HB := hide (byteAt_of t 9 hlt)
        have hb255 : (t[9].toNat : Int) ≤ 255 := by have := t[9].toNat_lt; omega
        by_cases h1 : (t[9].toNat : Int) < 48
        · have HN := hide (readP_no t 9 (by omega) (by unfold okOne; rw [if_neg (by decide), ← HB.out]; omega))
          go_wp2
          go_ret2
          exact ⟨by rw [HN.out]; rfl, _, HW⟩
        · by_cases h2 : 57 < (t[9].toNat : Int)
          · have HN := hide (readP_no t 9 (by omega) (by unfold okOne; rw [if_neg (by decide), ← HB.out]; omega))
            go_wp2
            go_ret2
            exact ⟨by rw [HN.out]; rfl, _, HW⟩
          · have HO2 : Hid (okTo t 10) := ⟨HO.out, by unfold okOne; rw [if_neg (by decide), ← HB.out]; omega⟩
            have HD2 : Hid (D * 10 + ((t[9].toNat : Int) - 48) = partD t 10) := by unfold Hid; rw [HB.out, HD.out]; rfl
            have hs := partD_small t 10 (by omega) HO2.out
            rw [← HD2.out] at hs
            go_wp2
            go_roundw
            case rel => exact ⟨10, _, by omega, rfl, rfl, by omega, by omega, HD2, HO2, _, HW⟩
            case measure => simp [intOf]
      · have HF := hide (HR.out HO.out)
        go_wp2
        go_ret2
        exact ⟨by rw [HF.out, HD.out]; rfl, _, HW⟩
  · have HN : Hid (readP t = (0, false)) := by unfold Hid readP; rw [if_neg (fun h => h10 h.1)]
    have h10' : ¬ (t.size : Int) = 10 := by omega
    go_enter Tryz.func175, Tryz.ntmps175
    go_wp2
    go_ret2
    exact ⟨by rw [HN.out]; rfl, 0, rfl⟩

end Go.Proofs.YthnjmfkiohgkkaaGreatDoor.Ca

namespace Go.Proofs.YthnjmfkiohgkkaaGreatDoor.Ca
open Go.RowKit

/-- What Parse answers. -/
noncomputable def parseQ (t : ByteArray) : Int × Int := if (readP t).2 = true then ofP ((readP t).1 / 10000) ((readP t).1 / 100 % 100) ((readP t).1 % 100) else (0, 31)

theorem readP_bd (t : ByteArray) : 0 ≤ (readP t).1 ∧ (readP t).1 ≤ 10000000000 := by
  unfold readP
  split
  · next h => exact partD_small t 10 (by omega) h.2
  · simp

set_option maxHeartbeats 400000 in
theorem parse_any (t : ByteArray) (w : World) :
    Calls Tryz.prog 155 #[.string t] w fun e w' => e = .returned (duo (parseQ t)) ∧ Below w.heap.size w w' := by
  have hbd := readP_bd t
  generalize hr : readP t = r at hbd
  obtain ⟨D, b⟩ := r
  obtain ⟨hD0, hD1⟩ := hbd
  simp only at hD0 hD1
  have HR := hide hr
  have HP : Hid (parseQ t = if b = true then ofP (D / 10000) (D / 100 % 100) (D % 100) else (0, 31)) := by unfold Hid parseQ; rw [hr]
  clear hr
  go_enter Tryz.func155, Tryz.ntmps155
  go_wp2_with fail
  refine (readDigits_any _ _).mono ?_
  rintro e w1 ⟨rfl, n, rfl⟩
  rw [HR.out, duoB]
  cases b
  · go_wp2
    go_ret2
    exact ⟨by rw [HP.out]; rfl, drewN_below _ _ _⟩
  · go_wp2_with fail
    refine (of_any _ _ _ _).mono ?_
    rintro e w2 ⟨rfl, hb⟩
    have HQ : Hid (ofP (D / 10000) (D / 100 % 100) (D % 100) = parseQ t) := by unfold Hid; rw [HP.out]; simp
    rw [HQ.out, duo]
    go_wp2
    go_ret2
    exact ⟨rfl, (drewN_below _ _ _).trans hb⟩

end Go.Proofs.YthnjmfkiohgkkaaGreatDoor.Ca
