import Derived.WalkKit
import Derived.Test.YtbpphlmakmeoaaaGreatDoorProg
import Derived.WalkSpells
import Derived.WalkLawsBesides
import Derived.Deep.RegionHeld3
import Derived.BigQuiet
import Derived.Deep.QuietTactic
import Derived.Laws.BytesArg
import Derived.Lib.SlBytesConst
set_option maxHeartbeats 1600000
namespace Go.Proofs.YtbpphlmakmeoaaaGreatDoor.Ca
def kj (y : Int) : Bool := decide (y % 4 = 0) && (!decide (y % 100 = 0) || decide (y % 400 = 0))
theorem nC (y : Int) : kj y = true ↔ (y % 4 = 0 ∧ (y % 100 ≠ 0 ∨ y % 400 = 0)) := by simp [kj]
def iQ (y m : Int) : Int := if m = 2 then (if kj y then 29 else 28) else if m = 4 ∨ m = 6 ∨ m = 9 ∨ m = 11 then 30 else 31
def j4 (y : Int) : Int := if kj y then 366 else 365
def ge (y : Int) : Int := (y - 1) * 365 + (y - 1) / 4 - (y - 1) / 100 + (y - 1) / 400
def before (y : Int) : Nat → Int
  | 0 => 0
  | k + 1 => before y k + iQ y (k + 1 : Nat)
structure Day (y m d : Int) : Prop where
  y1 : 1 ≤ y
  y2 : y ≤ 9999
  m1 : 1 ≤ m
  m2 : m ≤ 12
  d1 : 1 ≤ d
  d2 : d ≤ iQ y m
def gk (y m d : Int) : Int := ge y + before y (m - 1).toNat + d
theorem jF (y m : Int) : 28 ≤ iQ y m ∧ iQ y m ≤ 31 := by
  unfold iQ; split
  · split <;> omega
  · split <;> omega
theorem mS (y : Int) : 365 ≤ j4 y ∧ j4 y ≤ 366 := by unfold j4; split <;> omega
theorem ja (y : Int) (k : Nat) : before y (k + 1) = before y k + iQ y (k + 1 : Nat) := rfl
theorem lO (y : Int) : ∀ (j k : Nat), j ≤ k → before y j ≤ before y k := by
  intro j k h
  induction k with
  | zero => have : j = 0 := by omega
            subst this; exact Int.le_refl _
  | succ k ih =>
    rcases Nat.lt_or_ge k j with h1 | h1
    · have : j = k + 1 := by omega
      subst this; exact Int.le_refl _
    · have := ih h1
      have := jF y (k + 1 : Nat)
      rw [ja]; omega
theorem mZ (y : Int) (k : Nat) : 0 ≤ before y k := lO y 0 k (Nat.zero_le _)
theorem mX (y : Int) : before y 12 = j4 y := by
  simp only [before, iQ, j4]
  cases kj y <;> decide
theorem rz (y : Int) (k : Nat) (h : k ≤ 12) : before y k ≤ j4 y := by
  rw [← mX]; exact lO y _ _ h
theorem mI (y : Int) (_h : 1 ≤ y) : ge (y + 1) = ge y + j4 y := by
  unfold ge j4
  cases hl : kj y with
  | true => have := (nC y).1 hl
            simp only [if_true]; omega
  | false =>
    have : ¬ (y % 4 = 0 ∧ (y % 100 ≠ 0 ∨ y % 400 = 0)) := fun h' => by simp [(nC y).2 h'] at hl
    simp only [Bool.false_eq_true, if_false]; omega
theorem zu (y : Int) (k : Nat) (h : 1 ≤ y) : ge y ≤ ge (y + k) := by
  induction k with
  | zero => simp
  | succ k ih =>
    have e := mI (y + k) (by omega)
    have := mS (y + k)
    rw [show y + ((k + 1 : Nat) : Int) = y + k + 1 by omega, e]; omega
theorem vm {y z : Int} (h : 1 ≤ y) (hz : y ≤ z) : ge y ≤ ge z := by
  have := zu y (z - y).toNat h
  rwa [show y + ((z - y).toNat : Int) = z by omega] at this
theorem pj {y z : Int} (h : 1 ≤ y) (hz : y < z) : ge y + j4 y ≤ ge z := by
  rw [← mI y h]; exact vm (by omega) (by omega)
theorem sp {y : Int} (h : 1 ≤ y) : 0 ≤ ge y := by unfold ge; omega
theorem Day.before_d {y m d : Int} (h : Day y m d) : before y (m - 1).toNat + d ≤ before y m.toNat := by
  have := h.m1; have := h.d2
  rw [show m.toNat = (m - 1).toNat + 1 by omega, ja, show (((m - 1).toNat + 1 : Nat) : Int) = m by omega]
  omega
theorem Day.inYear {y m d : Int} (h : Day y m d) : 1 ≤ before y (m - 1).toNat + d ∧ before y (m - 1).toNat + d ≤ j4 y := by
  have := h.m2; have := h.d1
  have := mZ y (m - 1).toNat
  have := h.before_d
  have := rz y m.toNat (by omega)
  omega
theorem Day.num_pos {y m d : Int} (h : Day y m d) : 1 ≤ gk y m d ∧ gk y m d ≤ 3652059 := by
  have := h.inYear
  have := sp h.y1
  have e : ge 10000 = 3652059 := by decide
  have := pj h.y1 (show y < 10000 by have := h.y2; omega)
  unfold gk; omega
theorem Day.lt {y m d z k f : Int} (h : Day y m d) (h' : Day z k f) (hlt : y < z ∨ (y = z ∧ (m < k ∨ (m = k ∧ d < f)))) : gk y m d < gk z k f := by
  have a := h.inYear
  have b := h'.inYear
  have h1 := h.m1
  have h1' := h'.m1
  rcases hlt with hy | ⟨rfl, hm | ⟨rfl, hd⟩⟩
  · have := pj h.y1 hy
    unfold gk; omega
  · have := h.before_d
    have := lO y m.toNat (k - 1).toNat (by omega)
    have := h'.d1
    unfold gk; omega
  · unfold gk; omega
theorem Day.only {y m d z k f : Int} (h : Day y m d) (h' : Day z k f) (he : gk y m d = gk z k f) : y = z ∧ m = k ∧ d = f := by
  by_cases hc : y = z ∧ m = k ∧ d = f
  · exact hc
  · exfalso
    have : (y < z ∨ (y = z ∧ (m < k ∨ (m = k ∧ d < f)))) ∨ (z < y ∨ (z = y ∧ (k < m ∨ (k = m ∧ f < d)))) := by omega
    rcases this with c | c
    · have := h.lt h' c; omega
    · have := h'.lt h c; omega
def mL (y m d : Int) : Int × Int × Int := if d < iQ y m then (y, m, d + 1) else if m < 12 then (y, m + 1, 1) else (y + 1, 1, 1)
theorem yV : gk 9999 12 31 = 3652059 := by decide
theorem yD (y : Int) : iQ y 12 = 31 := by simp [iQ]
theorem yp {y m d : Int} (h : Day y m d) (hx : gk y m d < 3652059) : Day (mL y m d).1 (mL y m d).2.1 (mL y m d).2.2 ∧ gk (mL y m d).1 (mL y m d).2.1 (mL y m d).2.2 = gk y m d + 1 := by
  obtain ⟨y1, y2, m1, m2, d1, d2⟩ := h
  unfold mL
  by_cases hd : d < iQ y m
  · rw [if_pos hd]
    exact ⟨⟨y1, y2, m1, m2, by simp only; omega, by simp only; omega⟩, by simp only [gk]; omega⟩
  · rw [if_neg hd]
    have hd' : d = iQ y m := by omega
    by_cases hm : m < 12
    · rw [if_pos hm]
      have := jF y (m + 1)
      refine ⟨⟨y1, y2, by simp only; omega, by simp only; omega, by simp, by simp only; omega⟩, ?_⟩
      simp only [gk]
      rw [show (m + 1 - 1).toNat = (m - 1).toNat + 1 by omega, ja, show (((m - 1).toNat + 1 : Nat) : Int) = m by omega]
      omega
    · rw [if_neg hm]
      have hm' : m = 12 := by omega
      subst hm'
      have h31 := yD y
      have hy : y < 9999 := by
        rcases Int.lt_or_le y 9999 with h | h
        · exact h
        · have : y = 9999 := by omega
          subst this
          rw [hd', h31, yV] at hx; omega
      have := jF (y + 1) 1
      refine ⟨⟨by simp only; omega, by simp only; omega, by simp, by simp, by simp, by simp only; omega⟩, ?_⟩
      simp only [gk]
      rw [mI y y1, ← mX]
      rw [show ((1 : Int) - 1).toNat = 0 by rfl, show ((12 : Int) - 1).toNat = 11 by rfl]
      rw [ja y 11, show (((11 + 1 : Nat)) : Int) = 12 by rfl, hd']
      simp only [before]; omega
theorem nD (x : Int) (h1 : 1 ≤ x) (h2 : x ≤ 3652059) : ∃ y m d, Day y m d ∧ gk y m d = x := by
  have : ∀ n : Nat, (n : Int) + 1 ≤ 3652059 → ∃ y m d, Day y m d ∧ gk y m d = (n : Int) + 1 := by
    intro n
    induction n with
    | zero => intro _; exact ⟨1, 1, 1, ⟨by omega, by omega, by omega, by omega, by omega, by decide⟩, by decide⟩
    | succ n ih =>
      intro hn
      obtain ⟨y, m, d, hd, he⟩ := ih (by omega)
      have := yp hd (by omega)
      exact ⟨_, _, _, this.1, by rw [this.2, he]; omega⟩
  have := this (x - 1).toNat (by omega)
  rwa [show (((x - 1).toNat : Nat) : Int) + 1 = x by omega] at this
end Go.Proofs.YtbpphlmakmeoaaaGreatDoor.Ca
namespace Go.Proofs.YtbpphlmakmeoaaaGreatDoor.Ca
open Go.RowKit
theorem ec {p : Prop} (h : p) : Hid p := h
theorem gl {k : IntKind} {a b : Int} (h : a = b) : Ending.returned (.int k a) = .returned (.int k b) := by rw [h]
theorem fO {a b : Bool} (h : a = b) : Ending.returned (.bool a) = .returned (.bool b) := by rw [h]
def O6 (x : Int) : Bool := decide (1 ≤ x ∧ x ≤ 3652059)
def O3 (y m : Int) : Bool := decide (1 ≤ y ∧ y ≤ 9999 ∧ 1 ≤ m ∧ m ≤ 12)
theorem n9 (y m : Int) (w : World) (h1 : 1 ≤ y) (h2 : y ≤ 9999) (h3 : 1 ≤ m) (h4 : m ≤ 12) : Calls Tryz.prog 361 #[.int .i64 y, .int .i64 m] w fun e w' => e = .returned (.bool true) ∧ w' = w := by
  go_enter Tryz.func361, Tryz.ntmps361
  go_wp2
  go_ret
  exact ⟨rfl, rfl⟩
theorem vl (y m : Int) (w : World) (h : ¬ (1 ≤ y ∧ y ≤ 9999 ∧ 1 ≤ m ∧ m ≤ 12)) : Calls Tryz.prog 361 #[.int .i64 y, .int .i64 m] w fun e w' => e = .returned (.bool false) ∧ w' = w := by
  by_cases h1 : 1 ≤ y
  · by_cases h2 : y ≤ 9999
    · by_cases h3 : 1 ≤ m
      · have h4 : 12 < m := by omega
        clear h
        go_enter Tryz.func361, Tryz.ntmps361
        go_wp2
        go_ret
        exact ⟨fO (by simp; omega), rfl⟩
      · clear h
        go_enter Tryz.func361, Tryz.ntmps361
        go_wp2
        go_ret
        exact ⟨rfl, rfl⟩
    · clear h
      go_enter Tryz.func361, Tryz.ntmps361
      go_wp2
      go_ret
      exact ⟨rfl, rfl⟩
  · clear h
    go_enter Tryz.func361, Tryz.ntmps361
    go_wp2
    go_ret
    exact ⟨rfl, rfl⟩
theorem pG (y : Int) (w : World) (h1 : 0 ≤ y) (h2 : y ≤ 10000) : Calls Tryz.prog 332 #[.int .i64 y] w fun e w' => e = .returned (.bool (kj y)) ∧ w' = w := by
  go_enter Tryz.func332, Tryz.ntmps332
  go_wp2
  all_goals
    go_ret
    refine ⟨fO ?_, rfl⟩
    first
      | (simp [kj, *]; done)
      | (simp [kj, *]; rfl)
theorem fm (y : Int) (w : World) (h1 : 1 ≤ y) (h2 : y ≤ 10000) : Calls Tryz.prog 308 #[.int .i64 y] w fun e w' => e = .returned (.int .i64 (ge y)) ∧ w' = w := by
  go_enter Tryz.func308, Tryz.ntmps308
  go_wp2
  go_ret
  exact ⟨gl (by unfold ge; omega), rfl⟩
end Go.Proofs.YtbpphlmakmeoaaaGreatDoor.Ca
namespace Go.Proofs.YtbpphlmakmeoaaaGreatDoor.Ca
open Go.RowKit
theorem iY (y m : Int) (w : World) (h1 : 0 ≤ y) (h2 : y ≤ 10000) (h3 : 1 ≤ m) (h4 : m ≤ 12) :
    Calls Tryz.prog 307 #[.int .i64 y, .int .i64 m] w fun e w' => e = .returned (.int .i64 (iQ y m)) ∧ Below w.heap.size w w' := by
  by_cases hm : m = 2
  · subst hm
    cases hl : kj y with
    | true =>
      have HE := ec (show iQ y 2 = 29 by simp [iQ, hl])
      have HL := ec hl
      clear hl
      go_enter Tryz.func307, Tryz.ntmps307
      go_wp2_with (go_at_call 332; refine (pG _ _ (by omega) (by omega)).mono ?_; rintro e w' ⟨rfl, rfl⟩; rw [HL.out])
      go_ret
      exact ⟨gl (by rw [HE.out]), Below.refl _ _⟩
    | false =>
      have HE := ec (show iQ y 2 = 28 by simp [iQ, hl])
      have HL := ec hl
      clear hl
      go_enter Tryz.func307, Tryz.ntmps307
      go_wp2_with (go_at_call 332; refine (pG _ _ (by omega) (by omega)).mono ?_; rintro e w' ⟨rfl, rfl⟩; rw [HL.out])
      go_ret
      exact ⟨gl (by rw [HE.out]), (Below.refl _ _).alloc (Nat.le_refl _) _⟩
  · have hc : m = 1 ∨ m = 3 ∨ m = 4 ∨ m = 5 ∨ m = 6 ∨ m = 7 ∨ m = 8 ∨ m = 9 ∨ m = 10 ∨ m = 11 ∨ m = 12 := by omega
    clear hm h3 h4
    rcases hc with rfl | rfl | rfl | rfl | rfl | rfl | rfl | rfl | rfl | rfl | rfl
    all_goals
      go_enter Tryz.func307, Tryz.ntmps307
      go_wp2
      go_ret
      exact ⟨gl (by simp [iQ]), (Below.refl _ _).alloc (Nat.le_refl _) _⟩
end Go.Proofs.YtbpphlmakmeoaaaGreatDoor.Ca
namespace Go.Proofs.YtbpphlmakmeoaaaGreatDoor.Ca
open Go.RowKit
theorem zv {W w1 : World} (hb : Below W.heap.size W w1) : (∀ b o, b < W.heap.size → w1.cell? ⟨b, o, none⟩ = W.cell? ⟨b, o, none⟩) ∧ (∀ b o, b < W.heap.size → w1.frozen? ⟨b, o, none⟩ = W.frozen? ⟨b, o, none⟩) :=
  ⟨fun b o h => hb.cell (p := ⟨b, o, none⟩) h, fun b o h => hb.frozen (p := ⟨b, o, none⟩) h⟩
theorem kC (w : World) (m B : Nat) : Below B w (w.drewN m) := ⟨rfl, rfl, rfl, Nat.le_refl _, fun _ _ => rfl⟩
abbrev Box (B : Nat) (w : World) (y m d : Int) (W : World) : Prop :=
  W.cell? ⟨B, 0, none⟩ = some (.int .i64 y) ∧ W.cell? ⟨B, 1, none⟩ = some (.int .i64 m) ∧ W.cell? ⟨B, 2, none⟩ = some (.int .i64 d) ∧ B < W.heap.size ∧ Below B w W
theorem Box.mk {w : World} {y m d : Int} : Box w.heap.size w y m d (w.alloc (.cells #[.int .i64 y, .int .i64 m, .int .i64 d] 284)) :=
  ⟨by simp, by simp, by simp, by simp, (Below.refl _ _).alloc (Nat.le_refl _) _⟩
theorem Box.below {B : Nat} {w W W' : World} {y m d : Int} (h : Box B w y m d W) (hb : Below W.heap.size W W') : Box B w y m d W' := by
  obtain ⟨h0, h1, h2, h3, h4⟩ := h
  obtain ⟨hc, _⟩ := zv hb
  exact ⟨(hc B 0 h3).trans h0, (hc B 1 h3).trans h1, (hc B 2 h3).trans h2, by have := hb.size; omega, h4.trans (hb.mono (by omega))⟩
theorem Box.drew {B : Nat} {w W : World} {y m d : Int} (h : Box B w y m d W) : Box B w y m d W.drew := by
  obtain ⟨h0, h1, h2, h3, h4⟩ := h
  exact ⟨by simpa using h0, by simpa using h1, by simpa using h2, by simpa using h3, h4.drew⟩
theorem rM (y m d : Int) (w : World) (h1 : 1 ≤ y) (h2 : y ≤ 9999) (h3 : 1 ≤ m) (h4 : m ≤ 12) (h5 : 1 ≤ d) :
    Calls Tryz.prog 344 #[.agg #[.int .i64 y, .int .i64 m, .int .i64 d]] w fun e w' => e = .returned (.bool (decide (d ≤ iQ y m))) ∧ Below w.heap.size w w' := by
  have hd : decide (1 ≤ d) = true := by simpa using h5
  have hml := jF y m
  have HB := Box.mk (w := w) (y := y) (m := m) (d := d)
  go_enter Tryz.func344, Tryz.ntmps344
  go_wp2_with fail
  generalize w.alloc (.cells #[.int .i64 y, .int .i64 m, .int .i64 d] 284) = W at HB ⊢
  generalize hB : w.heap.size = B at HB ⊢
  have HE := ec hB
  clear hB
  go_region_held3 (fun X : World => X.cell? ⟨B, 0, none⟩ = some (.int .i64 y) ∧ X.cell? ⟨B, 1, none⟩ = some (.int .i64 m) ∧ X.cell? ⟨B, 2, none⟩ = some (.int .i64 d) ∧ B < X.heap.size ∧ Below B w X) (first | exact Box.drew ‹_› | assumption | exact Box.below ‹_› ‹_›) (first | (go_at_call 361; refine (n9 _ _ _ (by omega) (by omega) (by omega) (by omega)).mono ?_; rintro e w' ⟨rfl, rfl⟩) | (go_at_call 307; refine (iY _ _ _ (by omega) (by omega) (by omega) (by omega)).mono ?_; rintro e w32 ⟨rfl, hb⟩))
  rename_i hS
  go_wp2
  go_ret
  exact ⟨rfl, by rw [HE.out]; exact hS.2.2.2.2⟩
theorem tT (y m d : Int) (w : World) (h1 : 1 ≤ y) (h2 : y ≤ 9999) (h3 : 1 ≤ m) (h4 : m ≤ 12) (h5 : d < 1) :
    Calls Tryz.prog 344 #[.agg #[.int .i64 y, .int .i64 m, .int .i64 d]] w fun e w' => e = .returned (.bool false) ∧ Below w.heap.size w w' := by
  have hd : decide (1 ≤ d) = false := by simp; omega
  go_enter Tryz.func344, Tryz.ntmps344
  go_wp2_with fail
  go_quiet ((go_at_call 361; exact Calls.quiet_of_same (n9 _ _ _ (by omega) (by omega) (by omega) (by omega))))
  go_wp2
  go_ret
  exact ⟨rfl, ((Below.refl _ _).alloc (Nat.le_refl _) _).trans (kC _ _ _)⟩
theorem sf (y m d : Int) (w : World) (h : ¬ (1 ≤ y ∧ y ≤ 9999 ∧ 1 ≤ m ∧ m ≤ 12)) :
    Calls Tryz.prog 344 #[.agg #[.int .i64 y, .int .i64 m, .int .i64 d]] w fun e w' => e = .returned (.bool false) ∧ Below w.heap.size w w' := by
  have HN := ec h
  clear h
  go_enter Tryz.func344, Tryz.ntmps344
  go_wp2_with fail
  go_quiet ((go_at_call 361; exact Calls.quiet_of_same (vl _ _ _ HN.out)))
  go_wp2
  go_ret
  exact ⟨rfl, ((Below.refl _ _).alloc (Nat.le_refl _) _).trans (kC _ _ _)⟩
instance (y m d : Int) : Decidable (Day y m d) :=
  decidable_of_iff (1 ≤ y ∧ y ≤ 9999 ∧ 1 ≤ m ∧ m ≤ 12 ∧ 1 ≤ d ∧ d ≤ iQ y m) ⟨fun ⟨a, b, c, d, e, f⟩ => ⟨a, b, c, d, e, f⟩, fun ⟨a, b, c, d, e, f⟩ => ⟨a, b, c, d, e, f⟩⟩
theorem vX (y m d : Int) (w : World) (h : Day y m d) :
    Calls Tryz.prog 344 #[.agg #[.int .i64 y, .int .i64 m, .int .i64 d]] w fun e w' => e = .returned (.bool true) ∧ Below w.heap.size w w' := by
  have := rM y m d w h.y1 h.y2 h.m1 h.m2 h.d1
  rwa [decide_eq_true h.d2] at this
theorem wX (y m d : Int) (w : World) (h : ¬ Day y m d) :
    Calls Tryz.prog 344 #[.agg #[.int .i64 y, .int .i64 m, .int .i64 d]] w fun e w' => e = .returned (.bool false) ∧ Below w.heap.size w w' := by
  by_cases hm : 1 ≤ y ∧ y ≤ 9999 ∧ 1 ≤ m ∧ m ≤ 12
  · obtain ⟨h1, h2, h3, h4⟩ := hm
    by_cases h5 : 1 ≤ d
    · have := rM y m d w h1 h2 h3 h4 h5
      rwa [decide_eq_false (fun h6 => h ⟨h1, h2, h3, h4, h5, h6⟩)] at this
    · exact tT y m d w h1 h2 h3 h4 (by omega)
  · exact sf y m d w hm
end Go.Proofs.YtbpphlmakmeoaaaGreatDoor.Ca
namespace Go.Proofs.YtbpphlmakmeoaaaGreatDoor.Ca
open Go.RowKit
theorem lB (y : Int) (k : Nat) (h : k ≤ 12) : 0 ≤ before y k ∧ before y k ≤ 366 := by
  have := mZ y k
  have := rz y k h
  have := mS y
  omega
theorem od {y : Int} (h1 : 1 ≤ y) (h2 : y ≤ 10000) : 0 ≤ ge y ∧ ge y ≤ 3652059 := by unfold ge; omega
theorem yj {y m d : Int} {k : Nat} (h : (k : Int) = m - 1) : ge y + before y k + d = gk y m d := by
  unfold gk; rw [show (m - 1).toNat = k by omega]
theorem mE (y m d : Int) (w : World) (h : Day y m d) :
    Calls Tryz.prog 345 #[.agg #[.int .i64 y, .int .i64 m, .int .i64 d]] w fun e w' => e = .returned (.int .i64 (gk y m d)) ∧ Below w.heap.size w w' := by
  obtain ⟨h1, h2, h3, h4, h5, h6⟩ := h
  have hml := jF y m
  have hal := od h1 (by omega)
  have HA := ec (show ge y = (y - 1) * 365 + (y - 1) / 4 - (y - 1) / 100 + (y - 1) / 400 from rfl)
  have HB := Box.mk (w := w) (y := y) (m := m) (d := d)
  go_enter Tryz.func345, Tryz.ntmps345
  go_wp2_with fail
  generalize w.alloc (.cells #[.int .i64 y, .int .i64 m, .int .i64 d] 284) = W at HB ⊢
  generalize hB : w.heap.size = B at HB ⊢
  have HE := ec hB
  clear hB
  have HBx := ec HB
  obtain ⟨c0, c1, c2, c3, c4⟩ := HB
  clear c3 c4
  go_wp2_with fail
  go_loopw [4, 23] (fun s i wr => ∃ k : Nat, (k : Int) ≤ m - 1 ∧ i = .int .i64 k ∧ s = .int .i64 (ge y + before y k) ∧ Hid (Box B w y m d wr)) (fun _ i _ => (12 - intOf i).toNat)
  case atStart => exact ⟨0, by omega, rfl, by simp [before, ge], HBx⟩
  case round =>
    clear c0 c1 c2 HBx HA
    obtain ⟨k, hk, rfl, rfl, HBx⟩ := hrel
    have hbs := lB y k (by omega)
    have HB := HBx.out
    obtain ⟨c0, c1, c2, c3, c4⟩ := HB
    clear c3 c4
    by_cases hlt : (k : Int) < m - 1
    · have hml' := jF y (k + 1)
      have HS := ec (ja y k)
      go_wp2_with (go_at_call 307; refine (iY _ _ _ (by omega) (by omega) (by omega) (by omega)).mono ?_; rintro e w32 ⟨rfl, hb⟩)
      go_roundw
      case rel => exact ⟨k + 1, by omega, by go_num, by rw [HS.out]; simp; omega, HBx.out.below hb⟩
      case measure => simp [intOf]; omega
    · have HN := ec (yj (y := y) (m := m) (d := d) (k := k) (by omega))
      go_wp2
      go_ret
      exact ⟨gl HN.out, by rw [HE.out]; exact HBx.out.2.2.2.2⟩
def rK (y m d : Int) : Int × Int := if Day y m d then (gk y m d, 0) else (0, 31)
def duo (p : Int × Int) : Value := .tuple #[.int .i64 p.1, .int .i64 p.2]
theorem D5 (y m d : Int) (w : World) :
    Calls Tryz.prog 324 #[.int .i64 y, .int .i64 m, .int .i64 d] w fun e w' => e = .returned (duo (rK y m d)) ∧ Below w.heap.size w w' := by
  have HB := Box.mk (w := w) (y := y) (m := m) (d := d)
  by_cases hd : Day y m d
  · have HO := ec (show rK y m d = (gk y m d, 0) by simp [rK, hd])
    have HD := ec hd
    clear hd
    go_enter Tryz.func324, Tryz.ntmps324
    go_wp2_with fail
    generalize w.alloc (.cells #[.int .i64 y, .int .i64 m, .int .i64 d] 284) = W at HB ⊢
    generalize hB : w.heap.size = B at HB ⊢
    have HE := ec hB
    clear hB
    refine (vX _ _ _ _ HD.out).mono ?_
    rintro e w1 ⟨rfl, hb⟩
    have HB1 := ec (HB.below hb)
    clear HB hb
    have HB := HB1.out
    obtain ⟨c0, c1, c2, c3, c4⟩ := HB
    clear c3 c4
    go_wp2_with fail
    refine (mE _ _ _ _ HD.out).mono ?_
    rintro e w2 ⟨rfl, hb⟩
    have HB2 := ec (HB1.out.below hb)
    clear c0 c1 c2 HB1 hb
    go_wp2
    go_ret2
    refine ⟨by rw [HO.out]; rfl, by rw [HE.out]; exact HB2.out.2.2.2.2⟩
  · have HO := ec (show rK y m d = (0, 31) by simp [rK, hd])
    have HD := ec hd
    clear hd
    go_enter Tryz.func324, Tryz.ntmps324
    go_wp2_with fail
    generalize w.alloc (.cells #[.int .i64 y, .int .i64 m, .int .i64 d] 284) = W at HB ⊢
    generalize hB : w.heap.size = B at HB ⊢
    have HE := ec hB
    clear hB
    refine (wX _ _ _ _ HD.out).mono ?_
    rintro e w1 ⟨rfl, hb⟩
    have HB1 := ec (HB.below hb)
    clear HB hb
    go_wp2
    go_ret2
    refine ⟨by rw [HO.out]; rfl, by rw [HE.out]; exact HB1.out.2.2.2.2⟩
def O1 (y m : Int) : Int × Int := if 1 ≤ y ∧ y ≤ 9999 ∧ 1 ≤ m ∧ m ≤ 12 then (iQ y m, 0) else (0, 31)
end Go.Proofs.YtbpphlmakmeoaaaGreatDoor.Ca
namespace Go.Proofs.YtbpphlmakmeoaaaGreatDoor.Ca
open Go.RowKit
def nv (c : UInt8) : Prop := 48 ≤ (c.toNat : Int) ∧ (c.toNat : Int) ≤ 57
instance (c : UInt8) : Decidable (nv c) := by unfold nv; infer_instance
def kp (l : List UInt8) : Int := l.foldl (fun n c => n * 10 + ((c.toNat : Int) - 48)) 0
theorem rL (l : List UInt8) (c : UInt8) : kp (l ++ [c]) = kp l * 10 + ((c.toNat : Int) - 48) := by simp [kp]
theorem B5 : ∀ (n : Nat) (l : List UInt8), l.length = n → (∀ c ∈ l, nv c) → 0 ≤ kp l ∧ kp l < 10 ^ n := by
  intro n
  induction n with
  | zero => intro l hl _; have := List.eq_nil_of_length_eq_zero hl; subst this; simp [kp]
  | succ n ih =>
    intro l hl h
    rcases List.eq_nil_or_concat l with e | ⟨l', c, e⟩
    · subst e; simp at hl
    · rw [List.concat_eq_append] at e
      subst e
      have hc := h c (by simp)
      unfold nv at hc
      have := ih l' (by simpa using hl) (fun x hx => h x (by simp [hx]))
      rw [rL, Int.pow_succ]
      omega
theorem uM (l : List UInt8) (hl : l.length ≤ 8) (h : ∀ c ∈ l, nv c) : 0 ≤ kp l ∧ kp l ≤ 99999999 := by
  have hb := B5 l.length l rfl h
  have : (10 : Int) ^ l.length ≤ 10 ^ 8 := by
    have := Nat.pow_le_pow_right (n := 10) (by decide) hl
    exact_mod_cast this
  omega
def kx (l : List UInt8) : Int := if ∀ c ∈ l, nv c then kp l else -1
theorem nG (s : ByteArray) (k : Nat) (h : k < s.size) : s.data.toList.take (k + 1) = s.data.toList.take k ++ [s[k]] := by
  rw [List.take_succ_eq_append_getElem (by simpa using h)]; rfl
theorem E7 (s : ByteArray) (k : Nat) (h : k < s.size) : s[k] ∈ s.data.toList := by
  have : s[k] = s.data.toList[k]'(by simpa using h) := rfl
  rw [this]; exact List.getElem_mem _
theorem ki (t : ByteArray) (w : World) (h8 : t.size ≤ 8) :
    Calls Tryz.prog 312 #[.string t] w fun e w' => e = .returned (.int .i64 (kx t.data.toList)) ∧ w' = w := by
  go_enter Tryz.func312, Tryz.ntmps312
  go_wp2_with fail
  go_loop [3, 4] (fun n i => ∃ k : Nat, k ≤ t.size ∧ i = .int .i64 k ∧ n = .int .i64 (kp (t.data.toList.take k)) ∧ Hid (∀ c ∈ t.data.toList.take k, nv c)) (fun _ i => t.size - (intOf i).toNat)
  case atStart => exact ⟨0, Nat.zero_le _, rfl, rfl, by simp [Hid]⟩
  case round =>
    obtain ⟨k, hk, rfl, rfl, HD⟩ := hrel
    have hbd := uM (t.data.toList.take k) (by simp; omega) HD.out
    by_cases hlt : k < t.size
    · have hb255 : (t[k].toNat : Int) ≤ 255 := by have := t[k].toNat_lt; omega
      have HS := ec (nG t k hlt)
      have HM := ec (E7 t k hlt)
      by_cases h1 : (t[k].toNat : Int) < 48
      · have HN : Hid (kx t.data.toList = -1) := by unfold Hid kx; rw [if_neg]; intro h; have := h _ HM.out; unfold nv at this; omega
        go_wp2
        go_ret
        exact ⟨gl (by rw [HN.out]), rfl⟩
      · by_cases h2 : 57 < (t[k].toNat : Int)
        · have HN : Hid (kx t.data.toList = -1) := by unfold Hid kx; rw [if_neg]; intro h; have := h _ HM.out; unfold nv at this; omega
          go_wp2
          go_ret
          exact ⟨gl (by rw [HN.out]), rfl⟩
        · have HV : Hid (kp (t.data.toList.take (k + 1)) = kp (t.data.toList.take k) * 10 + ((t[k].toNat : Int) - 48)) := by unfold Hid; rw [HS.out, rL]
          have HD2 : Hid (∀ c ∈ t.data.toList.take (k + 1), nv c) := by
            unfold Hid
            rw [HS.out]
            intro c hc
            rcases List.mem_append.1 hc with h | h
            · exact HD.out c h
            · simp at h; subst h; unfold nv; omega
          go_wp2
          go_round
          case rel => exact ⟨k + 1, by omega, by go_num, by rw [HV.out], HD2⟩
          case measure => simp [intOf]; omega
    · have HN : Hid (kp (t.data.toList.take k) = kx t.data.toList) := by
        have hD := HD.out
        rw [List.take_of_length_le (by simp; omega)] at hD ⊢
        unfold kx
        rw [if_pos hD]
        rfl
      go_wp2
      go_ret
      exact ⟨gl HN.out, rfl⟩
end Go.Proofs.YtbpphlmakmeoaaaGreatDoor.Ca
namespace Go.Proofs.YtbpphlmakmeoaaaGreatDoor.Ca
open Go.RowKit
def mm (t : ByteArray) (k : Nat) : Int := ((t.data.toList.getD k 0).toNat : Int)
theorem iF (t : ByteArray) (k : Nat) (h : k < t.size) : (t[k].toNat : Int) = mm t k := by
  have e : t[k] = t.data.toList[k]'(by simpa using h) := rfl
  unfold mm
  have h' : k < t.data.size := h
  rw [e, show t.data.toList.getD k 0 = t.data.toList[k] by simp only [List.getD, Array.getElem?_toList]; rw [Array.getElem?_eq_getElem h']; rfl]
def gf (t : ByteArray) (k : Nat) : Prop := if k = 4 ∨ k = 7 then mm t k = 45 else 48 ≤ mm t k ∧ mm t k ≤ 57
def jz (t : ByteArray) : Nat → Prop
  | 0 => True
  | k + 1 => jz t k ∧ gf t k
def ij (t : ByteArray) : Nat → Int
  | 0 => 0
  | k + 1 => if k = 4 ∨ k = 7 then ij t k else ij t k * 10 + (mm t k - 48)
theorem A5 (t : ByteArray) : ∀ (n k : Nat), k < n → jz t n → gf t k := by
  intro n
  induction n with
  | zero => intro k h; omega
  | succ n ih =>
    intro k h ho
    by_cases e : k = n
    · subst e; exact ho.2
    · exact ih k (by omega) ho.1
theorem zf (t : ByteArray) : ∀ k, jz t k → 0 ≤ ij t k ∧ ij t k < 10 ^ k := by
  intro k
  induction k with
  | zero => intro _; simp [ij]
  | succ k ih =>
    intro ⟨h1, h2⟩
    have := ih h1
    unfold ij
    unfold gf at h2
    rw [Int.pow_succ]
    by_cases e : k = 4 ∨ k = 7
    · rw [if_pos e]; omega
    · rw [if_neg e] at h2 ⊢; omega
theorem ik (t : ByteArray) (k : Nat) (hk : k ≤ 10) (h : jz t k) : 0 ≤ ij t k ∧ ij t k ≤ 10000000000 := by
  have hb := zf t k h
  have : (10 : Int) ^ k ≤ 10 ^ 10 := by
    have := Nat.pow_le_pow_right (n := 10) (by decide) hk
    exact_mod_cast this
  omega
open Classical in
noncomputable def jq (t : ByteArray) : Int × Bool := if t.size = 10 ∧ jz t 10 then (ij t 10, true) else (0, false)
def I6 (p : Int × Bool) : Value := .tuple #[.int .i64 p.1, .bool p.2]
theorem gu (t : ByteArray) (k : Nat) (hk : k < 10) (h : ¬ gf t k) : jq t = (0, false) := by
  unfold jq; rw [if_neg]; intro ⟨_, h2⟩; exact h (A5 t 10 k hk h2)
theorem rq (t : ByteArray) (w : World) :
    Calls Tryz.prog 323 #[.string t] w fun e w' => e = .returned (I6 (jq t)) ∧ ∃ n, w' = w.drewN n := by
  by_cases h10 : t.size = 10
  · have HR : Hid (jz t 10 → jq t = (ij t 10, true)) := fun h => by unfold jq; rw [if_pos ⟨h10, h⟩]
    go_enter Tryz.func323, Tryz.ntmps323
    go_wp2
    go_loopw [4, 9] (fun n i wr => ∃ (k : Nat) (D : Int), k ≤ 10 ∧ i = .int .i64 k ∧ n = .int .i64 D ∧ 0 ≤ D ∧ D ≤ 10000000000 ∧ Hid (D = ij t k) ∧ Hid (jz t k) ∧ ∃ m, Hid (wr = w.drewN m)) (fun _ i _ => (10 - intOf i).toNat)
    case atStart => exact ⟨0, 0, by omega, rfl, rfl, by omega, by omega, rfl, trivial, 0, rfl⟩
    case round =>
      obtain ⟨k, D, hk, rfl, rfl, hD0, hD1, HD, HO, m, HW⟩ := hrel
      have hc : k = 0 ∨ k = 1 ∨ k = 2 ∨ k = 3 ∨ k = 4 ∨ k = 5 ∨ k = 6 ∨ k = 7 ∨ k = 8 ∨ k = 9 ∨ k = 10 := by omega
      rcases hc with rfl | rfl | rfl | rfl | rfl | rfl | rfl | rfl | rfl | rfl | rfl
      · have hlt : 0 < t.size := by omega
        have HB := ec (iF t 0 hlt)
        have hb255 : (t[0].toNat : Int) ≤ 255 := by have := t[0].toNat_lt; omega
        by_cases h1 : (t[0].toNat : Int) < 48
        · have HN := ec (gu t 0 (by omega) (by unfold gf; rw [if_neg (by decide), ← HB.out]; omega))
          go_wp2
          go_ret2
          exact ⟨by rw [HN.out]; rfl, _, HW⟩
        · by_cases h2 : 57 < (t[0].toNat : Int)
          · have HN := ec (gu t 0 (by omega) (by unfold gf; rw [if_neg (by decide), ← HB.out]; omega))
            go_wp2
            go_ret2
            exact ⟨by rw [HN.out]; rfl, _, HW⟩
          · have HO2 : Hid (jz t 1) := ⟨HO.out, by unfold gf; rw [if_neg (by decide), ← HB.out]; omega⟩
            have HD2 : Hid (D * 10 + ((t[0].toNat : Int) - 48) = ij t 1) := by unfold Hid; rw [HB.out, HD.out]; rfl
            have hs := ik t 1 (by omega) HO2.out
            rw [← HD2.out] at hs
            go_wp2
            go_roundw
            case rel => exact ⟨1, _, by omega, rfl, rfl, by omega, by omega, HD2, HO2, _, HW⟩
            case measure => simp [intOf]
      · have hlt : 1 < t.size := by omega
        have HB := ec (iF t 1 hlt)
        have hb255 : (t[1].toNat : Int) ≤ 255 := by have := t[1].toNat_lt; omega
        by_cases h1 : (t[1].toNat : Int) < 48
        · have HN := ec (gu t 1 (by omega) (by unfold gf; rw [if_neg (by decide), ← HB.out]; omega))
          go_wp2
          go_ret2
          exact ⟨by rw [HN.out]; rfl, _, HW⟩
        · by_cases h2 : 57 < (t[1].toNat : Int)
          · have HN := ec (gu t 1 (by omega) (by unfold gf; rw [if_neg (by decide), ← HB.out]; omega))
            go_wp2
            go_ret2
            exact ⟨by rw [HN.out]; rfl, _, HW⟩
          · have HO2 : Hid (jz t 2) := ⟨HO.out, by unfold gf; rw [if_neg (by decide), ← HB.out]; omega⟩
            have HD2 : Hid (D * 10 + ((t[1].toNat : Int) - 48) = ij t 2) := by unfold Hid; rw [HB.out, HD.out]; rfl
            have hs := ik t 2 (by omega) HO2.out
            rw [← HD2.out] at hs
            go_wp2
            go_roundw
            case rel => exact ⟨2, _, by omega, rfl, rfl, by omega, by omega, HD2, HO2, _, HW⟩
            case measure => simp [intOf]
      · have hlt : 2 < t.size := by omega
        have HB := ec (iF t 2 hlt)
        have hb255 : (t[2].toNat : Int) ≤ 255 := by have := t[2].toNat_lt; omega
        by_cases h1 : (t[2].toNat : Int) < 48
        · have HN := ec (gu t 2 (by omega) (by unfold gf; rw [if_neg (by decide), ← HB.out]; omega))
          go_wp2
          go_ret2
          exact ⟨by rw [HN.out]; rfl, _, HW⟩
        · by_cases h2 : 57 < (t[2].toNat : Int)
          · have HN := ec (gu t 2 (by omega) (by unfold gf; rw [if_neg (by decide), ← HB.out]; omega))
            go_wp2
            go_ret2
            exact ⟨by rw [HN.out]; rfl, _, HW⟩
          · have HO2 : Hid (jz t 3) := ⟨HO.out, by unfold gf; rw [if_neg (by decide), ← HB.out]; omega⟩
            have HD2 : Hid (D * 10 + ((t[2].toNat : Int) - 48) = ij t 3) := by unfold Hid; rw [HB.out, HD.out]; rfl
            have hs := ik t 3 (by omega) HO2.out
            rw [← HD2.out] at hs
            go_wp2
            go_roundw
            case rel => exact ⟨3, _, by omega, rfl, rfl, by omega, by omega, HD2, HO2, _, HW⟩
            case measure => simp [intOf]
      · have hlt : 3 < t.size := by omega
        have HB := ec (iF t 3 hlt)
        have hb255 : (t[3].toNat : Int) ≤ 255 := by have := t[3].toNat_lt; omega
        by_cases h1 : (t[3].toNat : Int) < 48
        · have HN := ec (gu t 3 (by omega) (by unfold gf; rw [if_neg (by decide), ← HB.out]; omega))
          go_wp2
          go_ret2
          exact ⟨by rw [HN.out]; rfl, _, HW⟩
        · by_cases h2 : 57 < (t[3].toNat : Int)
          · have HN := ec (gu t 3 (by omega) (by unfold gf; rw [if_neg (by decide), ← HB.out]; omega))
            go_wp2
            go_ret2
            exact ⟨by rw [HN.out]; rfl, _, HW⟩
          · have HO2 : Hid (jz t 4) := ⟨HO.out, by unfold gf; rw [if_neg (by decide), ← HB.out]; omega⟩
            have HD2 : Hid (D * 10 + ((t[3].toNat : Int) - 48) = ij t 4) := by unfold Hid; rw [HB.out, HD.out]; rfl
            have hs := ik t 4 (by omega) HO2.out
            rw [← HD2.out] at hs
            go_wp2
            go_roundw
            case rel => exact ⟨4, _, by omega, rfl, rfl, by omega, by omega, HD2, HO2, _, HW⟩
            case measure => simp [intOf]
      · have hlt : 4 < t.size := by omega
        have HB := ec (iF t 4 hlt)
        by_cases h1 : (t[4].toNat : Int) = 45
        · have HO2 : Hid (jz t 5) := ⟨HO.out, by unfold gf; rw [if_pos (by decide), ← HB.out]; exact h1⟩
          have HD2 : Hid (D = ij t 5) := HD.out
          go_wp2
          go_region
          go_wp2
          go_roundw
          case rel => exact ⟨5, D, by omega, rfl, rfl, hD0, hD1, HD2, HO2, m + 1, by rw [HW.out]; rfl⟩
          case measure => simp [intOf]
        · have HN := ec (gu t 4 (by omega) (by unfold gf; rw [if_pos (by decide), ← HB.out]; exact h1))
          have hf : ((({ data := #[48, 48, 48, 48, 45, 48, 48, 45, 48, 48] } : ByteArray)[4]'(by decide)).toNat : Int) = 45 := by decide
          go_wp2
          go_region
          go_wp2
          go_ret2
          exact ⟨by rw [HN.out]; rfl, m + 1, by rw [HW.out]; rfl⟩
      · have hlt : 5 < t.size := by omega
        have HB := ec (iF t 5 hlt)
        have hb255 : (t[5].toNat : Int) ≤ 255 := by have := t[5].toNat_lt; omega
        by_cases h1 : (t[5].toNat : Int) < 48
        · have HN := ec (gu t 5 (by omega) (by unfold gf; rw [if_neg (by decide), ← HB.out]; omega))
          go_wp2
          go_ret2
          exact ⟨by rw [HN.out]; rfl, _, HW⟩
        · by_cases h2 : 57 < (t[5].toNat : Int)
          · have HN := ec (gu t 5 (by omega) (by unfold gf; rw [if_neg (by decide), ← HB.out]; omega))
            go_wp2
            go_ret2
            exact ⟨by rw [HN.out]; rfl, _, HW⟩
          · have HO2 : Hid (jz t 6) := ⟨HO.out, by unfold gf; rw [if_neg (by decide), ← HB.out]; omega⟩
            have HD2 : Hid (D * 10 + ((t[5].toNat : Int) - 48) = ij t 6) := by unfold Hid; rw [HB.out, HD.out]; rfl
            have hs := ik t 6 (by omega) HO2.out
            rw [← HD2.out] at hs
            go_wp2
            go_roundw
            case rel => exact ⟨6, _, by omega, rfl, rfl, by omega, by omega, HD2, HO2, _, HW⟩
            case measure => simp [intOf]
      · have hlt : 6 < t.size := by omega
        have HB := ec (iF t 6 hlt)
        have hb255 : (t[6].toNat : Int) ≤ 255 := by have := t[6].toNat_lt; omega
        by_cases h1 : (t[6].toNat : Int) < 48
        · have HN := ec (gu t 6 (by omega) (by unfold gf; rw [if_neg (by decide), ← HB.out]; omega))
          go_wp2
          go_ret2
          exact ⟨by rw [HN.out]; rfl, _, HW⟩
        · by_cases h2 : 57 < (t[6].toNat : Int)
          · have HN := ec (gu t 6 (by omega) (by unfold gf; rw [if_neg (by decide), ← HB.out]; omega))
            go_wp2
            go_ret2
            exact ⟨by rw [HN.out]; rfl, _, HW⟩
          · have HO2 : Hid (jz t 7) := ⟨HO.out, by unfold gf; rw [if_neg (by decide), ← HB.out]; omega⟩
            have HD2 : Hid (D * 10 + ((t[6].toNat : Int) - 48) = ij t 7) := by unfold Hid; rw [HB.out, HD.out]; rfl
            have hs := ik t 7 (by omega) HO2.out
            rw [← HD2.out] at hs
            go_wp2
            go_roundw
            case rel => exact ⟨7, _, by omega, rfl, rfl, by omega, by omega, HD2, HO2, _, HW⟩
            case measure => simp [intOf]
      · have hlt : 7 < t.size := by omega
        have HB := ec (iF t 7 hlt)
        by_cases h1 : (t[7].toNat : Int) = 45
        · have HO2 : Hid (jz t 8) := ⟨HO.out, by unfold gf; rw [if_pos (by decide), ← HB.out]; exact h1⟩
          have HD2 : Hid (D = ij t 8) := HD.out
          go_wp2
          go_region
          go_wp2
          go_roundw
          case rel => exact ⟨8, D, by omega, rfl, rfl, hD0, hD1, HD2, HO2, m + 1, by rw [HW.out]; rfl⟩
          case measure => simp [intOf]
        · have HN := ec (gu t 7 (by omega) (by unfold gf; rw [if_pos (by decide), ← HB.out]; exact h1))
          have hf : ((({ data := #[48, 48, 48, 48, 45, 48, 48, 45, 48, 48] } : ByteArray)[7]'(by decide)).toNat : Int) = 45 := by decide
          go_wp2
          go_region
          go_wp2
          go_ret2
          exact ⟨by rw [HN.out]; rfl, m + 1, by rw [HW.out]; rfl⟩
      · have hlt : 8 < t.size := by omega
        have HB := ec (iF t 8 hlt)
        have hb255 : (t[8].toNat : Int) ≤ 255 := by have := t[8].toNat_lt; omega
        by_cases h1 : (t[8].toNat : Int) < 48
        · have HN := ec (gu t 8 (by omega) (by unfold gf; rw [if_neg (by decide), ← HB.out]; omega))
          go_wp2
          go_ret2
          exact ⟨by rw [HN.out]; rfl, _, HW⟩
        · by_cases h2 : 57 < (t[8].toNat : Int)
          · have HN := ec (gu t 8 (by omega) (by unfold gf; rw [if_neg (by decide), ← HB.out]; omega))
            go_wp2
            go_ret2
            exact ⟨by rw [HN.out]; rfl, _, HW⟩
          · have HO2 : Hid (jz t 9) := ⟨HO.out, by unfold gf; rw [if_neg (by decide), ← HB.out]; omega⟩
            have HD2 : Hid (D * 10 + ((t[8].toNat : Int) - 48) = ij t 9) := by unfold Hid; rw [HB.out, HD.out]; rfl
            have hs := ik t 9 (by omega) HO2.out
            rw [← HD2.out] at hs
            go_wp2
            go_roundw
            case rel => exact ⟨9, _, by omega, rfl, rfl, by omega, by omega, HD2, HO2, _, HW⟩
            case measure => simp [intOf]
      · have hlt : 9 < t.size := by omega
        have HB := ec (iF t 9 hlt)
        have hb255 : (t[9].toNat : Int) ≤ 255 := by have := t[9].toNat_lt; omega
        by_cases h1 : (t[9].toNat : Int) < 48
        · have HN := ec (gu t 9 (by omega) (by unfold gf; rw [if_neg (by decide), ← HB.out]; omega))
          go_wp2
          go_ret2
          exact ⟨by rw [HN.out]; rfl, _, HW⟩
        · by_cases h2 : 57 < (t[9].toNat : Int)
          · have HN := ec (gu t 9 (by omega) (by unfold gf; rw [if_neg (by decide), ← HB.out]; omega))
            go_wp2
            go_ret2
            exact ⟨by rw [HN.out]; rfl, _, HW⟩
          · have HO2 : Hid (jz t 10) := ⟨HO.out, by unfold gf; rw [if_neg (by decide), ← HB.out]; omega⟩
            have HD2 : Hid (D * 10 + ((t[9].toNat : Int) - 48) = ij t 10) := by unfold Hid; rw [HB.out, HD.out]; rfl
            have hs := ik t 10 (by omega) HO2.out
            rw [← HD2.out] at hs
            go_wp2
            go_roundw
            case rel => exact ⟨10, _, by omega, rfl, rfl, by omega, by omega, HD2, HO2, _, HW⟩
            case measure => simp [intOf]
      · have HF := ec (HR.out HO.out)
        go_wp2
        go_ret2
        exact ⟨by rw [HF.out, HD.out]; rfl, _, HW⟩
  · have HN : Hid (jq t = (0, false)) := by unfold Hid jq; rw [if_neg (fun h => h10 h.1)]
    have h10' : ¬ (t.size : Int) = 10 := by omega
    go_enter Tryz.func323, Tryz.ntmps323
    go_wp2
    go_ret2
    exact ⟨by rw [HN.out]; rfl, 0, rfl⟩
end Go.Proofs.YtbpphlmakmeoaaaGreatDoor.Ca
namespace Go.Proofs.YtbpphlmakmeoaaaGreatDoor.Ca
open Go.RowKit
noncomputable def parseQ (t : ByteArray) : Int × Int := if (jq t).2 = true then rK ((jq t).1 / 10000) ((jq t).1 / 100 % 100) ((jq t).1 % 100) else (0, 31)
theorem yN (t : ByteArray) : 0 ≤ (jq t).1 ∧ (jq t).1 ≤ 10000000000 := by
  unfold jq
  split
  · next h => exact ik t 10 (by omega) h.2
  · simp
theorem parse_any (t : ByteArray) (w : World) :
    Calls Tryz.prog 296 #[.string t] w fun e w' => e = .returned (duo (parseQ t)) ∧ Below w.heap.size w w' := by
  have hbd := yN t
  generalize hr : jq t = r at hbd
  obtain ⟨D, b⟩ := r
  obtain ⟨hD0, hD1⟩ := hbd
  simp only at hD0 hD1
  have HR := ec hr
  have HP : Hid (parseQ t = if b = true then rK (D / 10000) (D / 100 % 100) (D % 100) else (0, 31)) := by unfold Hid parseQ; rw [hr]
  clear hr
  go_enter Tryz.func296, Tryz.ntmps296
  go_wp2_with fail
  refine (rq _ _).mono ?_
  rintro e w1 ⟨rfl, n, rfl⟩
  rw [HR.out, I6]
  cases b
  · go_wp2
    go_ret2
    exact ⟨by rw [HP.out]; rfl, kC _ _ _⟩
  · go_wp2_with fail
    refine (D5 _ _ _ _).mono ?_
    rintro e w2 ⟨rfl, hb⟩
    have HQ : Hid (rK (D / 10000) (D / 100 % 100) (D % 100) = parseQ t) := by unfold Hid; rw [HP.out]; simp
    rw [HQ.out, duo]
    go_wp2
    go_ret2
    exact ⟨rfl, (kC _ _ _).trans hb⟩
end Go.Proofs.YtbpphlmakmeoaaaGreatDoor.Ca
namespace Go.Proofs.YtbpphlmakmeoaaaGreatDoor.Ca
open Go.RowKit
theorem uW (y : Int) (h1 : 1 ≤ y) (h2 : y ≤ 9999) : ∃ a b c e : Int, (0 ≤ a ∧ a ≤ 24) ∧ (0 ≤ b ∧ b ≤ 3) ∧ (0 ≤ c ∧ c ≤ 24) ∧ (0 ≤ e ∧ e ≤ 3) ∧ y = 1 + 400 * a + 100 * b + 4 * c + e ∧ ge y = 146097 * a + 36524 * b + 1461 * c + 365 * e ∧ j4 y ≤ 366 ∧ (¬ (e = 3 ∧ (c ≠ 24 ∨ b = 3)) → j4 y ≤ 365) := by
  refine ⟨(y - 1) / 400, (y - 1) % 400 / 100, (y - 1) % 100 / 4, (y - 1) % 4, by omega, by omega, by omega, by omega, by omega, by unfold ge; omega, (mS y).2, fun h => ?_⟩
  have hl : ¬ (kj y = true) := fun hl => by
    have := (nC y).1 hl
    omega
  unfold j4
  rw [if_neg hl]
  omega
abbrev pk : Value := .agg #[.int .i64 400, .int .i64 146097, .int .i64 24, .int .i64 100, .int .i64 36524, .int .i64 3, .int .i64 4, .int .i64 1461, .int .i64 24, .int .i64 1, .int .i64 365, .int .i64 3]
theorem M9 (w : World) : (Instr.index 341 pk (.int .i64 0)).run Tryz.prog w = .ok (.agg #[.int .i64 400, .int .i64 146097, .int .i64 24]) w := by
  kernel_rfl
theorem M3 (w : World) : (Instr.index 341 pk (.int .i64 1)).run Tryz.prog w = .ok (.agg #[.int .i64 100, .int .i64 36524, .int .i64 3]) w := by
  kernel_rfl
theorem N4 (w : World) : (Instr.index 341 pk (.int .i64 2)).run Tryz.prog w = .ok (.agg #[.int .i64 4, .int .i64 1461, .int .i64 24]) w := by
  kernel_rfl
theorem M0 (w : World) : (Instr.index 341 pk (.int .i64 3)).run Tryz.prog w = .ok (.agg #[.int .i64 1, .int .i64 365, .int .i64 3]) w := by
  kernel_rfl
def kX (a b c e r : Int) : Nat → Int → Int → Prop
  | 0, D, z => D = 146097 * a + 36524 * b + 1461 * c + 365 * e + r ∧ z = 1
  | 1, D, z => D = 36524 * b + 1461 * c + 365 * e + r ∧ z = 1 + 400 * a
  | 2, D, z => D = 1461 * c + 365 * e + r ∧ z = 1 + 400 * a + 100 * b
  | 3, D, z => D = 365 * e + r ∧ z = 1 + 400 * a + 100 * b + 4 * c
  | _, D, z => D = r ∧ z = 1 + 400 * a + 100 * b + 4 * c + e
theorem vL (y r : Int) (w : World) (h1 : 1 ≤ y) (h2 : y ≤ 9999) (hr0 : 0 ≤ r) (hr1 : r < j4 y) :
    Calls Tryz.prog 306 #[.int .i64 (ge y + r)] w fun e w' => e = .returned (duo (y, r)) ∧ Below w.heap.size w w' := by
  obtain ⟨a, b, c, e, ⟨ha0, ha1⟩, ⟨hb0, hb1⟩, ⟨hc0, hc1⟩, ⟨he0, he1⟩, hy, hah, hyl, hyl'⟩ := uW y h1 h2
  have hr366 : r < 366 := by omega
  have HR := ec (show ¬ (e = 3 ∧ (c ≠ 24 ∨ b = 3)) → r < 365 from fun h => by have := hyl' h; omega)
  have HY := ec hy
  rw [hah]
  clear hyl hyl' hah hr1 hy
  generalize hD : 146097 * a + 36524 * b + 1461 * c + 365 * e + r = D
  have HD := ec hD
  have hD0 : 0 ≤ D := by omega
  have hD1 : D ≤ 4000000 := by omega
  clear hD
  go_enter Tryz.func306, Tryz.ntmps306
  go_wp2_with fail
  go_loopw [0, 5, 15] (fun s t i wr => ∃ (k : Nat) (X z : Int), k ≤ 4 ∧ i = .int .i64 k ∧ s = .int .i64 X ∧ t = .int .i64 z ∧ 0 ≤ X ∧ X ≤ 4000000 ∧ 0 ≤ z ∧ z ≤ 10000 ∧ Hid (kX a b c e r k X z) ∧ Below w.heap.size w wr) (fun _ _ i _ => (4 - intOf i).toNat)
  case atStart => exact ⟨0, D, 1, by omega, rfl, rfl, rfl, by omega, by omega, by omega, by omega, ⟨HD.out.symm, rfl⟩, (Below.refl _ _).alloc (Nat.le_refl _) _⟩
  case round =>
    clear hD0 hD1 HD
    obtain ⟨k, X, z, hk, rfl, rfl, rfl, hX0, hX1, hz0, hz1, HS, hbel⟩ := hrel
    have hc : k = 0 ∨ k = 1 ∨ k = 2 ∨ k = 3 ∨ k = 4 := by omega
    rcases hc with rfl | rfl | rfl | rfl | rfl
    · obtain ⟨e1, e2⟩ := HS.out
      have hq : X / 146097 = a ∨ (a = 24 ∧ 24 < X / 146097) := by have := HR.out; omega
      have HN : Hid (kX a b c e r 1 (X - a * 146097) (z + a * 400)) := ⟨by omega, by omega⟩
      have hn0 : 0 ≤ X - a * 146097 := by omega
      have hz2 : z + a * 400 ≤ 10000 := by omega
      clear e1 e2
      have hidx := M9
      rcases hq with hq | ⟨hq1, hq2⟩
      · go_wp2_with fail
        go_region
        go_wp2
        go_roundw
        case rel => exact ⟨1, _, _, by omega, rfl, rfl, rfl, hn0, by omega, by omega, by omega, HN, (hbel.alloc hbel.size _).drew⟩
        case measure => simp [intOf]
      · have HQ1 := ec hq1
        clear hq1
        go_wp2_with fail
        go_region
        go_wp2
        go_roundw
        case rel => exact ⟨1, X - a * 146097, z + a * 400, by omega, rfl, by rw [HQ1.out]; rfl, by rw [HQ1.out]; rfl, hn0, by omega, by omega, by omega, HN, (hbel.alloc hbel.size _).drew⟩
        case measure => simp [intOf]
    · obtain ⟨e1, e2⟩ := HS.out
      have hq : X / 36524 = b ∨ (b = 3 ∧ 3 < X / 36524) := by have := HR.out; omega
      have HN : Hid (kX a b c e r 2 (X - b * 36524) (z + b * 100)) := ⟨by omega, by omega⟩
      have hn0 : 0 ≤ X - b * 36524 := by omega
      have hz2 : z + b * 100 ≤ 10000 := by omega
      clear e1 e2
      have hidx := M3
      rcases hq with hq | ⟨hq1, hq2⟩
      · go_wp2_with fail
        go_region
        go_wp2
        go_roundw
        case rel => exact ⟨2, _, _, by omega, rfl, rfl, rfl, hn0, by omega, by omega, by omega, HN, (hbel.alloc hbel.size _).drew⟩
        case measure => simp [intOf]
      · have HQ1 := ec hq1
        clear hq1
        go_wp2_with fail
        go_region
        go_wp2
        go_roundw
        case rel => exact ⟨2, X - b * 36524, z + b * 100, by omega, rfl, by rw [HQ1.out]; rfl, by rw [HQ1.out]; rfl, hn0, by omega, by omega, by omega, HN, (hbel.alloc hbel.size _).drew⟩
        case measure => simp [intOf]
    · obtain ⟨e1, e2⟩ := HS.out
      have hq : X / 1461 = c ∨ (c = 24 ∧ 24 < X / 1461) := by have := HR.out; omega
      have HN : Hid (kX a b c e r 3 (X - c * 1461) (z + c * 4)) := ⟨by omega, by omega⟩
      have hn0 : 0 ≤ X - c * 1461 := by omega
      have hz2 : z + c * 4 ≤ 10000 := by omega
      clear e1 e2
      have hidx := N4
      rcases hq with hq | ⟨hq1, hq2⟩
      · go_wp2_with fail
        go_region
        go_wp2
        go_roundw
        case rel => exact ⟨3, _, _, by omega, rfl, rfl, rfl, hn0, by omega, by omega, by omega, HN, (hbel.alloc hbel.size _).drew⟩
        case measure => simp [intOf]
      · have HQ1 := ec hq1
        clear hq1
        go_wp2_with fail
        go_region
        go_wp2
        go_roundw
        case rel => exact ⟨3, X - c * 1461, z + c * 4, by omega, rfl, by rw [HQ1.out]; rfl, by rw [HQ1.out]; rfl, hn0, by omega, by omega, by omega, HN, (hbel.alloc hbel.size _).drew⟩
        case measure => simp [intOf]
    · obtain ⟨e1, e2⟩ := HS.out
      have hq : X / 365 = e ∨ (e = 3 ∧ 3 < X / 365) := by have := HR.out; omega
      have HN : Hid (kX a b c e r 4 (X - e * 365) (z + e)) := ⟨by omega, by omega⟩
      have hn0 : 0 ≤ X - e * 365 := by omega
      have hz2 : z + e ≤ 10000 := by omega
      clear e1 e2
      have hidx := M0
      rcases hq with hq | ⟨hq1, hq2⟩
      · go_wp2_with fail
        go_region
        go_wp2
        go_roundw
        case rel => exact ⟨4, _, _, by omega, rfl, rfl, rfl, hn0, by omega, by omega, by omega, HN, (hbel.alloc hbel.size _).drew⟩
        case measure => simp [intOf]
      · have HQ1 := ec hq1
        clear hq1
        go_wp2_with fail
        go_region
        go_wp2
        go_roundw
        case rel => exact ⟨4, X - e * 365, z + e, by omega, rfl, by rw [HQ1.out]; rfl, by rw [HQ1.out], hn0, by omega, by omega, by omega, HN, (hbel.alloc hbel.size _).drew⟩
        case measure => simp [intOf]
    · obtain ⟨e1, e2⟩ := HS.out
      have HX := ec e1
      have HZ := ec (e2.trans HY.out.symm)
      clear e1 e2
      go_wp2
      go_ret2
      exact ⟨by rw [HX.out, HZ.out]; rfl, hbel⟩
end Go.Proofs.YtbpphlmakmeoaaaGreatDoor.Ca
namespace Go.Proofs.YtbpphlmakmeoaaaGreatDoor.Ca
open Go.RowKit
noncomputable def kJ (x : Int) : Int × Int × Int × Int := by
  classical
  exact if h : 1 ≤ x ∧ x ≤ 3652059 then ((nD x h.1 h.2).choose, (nD x h.1 h.2).choose_spec.choose, (nD x h.1 h.2).choose_spec.choose_spec.choose, 0) else (0, 0, 0, 31)
theorem wL {y m d : Int} (h : Day y m d) : kJ (gk y m d) = (y, m, d, 0) := by
  have hn := h.num_pos
  unfold kJ
  rw [dif_pos hn]
  have hs := (nD (gk y m d) hn.1 hn.2).choose_spec.choose_spec.choose_spec
  obtain ⟨e1, e2, e3⟩ := hs.1.only h hs.2
  exact Prod.ext e1 (Prod.ext e2 (Prod.ext e3 rfl))
theorem wt {x : Int} (h : ¬ (1 ≤ x ∧ x ≤ 3652059)) : kJ x = (0, 0, 0, 31) := by
  unfold kJ; rw [dif_neg h]
def O2 (p : Int × Int × Int × Int) : Value := .tuple #[.int .i64 p.1, .int .i64 p.2.1, .int .i64 p.2.2.1, .int .i64 p.2.2.2]
abbrev tG (y m d : Int) : Value := .agg #[.int .i64 y, .int .i64 m, .int .i64 d]
theorem vx (y m : Int) (k : Nat) (hk : (k : Int) < m - 1) : before y k + iQ y (k + 1) ≤ before y (m - 1).toNat := by
  have := lO y (k + 1) (m - 1).toNat (by omega)
  rw [ja] at this
  exact this
abbrev Room (B : Nat) (w : World) (W : World) : Prop := Box B w 0 0 0 W ∧ ∀ o, W.frozen? ⟨B, o, none⟩ = false
theorem Room.mk {w : World} : Room w.heap.size w (w.alloc (.cells #[.int .i64 0, .int .i64 0, .int .i64 0] 284)) :=
  ⟨Box.mk, fun o => by simp⟩
theorem Room.below {B : Nat} {w W W' : World} (h : Room B w W) (hb : Below W.heap.size W W') : Room B w W' :=
  ⟨h.1.below hb, fun o => by rw [(zv hb).2 _ _ h.1.2.2.2.1]; exact h.2 o⟩
theorem tW (y m d : Int) (w : World) (h : Day y m d) :
    Calls Tryz.prog 260 #[.int .i64 (gk y m d)] w fun e w' => e = .returned (tG y m d) ∧ Below w.heap.size w w' := by
  have hin := h.inYear
  have hyl := mS y
  have hal := od h.y1 (by have := h.y2; omega)
  have HM := ec (vx y m)
  have HN := ec (show gk y m d = ge y + before y (m - 1).toNat + d from rfl)
  obtain ⟨h1, h2, h3, h4, h5, h6⟩ := h
  have hbm := lB y (m - 1).toNat (by omega)
  generalize hx : gk y m d = x at HN ⊢
  clear hx
  generalize hbv : before y (m - 1).toNat = bm at *
  have HBV := ec hbv
  clear hbv
  have hx0 : x - 1 = ge y + (bm + d - 1) := by have := HN.out; omega
  have hx1 : 1 ≤ x ∧ x ≤ 4000000 := by omega
  have HX := ec hx0
  clear hx0
  have HR := ec (Room.mk (w := w))
  go_enter Tryz.func260, Tryz.ntmps260
  go_wp2_with fail
  generalize w.alloc (.cells #[.int .i64 0, .int .i64 0, .int .i64 0] 284) = W at HR ⊢
  generalize hB : w.heap.size = B at HR ⊢
  have HE := ec hB
  clear hB
  rw [HX.out]
  refine (vL y (bm + d - 1) _ h1 h2 (by omega) (by omega)).mono ?_
  rintro e w1 ⟨rfl, hb⟩
  unfold duo
  have HR1 := ec (HR.out.below hb)
  clear HR hb
  go_wp2_with fail
  go_loopw [4, 5] (fun s i wr => ∃ k : Nat, (k : Int) ≤ m - 1 ∧ i = .int .i64 (k + 1) ∧ s = .int .i64 (bm + d - 1 - before y k) ∧ Hid (Room B w wr)) (fun _ i _ => (12 - intOf i).toNat)
  case atStart => exact ⟨0, by omega, rfl, by simp [before], HR1⟩
  case round =>
    clear HR1
    obtain ⟨k, hk, rfl, rfl, HR⟩ := hrel
    have hbs := lB y k (by omega)
    have hml' := jF y (k + 1)
    by_cases hlt : (k : Int) < m - 1
    · have hmid := HM.out k hlt
      have HS := ec (ja y k)
      go_wp2_with fail
      refine (iY _ _ _ (by omega) (by omega) (by omega) (by omega)).mono ?_
      rintro e w32 ⟨rfl, hb⟩
      have HR2 := ec (HR.out.below hb)
      clear HR hb
      go_wp2_with fail
      refine (iY _ _ _ (by omega) (by omega) (by omega) (by omega)).mono ?_
      rintro e w33 ⟨rfl, hb⟩
      have HR3 := ec (HR2.out.below hb)
      clear HR2 hb
      go_wp2
      go_roundw
      case rel => exact ⟨k + 1, by omega, by go_num, by rw [HS.out]; simp; omega, HR3⟩
      case measure => simp [intOf]; omega
    · have hkm : (k : Int) + 1 = m := by omega
      have hbk : before y k = bm := by rw [← HBV.out]; congr 1; omega
      rw [hkm, hbk, show bm + d - 1 - bm = d - 1 by omega]
      have HKM := ec hkm
      clear hbk hkm hml' hbs
      go_wp2_with fail
      refine (iY _ _ _ (by omega) (by omega) (by omega) (by omega)).mono ?_
      rintro e w32 ⟨rfl, hb⟩
      have HR2 := ec (HR.out.below hb)
      clear HR hb
      have HR := HR2.out
      obtain ⟨⟨c0, c1, c2, c3, c4⟩, c5⟩ := HR
      go_wp2
      refine bodyPost_ret (v := tG y m d) (by simp [results, Tryz.results260, go_sem, c0, c1, c2]) rfl ⟨rfl, ?_⟩
      rw [HE.out]
      exact ((c4.setCell (Nat.le_refl _) _).setCell (Nat.le_refl _) _).setCell (Nat.le_refl _) _
def O4 (st : Int) : Prop := st = 0 ∨ ∃ p : Nat, st = 2 ^ p
def O8 (st : Int) : Int := if st = 0 then 1 else 2 * st
end Go.Proofs.YtbpphlmakmeoaaaGreatDoor.Ca
namespace Go.Proofs.YtbpphlmakmeoaaaGreatDoor.Ca
open Go.RowKit
def N9 (x : Int) : Int × Int := if 1 ≤ x ∧ x ≤ 3652059 then ((x - 1) % 7 + 1, 0) else (0, 31)
end Go.Proofs.YtbpphlmakmeoaaaGreatDoor.Ca
namespace Go.Proofs.YtbpphlmakmeoaaaGreatDoor.Ca
open Go.RowKit
def tD (q1 q2 q3 q4 q5 q6 q7 q8 : Int) : Nat → Int
  | 0 => q1 * 10000000 + q2 * 1000000 + q3 * 100000 + q4 * 10000 + q5 * 1000 + q6 * 100 + q7 * 10 + q8
  | 1 => q1 * 1000000 + q2 * 100000 + q3 * 10000 + q4 * 1000 + q5 * 100 + q6 * 10 + q7
  | 2 => q1 * 100000 + q2 * 10000 + q3 * 1000 + q4 * 100 + q5 * 10 + q6
  | 3 => q1 * 100000 + q2 * 10000 + q3 * 1000 + q4 * 100 + q5 * 10 + q6
  | 4 => q1 * 10000 + q2 * 1000 + q3 * 100 + q4 * 10 + q5
  | 5 => q1 * 1000 + q2 * 100 + q3 * 10 + q4
  | 6 => q1 * 1000 + q2 * 100 + q3 * 10 + q4
  | 7 => q1 * 100 + q2 * 10 + q3
  | 8 => q1 * 10 + q2
  | 9 => q1
  | _ => 0
def tX (q1 q2 q3 q4 q5 q6 q7 q8 : Int) : Nat → List Int
  | 0 => [48, 48, 48, 48, 45, 48, 48, 45, 48, 48]
  | 1 => [48, 48, 48, 48, 45, 48, 48, 45, 48, 48 + q8]
  | 2 => [48, 48, 48, 48, 45, 48, 48, 45, 48 + q7, 48 + q8]
  | 3 => [48, 48, 48, 48, 45, 48, 48, 45, 48 + q7, 48 + q8]
  | 4 => [48, 48, 48, 48, 45, 48, 48 + q6, 45, 48 + q7, 48 + q8]
  | 5 => [48, 48, 48, 48, 45, 48 + q5, 48 + q6, 45, 48 + q7, 48 + q8]
  | 6 => [48, 48, 48, 48, 45, 48 + q5, 48 + q6, 45, 48 + q7, 48 + q8]
  | 7 => [48, 48, 48, 48 + q4, 45, 48 + q5, 48 + q6, 45, 48 + q7, 48 + q8]
  | 8 => [48, 48, 48 + q3, 48 + q4, 45, 48 + q5, 48 + q6, 45, 48 + q7, 48 + q8]
  | 9 => [48, 48 + q2, 48 + q3, 48 + q4, 45, 48 + q5, 48 + q6, 45, 48 + q7, 48 + q8]
  | _ => [48 + q1, 48 + q2, 48 + q3, 48 + q4, 45, 48 + q5, 48 + q6, 45, 48 + q7, 48 + q8]
structure TCells (g : Nat) (W : World) (xs : List Int) : Prop where
  len : xs.length = 10
  cell : ∀ i : Nat, i < 10 → W.cell? ⟨g, i, none⟩ = some (.int .u8 (xs.getD i 0))
  free : ∀ i : Nat, i < 10 → W.frozen? ⟨g, i, none⟩ = false
theorem TCells.put {g : Nat} {W : World} {xs : List Int} (h : TCells g W xs) (p : Nat) (v : Int) (_hp : p < 10) : TCells g (W.setCell ⟨g, p, none⟩ (.int .u8 v)) (xs.set p v) := by
  refine ⟨by simp [h.len], fun i hi => ?_, fun i hi => by simpa using h.free i hi⟩
  by_cases he : i = p
  · subst he
    rw [World.cell?_setCell_same _ _ _ (h.cell i hi)]
    simp [List.getD, h.len, hi]
  · rw [World.cell?_setCell_other _ _ _ _ (by simp)]
    rw [h.cell i hi]
    simp [List.getD, Ne.symm he]
theorem TCells.new (W : World) (q1 q2 q3 q4 q5 q6 q7 q8 : Int) : TCells W.heap.size (W.alloc (.cells #[.int .u8 48, .int .u8 48, .int .u8 48, .int .u8 48, .int .u8 45, .int .u8 48, .int .u8 48, .int .u8 45, .int .u8 48, .int .u8 48] 5 (10, 11))) (tX q1 q2 q3 q4 q5 q6 q7 q8 0) := by
  refine ⟨rfl, fun i hi => ?_, fun i hi => ?_⟩
  · rw [cell_of_row _ _ _ _ _ _ (heap_alloc_new W _)]
    have hc : i = 0 ∨ i = 1 ∨ i = 2 ∨ i = 3 ∨ i = 4 ∨ i = 5 ∨ i = 6 ∨ i = 7 ∨ i = 8 ∨ i = 9 := by omega
    rcases hc with rfl | rfl | rfl | rfl | rfl | rfl | rfl | rfl | rfl | rfl <;> rfl
  · have h := heap_alloc_new W (.cells #[.int .u8 48, .int .u8 48, .int .u8 48, .int .u8 48, .int .u8 45, .int .u8 48, .int .u8 48, .int .u8 45, .int .u8 48, .int .u8 48] 5 (10, 11))
    unfold World.frozen?
    simp only [h]
    simp; omega
theorem wh (x : Int) (w : World) (h1 : 1 ≤ x) (h2 : x ≤ 3652059) : Calls Tryz.prog 259 #[.int .i64 x] w fun e w' => e = .returned (.bool true) ∧ w' = w := by
  go_enter Tryz.func259, Tryz.ntmps259
  go_wp2
  go_ret
  exact ⟨rfl, rfl⟩
theorem yI (x : Int) (w : World) (h : ¬ (1 ≤ x ∧ x ≤ 3652059)) : Calls Tryz.prog 259 #[.int .i64 x] w fun e w' => e = .returned (.bool false) ∧ w' = w := by
  by_cases h1 : 1 ≤ x
  · have h2 : 3652059 < x := by omega
    go_enter Tryz.func259, Tryz.ntmps259
    go_wp2
    go_ret
    exact ⟨fO (by simp; omega), rfl⟩
  · have h2 : x < 1 := by omega
    clear h
    go_enter Tryz.func259, Tryz.ntmps259
    go_wp2
    go_ret
    exact ⟨rfl, rfl⟩
theorem uF {a b : ByteArray} (h : a = b) : Ending.returned (.string a) = .returned (.string b) := by rw [h]
structure rT (q : Int) : Prop where
  lo : 0 ≤ q
  hi : q ≤ 9
def dateB (y m d : Int) : List Int := [48 + y / 1000, 48 + y / 100 % 10, 48 + y / 10 % 10, 48 + y % 10, 45, 48 + m / 10, 48 + m % 10, 45, 48 + d / 10, 48 + d % 10]
theorem tR (y m d q1 q2 q3 q4 q5 q6 q7 q8 : Int) (w : World) (h1 : 1 ≤ y) (h2 : y ≤ 9999) (h3 : 1 ≤ m) (h4 : m ≤ 12) (h5 : 1 ≤ d) (h6 : d ≤ 31)
    (d1 : rT q1) (d2 : rT q2) (d3 : rT q3) (d4 : rT q4) (d5 : rT q5) (d6 : rT q6) (d7 : rT q7) (d8 : rT q8) (hN : (y * 100 + m) * 100 + d = tD q1 q2 q3 q4 q5 q6 q7 q8 0) :
    Calls Tryz.prog 261 #[tG y m d] w fun e w' => e = .returned (.string (strOfNums (tX q1 q2 q3 q4 q5 q6 q7 q8 10))) ∧ Below w.heap.size w w' := by
  obtain ⟨d1a, d1b⟩ := d1
  obtain ⟨d2a, d2b⟩ := d2
  obtain ⟨d3a, d3b⟩ := d3
  obtain ⟨d4a, d4b⟩ := d4
  obtain ⟨d5a, d5b⟩ := d5
  obtain ⟨d6a, d6b⟩ := d6
  obtain ⟨d7a, d7b⟩ := d7
  obtain ⟨d8a, d8b⟩ := d8
  have HN := ec hN
  clear hN
  have HB := Box.mk (w := w) (y := y) (m := m) (d := d)
  unfold tG
  have kc : ∀ (C : Array Value) (n c : Nat), (convert 140 140 (.slice (some ⟨w.heap.size + 1, 0, none⟩) n c)).run Tryz.prog ((w.alloc (.cells #[.int .i64 y, .int .i64 m, .int .i64 d] 284)).alloc (.cells C 5)) = .ok (.slice (some ⟨w.heap.size + 1, 0, none⟩) n c) ((w.alloc (.cells #[.int .i64 y, .int .i64 m, .int .i64 d] 284)).alloc (.cells C 5 (C.size, C.size + 1))) := fun C n c => by
    have h := Lib.run_convert_bytes_const (P := Tryz.prog) (w.alloc (.cells #[.int .i64 y, .int .i64 m, .int .i64 d] 284)) 140 5 C n c Tryz.underlying140 Tryz.underlying5
    rwa [show (w.alloc (.cells #[.int .i64 y, .int .i64 m, .int .i64 d] 284)).heap.size = w.heap.size + 1 by simp] at h
  go_enter Tryz.func261, Tryz.ntmps261
  go_wp2_with fail
  clear kc
  have HT : Hid (TCells (w.heap.size + 1) ((w.alloc (.cells #[.int .i64 y, .int .i64 m, .int .i64 d] 284)).alloc (.cells #[.int .u8 48, .int .u8 48, .int .u8 48, .int .u8 48, .int .u8 45, .int .u8 48, .int .u8 48, .int .u8 45, .int .u8 48, .int .u8 48] 5 (10, 11))) (tX q1 q2 q3 q4 q5 q6 q7 q8 0)) := by
    have h := TCells.new (w.alloc (.cells #[.int .i64 y, .int .i64 m, .int .i64 d] 284)) q1 q2 q3 q4 q5 q6 q7 q8
    rwa [show (w.alloc (.cells #[.int .i64 y, .int .i64 m, .int .i64 d] 284)).heap.size = w.heap.size + 1 by simp] at h
  have HL : Hid (Below w.heap.size w ((w.alloc (.cells #[.int .i64 y, .int .i64 m, .int .i64 d] 284)).alloc (.cells #[.int .u8 48, .int .u8 48, .int .u8 48, .int .u8 48, .int .u8 45, .int .u8 48, .int .u8 48, .int .u8 45, .int .u8 48, .int .u8 48] 5 (10, 11)))) := HB.2.2.2.2.alloc (by simp) _
  clear HB
  generalize hg : w.heap.size + 1 = g at HT ⊢
  have HG := ec (show w.heap.size ≤ g by omega)
  clear hg
  have hN0 : 0 ≤ (y * 100 + m) * 100 + d := by omega
  have hN1 : (y * 100 + m) * 100 + d ≤ 99999999 := by omega
  go_loopw [3, 19] (fun s i wr => ∃ (k : Nat) (D : Int) (xs : List Int), k ≤ 10 ∧ i = .int .i64 k ∧ s = .int .i64 D ∧ 0 ≤ D ∧ D ≤ 99999999 ∧ Hid (D = tD q1 q2 q3 q4 q5 q6 q7 q8 k) ∧ Hid (xs = tX q1 q2 q3 q4 q5 q6 q7 q8 k) ∧ Hid (TCells g wr xs) ∧ Hid (Below w.heap.size w wr)) (fun _ i _ => (10 - intOf i).toNat)
  case atStart => exact ⟨0, _, _, by omega, rfl, rfl, hN0, hN1, HN, rfl, HT, HL⟩
  case round =>
    clear HT HL HN hN0 hN1
    obtain ⟨k, D, xs, hk, rfl, rfl, hD0, hD1, HD, HX, HT, HL⟩ := hrel
    have hc : k = 0 ∨ k = 1 ∨ k = 2 ∨ k = 3 ∨ k = 4 ∨ k = 5 ∨ k = 6 ∨ k = 7 ∨ k = 8 ∨ k = 9 ∨ k = 10 := by omega
    rcases hc with rfl | rfl | rfl | rfl | rfl | rfl | rfl | rfl | rfl | rfl | rfl
    · have hr : D % 10 = q8 := by have h := HD.out; simp only [tD] at h; omega
      have HQ : Hid (D / 10 = tD q1 q2 q3 q4 q5 q6 q7 q8 1) := by have h := HD.out; unfold Hid; simp only [tD] at h ⊢; omega
      have HX2 : Hid (xs.set 9 (48 + q8) = tX q1 q2 q3 q4 q5 q6 q7 q8 1) := by unfold Hid; rw [HX.out]; rfl
      have c : wr.cell? ⟨g, 9, none⟩ = some (.int .u8 48) := by have h := HT.out.cell 9 (by omega); rw [HX.out] at h; exact h
      have f : wr.frozen? ⟨g, 9, none⟩ = false := HT.out.free 9 (by omega)
      go_wp2
      go_roundw
      case rel => exact ⟨1, _, _, by omega, rfl, rfl, by omega, by omega, HQ, HX2, HT.out.put 9 _ (by omega), HL.out.setCell HG.out _⟩
      case measure => simp [intOf]
    · have hr : D % 10 = q7 := by have h := HD.out; simp only [tD] at h; omega
      have HQ : Hid (D / 10 = tD q1 q2 q3 q4 q5 q6 q7 q8 2) := by have h := HD.out; unfold Hid; simp only [tD] at h ⊢; omega
      have HX2 : Hid (xs.set 8 (48 + q7) = tX q1 q2 q3 q4 q5 q6 q7 q8 2) := by unfold Hid; rw [HX.out]; rfl
      have c : wr.cell? ⟨g, 8, none⟩ = some (.int .u8 48) := by have h := HT.out.cell 8 (by omega); rw [HX.out] at h; exact h
      have f : wr.frozen? ⟨g, 8, none⟩ = false := HT.out.free 8 (by omega)
      go_wp2
      go_roundw
      case rel => exact ⟨2, _, _, by omega, rfl, rfl, by omega, by omega, HQ, HX2, HT.out.put 8 _ (by omega), HL.out.setCell HG.out _⟩
      case measure => simp [intOf]
    · go_wp2
      go_roundw
      case rel => exact ⟨3, _, _, by omega, rfl, rfl, by omega, by omega, HD, HX, HT, HL⟩
      case measure => simp [intOf]
    · have hr : D % 10 = q6 := by have h := HD.out; simp only [tD] at h; omega
      have HQ : Hid (D / 10 = tD q1 q2 q3 q4 q5 q6 q7 q8 4) := by have h := HD.out; unfold Hid; simp only [tD] at h ⊢; omega
      have HX2 : Hid (xs.set 6 (48 + q6) = tX q1 q2 q3 q4 q5 q6 q7 q8 4) := by unfold Hid; rw [HX.out]; rfl
      have c : wr.cell? ⟨g, 6, none⟩ = some (.int .u8 48) := by have h := HT.out.cell 6 (by omega); rw [HX.out] at h; exact h
      have f : wr.frozen? ⟨g, 6, none⟩ = false := HT.out.free 6 (by omega)
      go_wp2
      go_roundw
      case rel => exact ⟨4, _, _, by omega, rfl, rfl, by omega, by omega, HQ, HX2, HT.out.put 6 _ (by omega), HL.out.setCell HG.out _⟩
      case measure => simp [intOf]
    · have hr : D % 10 = q5 := by have h := HD.out; simp only [tD] at h; omega
      have HQ : Hid (D / 10 = tD q1 q2 q3 q4 q5 q6 q7 q8 5) := by have h := HD.out; unfold Hid; simp only [tD] at h ⊢; omega
      have HX2 : Hid (xs.set 5 (48 + q5) = tX q1 q2 q3 q4 q5 q6 q7 q8 5) := by unfold Hid; rw [HX.out]; rfl
      have c : wr.cell? ⟨g, 5, none⟩ = some (.int .u8 48) := by have h := HT.out.cell 5 (by omega); rw [HX.out] at h; exact h
      have f : wr.frozen? ⟨g, 5, none⟩ = false := HT.out.free 5 (by omega)
      go_wp2
      go_roundw
      case rel => exact ⟨5, _, _, by omega, rfl, rfl, by omega, by omega, HQ, HX2, HT.out.put 5 _ (by omega), HL.out.setCell HG.out _⟩
      case measure => simp [intOf]
    · go_wp2
      go_roundw
      case rel => exact ⟨6, _, _, by omega, rfl, rfl, by omega, by omega, HD, HX, HT, HL⟩
      case measure => simp [intOf]
    · have hr : D % 10 = q4 := by have h := HD.out; simp only [tD] at h; omega
      have HQ : Hid (D / 10 = tD q1 q2 q3 q4 q5 q6 q7 q8 7) := by have h := HD.out; unfold Hid; simp only [tD] at h ⊢; omega
      have HX2 : Hid (xs.set 3 (48 + q4) = tX q1 q2 q3 q4 q5 q6 q7 q8 7) := by unfold Hid; rw [HX.out]; rfl
      have c : wr.cell? ⟨g, 3, none⟩ = some (.int .u8 48) := by have h := HT.out.cell 3 (by omega); rw [HX.out] at h; exact h
      have f : wr.frozen? ⟨g, 3, none⟩ = false := HT.out.free 3 (by omega)
      go_wp2
      go_roundw
      case rel => exact ⟨7, _, _, by omega, rfl, rfl, by omega, by omega, HQ, HX2, HT.out.put 3 _ (by omega), HL.out.setCell HG.out _⟩
      case measure => simp [intOf]
    · have hr : D % 10 = q3 := by have h := HD.out; simp only [tD] at h; omega
      have HQ : Hid (D / 10 = tD q1 q2 q3 q4 q5 q6 q7 q8 8) := by have h := HD.out; unfold Hid; simp only [tD] at h ⊢; omega
      have HX2 : Hid (xs.set 2 (48 + q3) = tX q1 q2 q3 q4 q5 q6 q7 q8 8) := by unfold Hid; rw [HX.out]; rfl
      have c : wr.cell? ⟨g, 2, none⟩ = some (.int .u8 48) := by have h := HT.out.cell 2 (by omega); rw [HX.out] at h; exact h
      have f : wr.frozen? ⟨g, 2, none⟩ = false := HT.out.free 2 (by omega)
      go_wp2
      go_roundw
      case rel => exact ⟨8, _, _, by omega, rfl, rfl, by omega, by omega, HQ, HX2, HT.out.put 2 _ (by omega), HL.out.setCell HG.out _⟩
      case measure => simp [intOf]
    · have hr : D % 10 = q2 := by have h := HD.out; simp only [tD] at h; omega
      have HQ : Hid (D / 10 = tD q1 q2 q3 q4 q5 q6 q7 q8 9) := by have h := HD.out; unfold Hid; simp only [tD] at h ⊢; omega
      have HX2 : Hid (xs.set 1 (48 + q2) = tX q1 q2 q3 q4 q5 q6 q7 q8 9) := by unfold Hid; rw [HX.out]; rfl
      have c : wr.cell? ⟨g, 1, none⟩ = some (.int .u8 48) := by have h := HT.out.cell 1 (by omega); rw [HX.out] at h; exact h
      have f : wr.frozen? ⟨g, 1, none⟩ = false := HT.out.free 1 (by omega)
      go_wp2
      go_roundw
      case rel => exact ⟨9, _, _, by omega, rfl, rfl, by omega, by omega, HQ, HX2, HT.out.put 1 _ (by omega), HL.out.setCell HG.out _⟩
      case measure => simp [intOf]
    · have hr : D % 10 = q1 := by have h := HD.out; simp only [tD] at h; omega
      have HQ : Hid (D / 10 = tD q1 q2 q3 q4 q5 q6 q7 q8 10) := by have h := HD.out; unfold Hid; simp only [tD] at h ⊢; omega
      have HX2 : Hid (xs.set 0 (48 + q1) = tX q1 q2 q3 q4 q5 q6 q7 q8 10) := by unfold Hid; rw [HX.out]; rfl
      have c : wr.cell? ⟨g, 0, none⟩ = some (.int .u8 48) := by have h := HT.out.cell 0 (by omega); rw [HX.out] at h; exact h
      have f : wr.frozen? ⟨g, 0, none⟩ = false := HT.out.free 0 (by omega)
      go_wp2
      go_roundw
      case rel => exact ⟨10, _, _, by omega, rfl, rfl, by omega, by omega, HQ, HX2, HT.out.put 0 _ (by omega), HL.out.setCell HG.out _⟩
      case measure => simp [intOf]
    · have hcell : ∀ i, i < 10 → wr.cell? ⟨g, 0 + i, none⟩ = some (.int .u8 (xs.getD i 0)) := fun i hi => by rw [Nat.zero_add]; exact HT.out.cell i hi
      have kb := run_convert_bytes_arg (P := Tryz.prog) wr 140 5 Tryz.underlying140 Tryz.underlying5 g 0 10 10 xs HT.out.len hcell 9 Tryz.underlying9
      clear hcell
      go_wp2
      go_ret
      exact ⟨uF (by rw [HX.out]), HL.out⟩
theorem ol (y m d : Int) (w : World) (h : Day y m d) :
    Calls Tryz.prog 261 #[tG y m d] w fun e w' => e = .returned (.string (strOfNums (dateB y m d))) ∧ Below w.heap.size w w' := by
  obtain ⟨h1, h2, h3, h4, h5, h6⟩ := h
  have hml := jF y m
  exact tR y m d (y / 1000) (y / 100 % 10) (y / 10 % 10) (y % 10) (m / 10) (m % 10) (d / 10) (d % 10) w h1 h2 h3 h4 h5 (by omega)
    ⟨by omega, by omega⟩ ⟨by omega, by omega⟩ ⟨by omega, by omega⟩ ⟨by omega, by omega⟩ ⟨by omega, by omega⟩ ⟨by omega, by omega⟩ ⟨by omega, by omega⟩ ⟨by omega, by omega⟩ (by simp only [tD]; omega)
noncomputable def printP (x : Int) : ByteArray × Int := if (kJ x).2.2.2 = 0 then (strOfNums (dateB (kJ x).1 (kJ x).2.1 (kJ x).2.2.1), 0) else (⟨#[]⟩, 31)
theorem xd {y m d : Int} (h : Day y m d) : printP (gk y m d) = (strOfNums (dateB y m d), 0) := by
  unfold printP; rw [wL h]; simp
theorem wY {x : Int} (h : ¬ (1 ≤ x ∧ x ≤ 3652059)) : printP x = (⟨#[]⟩, 31) := by
  unfold printP; rw [wt h]; simp
def L6 (p : ByteArray × Int) : Value := .tuple #[.string p.1, .int .i64 p.2]
theorem print_any (x : Int) (w : World) :
    Calls Tryz.prog 209 #[.int .i64 x] w fun e w' => e = .returned (L6 (printP x)) ∧ Below w.heap.size w w' := by
  by_cases hx : 1 ≤ x ∧ x ≤ 3652059
  · obtain ⟨y, m, d, hd, he⟩ := nD x hx.1 hx.2
    have HP := ec (xd hd)
    obtain ⟨hx1, hx2⟩ := hx
    rw [he] at HP
    have HC := ec (fun W => tW y m d W hd)
    rw [he] at HC
    have HD := ec hd
    clear hd he
    go_enter Tryz.func209, Tryz.ntmps209
    go_wp2_with fail
    refine (wh _ _ hx1 hx2).mono ?_
    rintro e w1 ⟨rfl, rfl⟩
    go_wp2_with fail
    refine (HC.out _).mono ?_
    rintro e w2 ⟨rfl, hb⟩
    clear HC
    go_wp2_with fail
    refine (ol y m d _ HD.out).mono ?_
    rintro e w3 ⟨rfl, hb3⟩
    go_wp2
    go_ret2
    exact ⟨by rw [HP.out]; rfl, hb.trans (hb3.mono hb.size)⟩
  · have HP := ec (wY hx)
    have HX := ec hx
    clear hx
    go_enter Tryz.func209, Tryz.ntmps209
    go_wp2_with fail
    refine (yI _ _ HX.out).mono ?_
    rintro e w1 ⟨rfl, rfl⟩
    go_wp2
    go_ret2
    exact ⟨by rw [HP.out]; rfl, Below.refl _ _⟩
end Go.Proofs.YtbpphlmakmeoaaaGreatDoor.Ca
