/- A day's year, month, day: the program's partsOf and Parts, the document's Parts. -/
import Derived.Test.YtnafhjmeofddoabYear
namespace Go.Proofs.Ytnafhjmeofddoab
open Go.RowKit

/-- What Parts answers. -/
noncomputable def partsP (x : Int) : Int × Int × Int × Int := by
  classical
  exact if h : 1 ≤ x ∧ x ≤ 3652059 then ((day_of x h.1 h.2).choose, (day_of x h.1 h.2).choose_spec.choose, (day_of x h.1 h.2).choose_spec.choose_spec.choose, 0) else (0, 0, 0, 31)

theorem partsP_of {y m d : Int} (h : Day y m d) : partsP (numOf y m d) = (y, m, d, 0) := by
  have hn := h.num_pos
  unfold partsP
  rw [dif_pos hn]
  have hs := (day_of (numOf y m d) hn.1 hn.2).choose_spec.choose_spec.choose_spec
  obtain ⟨e1, e2, e3⟩ := hs.1.only h hs.2
  exact Prod.ext e1 (Prod.ext e2 (Prod.ext e3 rfl))

theorem partsP_no {x : Int} (h : ¬ (1 ≤ x ∧ x ≤ 3652059)) : partsP x = (0, 0, 0, 31) := by
  unfold partsP; rw [dif_neg h]

def quad (p : Int × Int × Int × Int) : Value := .tuple #[.int .i64 p.1, .int .i64 p.2.1, .int .i64 p.2.2.1, .int .i64 p.2.2.2]

abbrev aggD (y m d : Int) : Value := .agg #[.int .i64 y, .int .i64 m, .int .i64 d]

theorem before_mid (y m : Int) (k : Nat) (hk : (k : Int) < m - 1) : before y k + mlen y (k + 1) ≤ before y (m - 1).toNat := by
  have := before_up y (k + 1) (m - 1).toNat (by omega)
  rw [before_step] at this
  exact this

/-- A result's box, empty and open. -/
abbrev Room (B : Nat) (w : World) (W : World) : Prop := Box B w 0 0 0 W ∧ ∀ o, W.frozen? ⟨B, o, none⟩ = false

theorem Room.mk {w : World} : Room w.heap.size w (w.alloc (.cells #[.int .i64 0, .int .i64 0, .int .i64 0] 36)) :=
  ⟨Box.mk, fun o => by simp⟩

theorem Room.below {B : Nat} {w W W' : World} (h : Room B w W) (hb : Below W.heap.size W W') : Room B w W' :=
  ⟨h.1.below hb, fun o => by rw [(bcell hb).2 _ _ h.1.2.2.2.1]; exact h.2 o⟩

set_option maxHeartbeats 800000 in
theorem partsOf_any (y m d : Int) (w : World) (h : Day y m d) :
    Calls Try.prog 11 #[.int .i64 (numOf y m d)] w fun e w' => e = .returned (aggD y m d) ∧ Below w.heap.size w w' := by
  have hin := h.inYear
  have hyl := ylen_pos y
  have hal := ahead_small h.y1 (by have := h.y2; omega)
  have HM := hide (before_mid y m)
  have HN := hide (show numOf y m d = aheadY y + before y (m - 1).toNat + d from rfl)
  obtain ⟨h1, h2, h3, h4, h5, h6⟩ := h
  have hbm := before_small y (m - 1).toNat (by omega)
  generalize hx : numOf y m d = x at HN ⊢
  clear hx
  generalize hbv : before y (m - 1).toNat = bm at *
  have HBV := hide hbv
  clear hbv
  have hx0 : x - 1 = aheadY y + (bm + d - 1) := by have := HN.out; omega
  have hx1 : 1 ≤ x ∧ x ≤ 4000000 := by omega
  have HX := hide hx0
  clear hx0
  have HR := hide (Room.mk (w := w))
  go_enter Try.func11, Try.ntmps11
  go_wp2_with fail
  generalize w.alloc (.cells #[.int .i64 0, .int .i64 0, .int .i64 0] 36) = W at HR ⊢
  generalize hB : w.heap.size = B at HR ⊢
  have HE := hide hB
  clear hB
  rw [HX.out]
  refine (yearOf_any y (bm + d - 1) _ h1 h2 (by omega) (by omega)).mono ?_
  rintro e w1 ⟨rfl, hb⟩
  unfold duo
  have HR1 := hide (HR.out.below hb)
  clear HR hb
  go_wp2_with fail
  go_loopw [4, 5] (fun s i wr => ∃ k : Nat, (k : Int) ≤ m - 1 ∧ i = .int .i64 (k + 1) ∧ s = .int .i64 (bm + d - 1 - before y k) ∧ Hid (Room B w wr)) (fun _ i _ => (12 - intOf i).toNat)
  case atStart => exact ⟨0, by omega, rfl, by simp [before], HR1⟩
  case round =>
    clear HR1
    obtain ⟨k, hk, rfl, rfl, HR⟩ := hrel
    have hbs := before_small y k (by omega)
    have hml' := mlen_pos y (k + 1)
    by_cases hlt : (k : Int) < m - 1
    · have hmid := HM.out k hlt
      have HS := hide (before_step y k)
      go_wp2_with fail
      refine (monthLength_any _ _ _ (by omega) (by omega) (by omega) (by omega)).mono ?_
      rintro e w32 ⟨rfl, hb⟩
      have HR2 := hide (HR.out.below hb)
      clear HR hb
      go_wp2_with fail
      refine (monthLength_any _ _ _ (by omega) (by omega) (by omega) (by omega)).mono ?_
      rintro e w33 ⟨rfl, hb⟩
      have HR3 := hide (HR2.out.below hb)
      clear HR2 hb
      go_wp2
      go_roundw
      case rel => exact ⟨k + 1, by omega, by go_num, by rw [HS.out]; simp; omega, HR3⟩
      case measure => simp [intOf]; omega
    · have hkm : (k : Int) + 1 = m := by omega
      have hbk : before y k = bm := by rw [← HBV.out]; congr 1; omega
      rw [hkm, hbk, show bm + d - 1 - bm = d - 1 by omega]
      have HKM := hide hkm
      clear hbk hkm hml' hbs
      go_wp2_with fail
      refine (monthLength_any _ _ _ (by omega) (by omega) (by omega) (by omega)).mono ?_
      rintro e w32 ⟨rfl, hb⟩
      have HR2 := hide (HR.out.below hb)
      clear HR hb
      have HR := HR2.out
      obtain ⟨⟨c0, c1, c2, c3, c4⟩, c5⟩ := HR
      go_wp2
      refine bodyPost_ret (v := aggD y m d) (by simp [results, Try.results11, go_sem, c0, c1, c2]) rfl ⟨rfl, ?_⟩
      rw [HE.out]
      exact ((c4.setCell (Nat.le_refl _) _).setCell (Nat.le_refl _) _).setCell (Nat.le_refl _) _

/-- The year is found by halves: behind the step s it is less than y + s. -/
theorem ahead_lt_iff {y z : Int} (h1 : 1 ≤ y) (h2 : 1 ≤ z) {r : Int} (hr0 : 1 ≤ r) (hr1 : r ≤ ylen y) : aheadY z < aheadY y + r ↔ z ≤ y := by
  constructor
  · intro h
    rcases Int.lt_or_le y z with h3 | h3
    · have := ahead_next h1 h3; omega
    · exact h3
  · intro h
    have := ahead_mono h2 h
    omega

/-- A step of the search: a power of two, or none. -/
def Half (st : Int) : Prop := st = 0 ∨ ∃ p : Nat, st = 2 ^ p

def bnd (st : Int) : Int := if st = 0 then 1 else 2 * st

theorem half_next {st : Int} (h : Half st) (hp : 0 < st) : Half (st / 2) ∧ bnd (st / 2) = st := by
  rcases h with rfl | ⟨p, rfl⟩
  · omega
  · cases p with
    | zero => exact ⟨.inl (by decide), by decide⟩
    | succ p =>
      have e : (2 : Int) ^ (p + 1) / 2 = 2 ^ p := by rw [Int.pow_succ]; omega
      have hp : (0 : Int) < 2 ^ p := Int.pow_pos (by decide)
      rw [e]
      refine ⟨.inr ⟨p, rfl⟩, ?_⟩
      unfold bnd
      rw [if_neg (by omega), Int.pow_succ]; omega

end Go.Proofs.Ytnafhjmeofddoab
