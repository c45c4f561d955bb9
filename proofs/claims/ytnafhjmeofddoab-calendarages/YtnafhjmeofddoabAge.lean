/- How many birthdays: the program's and the document's. -/
import Derived.Test.YtnafhjmeofddoabAlive
namespace Go.Proofs.Ytnafhjmeofddoab
open Go.RowKit

/-- Is a place in a year ahead of another? -/
def aheadB (k f m d : Int) : Bool := decide (k < m ∨ (k = m ∧ f < d))

/-- How many birthdays there were. -/
def ageP (y m d z k f : Int) : Int := if aheadB k f m d then z - y - 1 else z - y

set_option maxHeartbeats 400000 in
theorem earlier_any (z k f y m d : Int) (w : World) :
    Calls Try.prog 12 #[aggD z k f, aggD y m d] w fun e w' => e = .returned (.bool (aheadB k f m d)) ∧ Below w.heap.size w w' := by
  unfold aggD
  by_cases hm : k = m
  · subst hm
    have HB := hide (show aheadB k f k d = decide (f < d) by unfold aheadB; simp)
    go_enter Try.func12, Try.ntmps12
    go_wp2
    go_ret
    exact ⟨ret_bool HB.out.symm, ((Below.refl _ _).alloc (Nat.le_refl _) _).alloc (by simp) _⟩
  · have HB := hide (show aheadB k f m d = decide (k < m) by unfold aheadB; simp; omega)
    go_enter Try.func12, Try.ntmps12
    go_wp2
    go_ret
    exact ⟨ret_bool HB.out.symm, ((Below.refl _ _).alloc (Nat.le_refl _) _).alloc (by simp) _⟩

/-- What Age answers. -/
noncomputable def ageQ (x v : Int) : Int × Int :=
  if (partsP x).2.2.2 ≠ 0 ∨ (partsP v).2.2.2 ≠ 0 then (0, 31)
  else if v < x then (0, 7) else (ageP (partsP x).1 (partsP x).2.1 (partsP x).2.2.1 (partsP v).1 (partsP v).2.1 (partsP v).2.2.1, 0)

theorem ageQ_of {y m d z k f : Int} (h : Day y m d) (h' : Day z k f) : ageQ (numOf y m d) (numOf z k f) = if numOf z k f < numOf y m d then (0, 7) else (ageP y m d z k f, 0) := by
  unfold ageQ; rw [partsP_of h, partsP_of h']; simp

theorem ageQ_no {x v : Int} (h : ¬ (1 ≤ x ∧ x ≤ 3652059) ∨ ¬ (1 ≤ v ∧ v ≤ 3652059)) : ageQ x v = (0, 31) := by
  unfold ageQ
  rw [if_pos]
  rcases h with h | h
  · left; rw [partsP_no h]; simp
  · right; rw [partsP_no h]; simp

set_option maxHeartbeats 800000 in
theorem age_any (x v : Int) (w : World) :
    Calls Try.prog 5 #[.int .i64 x, .int .i64 v] w fun e w' => e = .returned (duo (ageQ x v)) ∧ Below w.heap.size w w' := by
  by_cases hx : 1 ≤ x ∧ x ≤ 3652059
  · by_cases hv : 1 ≤ v ∧ v ≤ 3652059
    · obtain ⟨y, m, d, hd, he⟩ := day_of x hx.1 hx.2
      obtain ⟨z, k, f, hd', he'⟩ := day_of v hv.1 hv.2
      have HA := hide (ageQ_of hd hd')
      rw [he, he'] at HA
      have HC := hide (fun W => partsOf_any y m d W hd)
      have HC' := hide (fun W => partsOf_any z k f W hd')
      rw [he] at HC
      rw [he'] at HC'
      obtain ⟨hx1, hx2⟩ := hx
      obtain ⟨hv1, hv2⟩ := hv
      have hy1 := hd.y1
      have hy2 := hd.y2
      have hz1 := hd'.y1
      have hz2 := hd'.y2
      clear hd hd' he he'
      by_cases hlt : v < x
      · have HR : Hid (ageQ x v = (0, 7)) := by unfold Hid; rw [HA.out, if_pos hlt]
        clear HA HC HC'
        go_enter Try.func5, Try.ntmps5
        go_wp2_with (go_at_call 10; refine (isDay_yes _ _ (by omega) (by omega)).mono ?_; rintro e w' ⟨rfl, rfl⟩)
        go_ret2
        exact ⟨by rw [HR.out]; rfl, Below.refl _ _⟩
      · have HR : Hid (ageQ x v = (ageP y m d z k f, 0)) := by unfold Hid; rw [HA.out, if_neg hlt]
        clear HA
        unfold aggD at HC HC'
        have HE := hide (fun W => earlier_any z k f y m d W)
        unfold aggD at HE
        go_enter Try.func5, Try.ntmps5
        go_wp2_with (go_at_call 10; refine (isDay_yes _ _ (by omega) (by omega)).mono ?_; rintro e w' ⟨rfl, rfl⟩)
        refine (HC.out _).mono ?_
        rintro e w1 ⟨rfl, hb1⟩
        go_wp2_with fail
        refine (HC'.out _).mono ?_
        rintro e w2 ⟨rfl, hb2⟩
        have hb12 := hb1.trans (hb2.mono hb1.size)
        have HB := hide hb12
        clear hb1 hb2 hb12 HC HC'
        go_wp2_with fail
        refine (HE.out _).mono ?_
        rintro e w3 ⟨rfl, hb3⟩
        have hg : Below w'.heap.size w' w3 := by
          refine (?_ : Below w'.heap.size w' _).trans (hb3.mono ?_)
          · exact (HB.out.alloc HB.out.size _).alloc (by have := HB.out.size; simp; omega) _
          · have := HB.out.size
            simp
            omega
        clear hb3
        by_cases hah : aheadB k f m d = true
        · rw [hah]
          have HG : Hid (ageP y m d z k f = z - y - 1) := by unfold Hid ageP; rw [hah]; simp
          go_wp2
          go_ret2
          exact ⟨by rw [HR.out, HG.out]; rfl, hg⟩
        · rw [Bool.not_eq_true] at hah
          rw [hah]
          have HG : Hid (ageP y m d z k f = z - y) := by unfold Hid ageP; rw [hah]; simp
          go_wp2
          go_ret2
          exact ⟨by rw [HR.out, HG.out]; rfl, hg⟩
    · have HR := hide (ageQ_no (x := x) (v := v) (.inr hv))
      have HV := hide hv
      obtain ⟨hx1, hx2⟩ := hx
      clear hv
      go_enter Try.func5, Try.ntmps5
      go_wp2_with fail
      refine (isDay_yes _ _ hx1 hx2).mono ?_
      rintro e w1 ⟨rfl, rfl⟩
      go_wp2_with fail
      refine (isDay_no _ _ HV.out).mono ?_
      rintro e w1 ⟨rfl, rfl⟩
      go_wp2
      go_ret2
      exact ⟨by rw [HR.out]; rfl, Below.refl _ _⟩
  · have HR := hide (ageQ_no (x := x) (v := v) (.inl hx))
    have HX := hide hx
    clear hx
    go_enter Try.func5, Try.ntmps5
    go_wp2_with fail
    refine (isDay_no _ _ HX.out).mono ?_
    rintro e w1 ⟨rfl, rfl⟩
    go_wp2
    go_ret2
    exact ⟨by rw [HR.out]; rfl, Below.refl _ _⟩

theorem ahead_leap {m d z k f : Int} (h : Day z k f) (hm : m = 2) (hd : d = 29) (hl : leapB z = false) : aheadB k f 3 1 = aheadB k f m d := by
  subst hm; subst hd
  have h1 := h.d1
  have h2 := h.d2
  unfold aheadB
  rw [decide_eq_decide]
  by_cases hk : k = 2
  · subst hk
    have : mlen z 2 = 28 := by simp [mlen, hl]
    omega
  · omega

end Go.Proofs.Ytnafhjmeofddoab
