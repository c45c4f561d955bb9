/- Searching in a rising list; the least of a list. -/
import Derived.Test.YthifoamnmhlghaaLeaf
namespace Go.Proofs.Ythifoamnmhlghaa
open Go.RowKit

theorem pw_lt {l : List Int} (h : l.Pairwise (· < ·)) {i j : Nat} {x y : Int} (hi : l[i]? = some x) (hj : l[j]? = some y) (hij : i < j) : x < y := by
  obtain ⟨h1, rfl⟩ := List.getElem?_eq_some_iff.1 hi
  obtain ⟨h2, rfl⟩ := List.getElem?_eq_some_iff.1 hj
  exact List.pairwise_iff_getElem.1 h i j h1 h2 hij
/-- What a search answers. -/
def Sr (l : List Int) (t : Int) (e : Ending) : Prop := ∃ z : Int, e = .returned (.tuple #[.int .i64 z, .bool (decide (t ∈ l))])
structure Bs (l : List Int) (t : Int) (i j : Nat) : Prop where
  le : i ≤ j
  n : j ≤ l.length
  lo : ∀ (m : Nat) x, m < i → l[m]? = some x → x < t
  hi : ∀ (m : Nat) x, j ≤ m → l[m]? = some x → t ≤ x

set_option maxRecDepth 100000 in
set_option maxHeartbeats 6400000 in
theorem search_any {w : World} {a : Option Addr} {l : List Int} {c : Nat} (h : At1 w a (ints l)) (hl : l.length ≤ 140737488351232) (hp : l.Pairwise (· < ·)) (t : Int) :
    Calls Try.prog 77 #[.slice a l.length c, .int .i64 t] w fun e w' => Sr l t e ∧ w' = w := by
  have HA := hide h
  have HP := hide hp
  clear h hp
  go_enter Try.func77, Try.ntmps77
  go_wp2_with fail
  go_loop [7, 8] (fun x y => ∃ (i j : Nat), x = .int .i64 i ∧ y = .int .i64 j ∧ i ≤ j ∧ j ≤ l.length ∧ Hid (Bs l t i j)) (fun x y => (intOf y).toNat - (intOf x).toNat)
  case atStart => exact ⟨0, l.length, rfl, rfl, by omega, by omega, hide ⟨by omega, by omega, fun m x hm => by omega, fun m x hm hx => by rw [List.getElem?_eq_none (by omega)] at hx; cases hx⟩⟩
  case round =>
    obtain ⟨i, j, rfl, rfl, hij, hjl, HB⟩ := hrel
    by_cases hlt : i < j
    · obtain ⟨x, hx⟩ := get_at (l := l) (i := (i + j) / 2) (by omega)
      obtain ⟨g, of, rfl, kc⟩ := HA.out.get hx
      have HX := hide hx
      have CL := hide (less_any x t w)
      clear hx
      by_cases hxt : x < t
      · have HN : Hid (Bs l t ((i + j) / 2 + 1) j) := hide ⟨by omega, HB.out.n, fun m y hm hy => by
          by_cases e : m = (i + j) / 2
          · subst e; rw [HX.out] at hy; cases hy; exact hxt
          · have := pw_lt HP.out hy HX.out (by omega); omega, HB.out.hi⟩
        clear HX HB
        go_wp2_with (go_at_call 88; refine CL.out.mono ?_; rintro _ w1 ⟨rfl, hw⟩; subst w1)
        go_round
        case rel => exact ⟨(i + j) / 2 + 1, j, by go_num, rfl, by omega, by omega, HN⟩
        case measure => simp [intOf]; omega
      · have HN : Hid (Bs l t i ((i + j) / 2)) := hide ⟨by omega, by omega, HB.out.lo, fun m y hm hy => by
          by_cases e : m = (i + j) / 2
          · subst e; rw [HX.out] at hy; cases hy; omega
          · have := pw_lt HP.out HX.out hy (by omega); omega⟩
        clear HX HB
        go_wp2_with (go_at_call 88; refine CL.out.mono ?_; rintro _ w1 ⟨rfl, hw⟩; subst w1)
        go_round
        case rel => exact ⟨i, (i + j) / 2, rfl, by go_num, by omega, by omega, HN⟩
        case measure => simp [intOf]; omega
    · have e : i = j := by omega
      subst e
      have HN : Hid (∀ (m : Nat) x, l[m]? = some x → x = t → m = i) := hide fun m x hm hx => by
        subst hx
        have h1 : ¬ m < i := fun h => by have := HB.out.lo m x h hm; omega
        by_cases h2 : m = i
        · exact h2
        · obtain ⟨y, hy⟩ := get_at (l := l) (i := i) (by have := (List.getElem?_eq_some_iff.1 hm).1; omega)
          have h3 := HB.out.hi i y (Nat.le_refl _) hy
          have h4 := pw_lt HP.out hy hm (by omega)
          omega
      clear HB HP
      by_cases hil : i < l.length
      · obtain ⟨x, hx⟩ := get_at hil
        obtain ⟨g, of, rfl, kc⟩ := HA.out.get hx
        by_cases hxt : x = t
        · subst hxt
          have HR : Hid (x ∈ l) := hide (List.mem_of_getElem? hx)
          clear hx HN hlt
          go_wp2_with fail
          go_ret2
          exact ⟨⟨_, by rw [decide_eq_true HR.out]; rfl⟩, rfl⟩
        · have HR : Hid (¬ t ∈ l) := hide fun hm => by
            obtain ⟨m, hm1, hm2⟩ := List.mem_iff_getElem.1 hm
            have h1 := List.getElem?_eq_getElem hm1
            rw [hm2] at h1
            have := HN.out m t h1 rfl
            subst this
            rw [hx] at h1
            cases h1
            exact hxt rfl
          have hbb : (x == t) = false := beq_eq_false_iff_ne.2 hxt
          have CN := hide (nanS_any x w)
          clear hx HN hlt hxt
          go_wp2_with (go_at_call 89; refine CN.out.mono ?_; rintro _ w1 ⟨rfl, hw⟩; subst w1)
          go_ret2
          exact ⟨⟨_, by rw [decide_eq_false HR.out]; rfl⟩, rfl⟩
      · have HR : Hid (¬ t ∈ l) := hide fun hm => by
          obtain ⟨m, hm1, hm2⟩ := List.mem_iff_getElem.1 hm
          have h1 := List.getElem?_eq_getElem hm1
          have := HN.out m _ h1 hm2
          omega
        clear HN hlt
        go_wp2_with fail
        go_ret2
        exact ⟨⟨_, by rw [decide_eq_false HR.out]; rfl⟩, rfl⟩

theorem min_if (x y : Int) : (if y < x then y else x) = min x y := by rw [Int.min_def]; split <;> split <;> omega
set_option maxRecDepth 100000 in
set_option maxHeartbeats 6400000 in
theorem min_any {w : World} {a : Option Addr} {l : List Int} {c : Nat} (h : At1 w a (ints l)) (hl : l.length ≤ 140737488351232) (hne : 1 ≤ l.length) :
    Calls Try.prog 58 #[.slice a l.length c] w fun e w' => e = .returned (.int .i64 (minM l)) ∧ w' = w := by
  have HA := hide h
  obtain ⟨x0, hx0⟩ := get_at (l := l) (i := 0) (by omega)
  obtain ⟨g, of, rfl, kc⟩ := h.get hx0
  have HM : Hid (minM l = (l.drop 1).foldl min x0) := hide (by
    have := drop_at hx0
    rw [List.drop_zero] at this
    conv => lhs; rw [this]
    rfl)
  obtain ⟨o, ho⟩ : ∃ o, minM l = o := ⟨_, rfl⟩
  rw [ho]
  rw [ho] at HM
  rw [Nat.add_zero] at kc
  clear h hx0 ho
  go_enter Try.func58, Try.ntmps58
  go_wp2_with fail
  go_loop [3, 4] (fun y x => ∃ (k : Nat) (z : Int), 1 ≤ k ∧ k ≤ l.length ∧ x = .int .i64 k ∧ y = .int .i64 z ∧ Hid (o = (l.drop k).foldl min z)) (fun _ x => l.length - (intOf x).toNat)
  case atStart => exact ⟨1, x0, by omega, by omega, rfl, rfl, HM⟩
  case round =>
    clear HM kc
    obtain ⟨k, z, hk1, hk, rfl, rfl, HK⟩ := hrel
    by_cases hlt : k < l.length
    · obtain ⟨x, hx⟩ := get_at hlt
      obtain ⟨_, _, e, kc⟩ := HA.out.get hx
      cases e
      have HN : Hid (o = (l.drop (k + 1)).foldl min (min z x)) := hide (by rw [HK.out, drop_at hx]; rfl)
      clear hx HK
      go_wp2_with fail
      go_round
      case rel => exact ⟨k + 1, min z x, by omega, by omega, by go_num, by rw [min_if], HN⟩
      case measure => simp [intOf]; omega
    · have HN : Hid (o = z) := hide (by rw [HK.out, drop_end (by omega)]; rfl)
      clear HK
      go_wp2_with fail
      go_ret
      exact ⟨by rw [HN.out]; rfl, rfl⟩
end Go.Proofs.Ythifoamnmhlghaa
