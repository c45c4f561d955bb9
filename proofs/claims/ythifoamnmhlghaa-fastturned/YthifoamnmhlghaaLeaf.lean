/- Small functions over lists of numbers. -/
import Derived.Test.YthifoamnmhlghaaMem
namespace Go.Proofs.Ythifoamnmhlghaa
open Go.RowKit

theorem drop_at {α : Type} {l : List α} {k : Nat} {x : α} (h : l[k]? = some x) : l.drop k = x :: l.drop (k + 1) := by
  obtain ⟨hk, e⟩ := List.getElem?_eq_some_iff.1 h
  rw [List.drop_eq_getElem_cons hk, e]
theorem drop_end {α : Type} {l : List α} {k : Nat} (h : l.length ≤ k) : l.drop k = [] := List.drop_eq_nil_of_le h
theorem getD_of {l : List Int} {k : Nat} {x : Int} (h : l[k]? = some x) : l.getD k 0 = x := by rw [List.getD_eq_getElem?_getD, h]; rfl
theorem At1.get {w : World} {a : Option Addr} {l : List Int} (h : At1 w a (ints l)) {i : Nat} {x : Int} (hi : l[i]? = some x) : ∃ g o, a = some ⟨g, o, none⟩ ∧ w.cell? ⟨g, o + i, none⟩ = some (.int .i64 x) := by
  refine h i _ ?_
  unfold ints
  rw [List.getElem?_map, hi]
  rfl

set_option maxRecDepth 100000 in
set_option maxHeartbeats 3200000 in
theorem rising_any {w : World} {a : Option Addr} {l : List Int} {c : Nat} (h : At1 w a (ints l)) (hl : l.length ≤ 140737488351232) (b : Int) :
    Calls Try.prog 36 #[.slice a l.length c, .int .i64 b] w fun e w' => e = .returned (.bool (risesM l b)) ∧ w' = w := by
  have HA := hide h
  obtain ⟨o, ho⟩ : ∃ o, risesM l b = o := ⟨_, rfl⟩
  rw [ho]
  have HO : Hid (risesF b (-1) (l.drop 0) = o) := hide (by rw [List.drop_zero]; exact ho)
  clear h ho
  go_enter Try.func36, Try.ntmps36
  go_wp2_with fail
  go_loop [5, 10] (fun y x => ∃ (k : Nat) (z : Int), k ≤ l.length ∧ x = .int .i64 k ∧ y = .int .i64 z ∧ Hid (risesF b z (l.drop k) = o)) (fun _ x => l.length - (intOf x).toNat)
  case atStart => exact ⟨0, -1, by omega, rfl, rfl, HO⟩
  case round =>
    clear HO
    obtain ⟨k, z, hk, rfl, rfl, HK⟩ := hrel
    by_cases hlt : k < l.length
    · obtain ⟨x, hx⟩ := get_at hlt
      obtain ⟨g, of, rfl, kc⟩ := HA.out.get hx
      have HD := hide (drop_at hx)
      clear hx
      by_cases h1 : x ≤ z
      · have HR : Hid (false = o) := by
          have := HK.out
          rw [HD.out, risesF, if_pos (.inl h1)] at this
          exact this
        clear HK HD
        go_wp2_with fail
        go_ret
        exact ⟨ret_bool HR.out, rfl⟩
      · by_cases h2 : b ≤ x
        · have HR : Hid (false = o) := by
            have := HK.out
            rw [HD.out, risesF, if_pos (.inr h2)] at this
            exact this
          clear HK HD
          go_wp2_with fail
          go_ret
          exact ⟨ret_bool HR.out, rfl⟩
        · have HR : Hid (risesF b x (l.drop (k + 1)) = o) := by
            have := HK.out
            rw [HD.out, risesF, if_neg (by omega)] at this
            exact this
          clear HK HD
          go_wp2_with fail
          go_round
          case rel => exact ⟨k + 1, x, by omega, by go_num, rfl, HR⟩
          case measure => simp [intOf]; omega
    · have HR : Hid (true = o) := by
        have := HK.out
        rw [drop_end (by omega)] at this
        exact this
      go_wp2_with fail
      go_ret
      exact ⟨ret_bool HR.out, rfl⟩

set_option maxRecDepth 100000 in
set_option maxHeartbeats 3200000 in
theorem index_any {w : World} {a : Option Addr} {l : List Int} {c : Nat} (h : At1 w a (ints l)) (hl : l.length ≤ 140737488351232) (s : Int) :
    Calls Try.prog 76 #[.slice a l.length c, .int .i64 s] w fun e w' => ∃ i : Int, e = .returned (.int .i64 i) ∧ (0 ≤ i ↔ s ∈ l) ∧ w' = w := by
  have HA := hide h
  clear h
  go_enter Try.func76, Try.ntmps76
  go_wp2_with fail
  go_loop [8] (fun x => ∃ k : Nat, k ≤ l.length ∧ x = .int .i64 k ∧ Hid (s ∉ l.take k)) (fun x => l.length - (intOf x).toNat)
  case atStart => exact ⟨0, by omega, rfl, hide (by simp)⟩
  case round =>
    obtain ⟨k, hk, rfl, HK⟩ := hrel
    by_cases hlt : k < l.length
    · obtain ⟨g, o, rfl, kc⟩ := HA.out.int hlt
      by_cases he : l.getD k 0 = s
      · have HP := hide (take_hit hlt he)
        rw [he] at kc
        clear he HK
        go_wp2_with fail
        go_ret
        exact ⟨_, rfl, ⟨fun _ => HP.out, fun _ => by omega⟩, rfl⟩
      · have HP := hide (take_step hlt HK.out he)
        generalize l.getD k 0 = x at kc he
        have hbb : (s == x) = false := beq_eq_false_iff_ne.2 (fun e => he e.symm)
        clear he HK
        go_wp2_with fail
        go_round
        case rel => exact ⟨k + 1, by omega, by go_num, HP⟩
        case measure => simp [intOf]; omega
    · have HP : Hid (s ∉ l) := by
        have := HK.out
        rw [List.take_of_length_le (by omega)] at this
        exact this
      go_wp2_with fail
      go_ret
      exact ⟨_, rfl, ⟨fun h => absurd h (by omega), fun h => absurd h HP.out⟩, rfl⟩

set_option maxRecDepth 100000 in
set_option maxHeartbeats 1600000 in
theorem has_any {w : World} {a : Option Addr} {l : List Int} {c : Nat} (h : At1 w a (ints l)) (hl : l.length ≤ 140737488351232) (s : Int) :
    Calls Try.prog 53 #[.slice a l.length c, .int .i64 s] w fun e w' => e = .returned (.bool (decide (s ∈ l))) ∧ w' = w := by
  have C := hide (index_any (c := c) h hl s)
  clear h
  go_enter Try.func53, Try.ntmps53
  go_wp2_with fail
  refine C.out.mono ?_
  rintro _ w1 ⟨i, rfl, hi, hw⟩
  subst w1
  have HI := hide hi
  clear hi C
  go_wp2_with fail
  go_ret
  exact ⟨ret_bool (decide_eq_decide.2 HI.out), rfl⟩

set_option maxHeartbeats 1600000 in
theorem within_any (z b : Int) (w : World) : Calls Try.prog 25 #[.int .i64 z, .int .i64 b] w fun e w' => e = .returned (.bool (inM z b)) ∧ w' = w := by
  by_cases h : 0 ≤ z
  · have HR : Hid (inM z b = decide (z < b)) := hide (by unfold inM; rw [decide_eq_true h, Bool.true_and])
    go_enter Try.func25, Try.ntmps25
    go_wp2_with fail
    go_ret
    exact ⟨ret_bool HR.out.symm, rfl⟩
  · have HR : Hid (inM z b = false) := hide (by unfold inM; rw [decide_eq_false h, Bool.false_and])
    go_enter Try.func25, Try.ntmps25
    go_wp2_with fail
    go_ret
    exact ⟨ret_bool HR.out.symm, rfl⟩

set_option maxHeartbeats 1600000 in
theorem nanC_any (z : Int) (w : World) : Calls Try.prog 94 #[.int .i64 z] w fun e w' => e = .returned (.bool false) ∧ w' = w := by
  go_enter Try.func94, Try.ntmps94
  go_wp2_with fail
  go_ret
  exact ⟨ret_bool (by simp), rfl⟩
set_option maxHeartbeats 1600000 in
theorem nanS_any (z : Int) (w : World) : Calls Try.prog 89 #[.int .i64 z] w fun e w' => e = .returned (.bool false) ∧ w' = w := by
  go_enter Try.func89, Try.ntmps89
  go_wp2_with fail
  go_ret
  exact ⟨ret_bool (by simp), rfl⟩
set_option maxHeartbeats 1600000 in
theorem less_any (x y : Int) (w : World) : Calls Try.prog 88 #[.int .i64 x, .int .i64 y] w fun e w' => e = .returned (.bool (decide (x < y))) ∧ w' = w := by
  have C := hide (nanC_any x w)
  go_enter Try.func88, Try.ntmps88
  go_wp2_with fail
  refine C.out.mono ?_
  rintro _ w1 ⟨rfl, hw⟩
  subst w1
  go_wp2_with fail
  go_ret
  exact ⟨rfl, rfl⟩
end Go.Proofs.Ythifoamnmhlghaa
