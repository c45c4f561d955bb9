/- Small functions over lists of numbers. -/
import Derived.Test.YtdmnoeooljofcaaMem
namespace Go.Proofs.Ytdmnoeooljofcaa
open Go.RowKit

theorem drop_at {α : Type} {l : List α} {k : Nat} {x : α} (h : l[k]? = some x) : l.drop k = x :: l.drop (k + 1) := by
  obtain ⟨hk, e⟩ := List.getElem?_eq_some_iff.1 h
  rw [List.drop_eq_getElem_cons hk, e]
theorem drop_end {α : Type} {l : List α} {k : Nat} (h : l.length ≤ k) : l.drop k = [] := List.drop_eq_nil_of_le h
theorem At1.get {w : World} {a : Option Addr} {l : List Int} (h : At1 w a (ints l)) {i : Nat} {x : Int} (hi : l[i]? = some x) : ∃ g o, a = some ⟨g, o, none⟩ ∧ w.cell? ⟨g, o + i, none⟩ = some (.int .i64 x) := by
  refine h i _ ?_
  unfold ints
  rw [List.getElem?_map, hi]
  rfl

set_option maxRecDepth 100000 in
set_option maxHeartbeats 3200000 in
theorem rising_any {w : World} {a : Option Addr} {l : List Int} {c : Nat} (h : At1 w a (ints l)) (hl : l.length ≤ 140737488351232) (b : Int) :
    Calls Try.prog 61 #[.slice a l.length c, .int .i64 b] w fun e w' => e = .returned (.bool (risesM l b)) ∧ w' = w := by
  have HA := hide h
  obtain ⟨o, ho⟩ : ∃ o, risesM l b = o := ⟨_, rfl⟩
  rw [ho]
  have HO : Hid (risesF b (-1) (l.drop 0) = o) := hide (by rw [List.drop_zero]; exact ho)
  clear h ho
  go_enter Try.func61, Try.ntmps61
  go_wp2_with fail
  go_loop [5, 10] (fun y x => ∃ (k : Nat) (z : Int), k ≤ l.length ∧ x = .int .i64 k ∧ y = .int .i64 z ∧ Hid (risesF b z (l.drop k) = o)) (fun _ x => l.length - (intOf x).toNat)
  case atStart => exact ⟨0, -1, by omega, rfl, rfl, HO⟩
  case round =>
    clear HO
    obtain ⟨k, z, hk, rfl, rfl, HK⟩ := hrel
    by_cases hlt : k < l.length
    · obtain ⟨x, hx⟩ := get_at hlt
      obtain ⟨g, of, rfl, kc⟩ := HA.out.get hx
      have HD := hide (drop_at hx)
      clear hx
      by_cases h1 : x ≤ z
      · have HR : Hid (false = o) := by
          have := HK.out
          rw [HD.out, risesF, if_pos (.inl h1)] at this
          exact this
        clear HK HD
        go_wp2_with fail
        go_ret
        exact ⟨ret_bool HR.out, rfl⟩
      · by_cases h2 : b ≤ x
        · have HR : Hid (false = o) := by
            have := HK.out
            rw [HD.out, risesF, if_pos (.inr h2)] at this
            exact this
          clear HK HD
          go_wp2_with fail
          go_ret
          exact ⟨ret_bool HR.out, rfl⟩
        · have HR : Hid (risesF b x (l.drop (k + 1)) = o) := by
            have := HK.out
            rw [HD.out, risesF, if_neg (by omega)] at this
            exact this
          clear HK HD
          go_wp2_with fail
          go_round
          case rel => exact ⟨k + 1, x, by omega, by go_num, rfl, HR⟩
          case measure => simp [intOf]; omega
    · have HR : Hid (true = o) := by
        have := HK.out
        rw [drop_end (by omega)] at this
        exact this
      go_wp2_with fail
      go_ret
      exact ⟨ret_bool HR.out, rfl⟩

set_option maxRecDepth 100000 in
set_option maxHeartbeats 3200000 in
theorem index_any {w : World} {a : Option Addr} {l : List Int} {c : Nat} (h : At1 w a (ints l)) (hl : l.length ≤ 140737488351232) (s : Int) :
    Calls Try.prog 72 #[.slice a l.length c, .int .i64 s] w fun e w' => ∃ i : Int, e = .returned (.int .i64 i) ∧ (0 ≤ i ↔ s ∈ l) ∧ w' = w := by
  have HA := hide h
  clear h
  go_enter Try.func72, Try.ntmps72
  go_wp2_with fail
  go_loop [8] (fun x => ∃ k : Nat, k ≤ l.length ∧ x = .int .i64 k ∧ Hid (s ∉ l.take k)) (fun x => l.length - (intOf x).toNat)
  case atStart => exact ⟨0, by omega, rfl, hide (by simp)⟩
  case round =>
    obtain ⟨k, hk, rfl, HK⟩ := hrel
    by_cases hlt : k < l.length
    · obtain ⟨g, o, rfl, kc⟩ := HA.out.int hlt
      by_cases he : l.getD k 0 = s
      · have HP := hide (take_hit hlt he)
        rw [he] at kc
        clear he HK
        go_wp2_with fail
        go_ret
        exact ⟨_, rfl, ⟨fun _ => HP.out, fun _ => by omega⟩, rfl⟩
      · have HP := hide (take_step hlt HK.out he)
        generalize l.getD k 0 = x at kc he
        have hbb : (s == x) = false := beq_eq_false_iff_ne.2 (fun e => he e.symm)
        clear he HK
        go_wp2_with fail
        go_round
        case rel => exact ⟨k + 1, by omega, by go_num, HP⟩
        case measure => simp [intOf]; omega
    · have HP : Hid (s ∉ l) := by
        have := HK.out
        rw [List.take_of_length_le (by omega)] at this
        exact this
      go_wp2_with fail
      go_ret
      exact ⟨_, rfl, ⟨fun h => absurd h (by omega), fun h => absurd h HP.out⟩, rfl⟩

set_option maxRecDepth 100000 in
set_option maxHeartbeats 1600000 in
theorem has_any {w : World} {a : Option Addr} {l : List Int} {c : Nat} (h : At1 w a (ints l)) (hl : l.length ≤ 140737488351232) (s : Int) :
    Calls Try.prog 62 #[.slice a l.length c, .int .i64 s] w fun e w' => e = .returned (.bool (decide (s ∈ l))) ∧ w' = w := by
  have C := hide (index_any (c := c) h hl s)
  clear h
  go_enter Try.func62, Try.ntmps62
  go_wp2_with fail
  refine C.out.mono ?_
  rintro _ w1 ⟨i, rfl, hi, hw⟩
  subst w1
  have HI := hide hi
  clear hi C
  go_wp2_with fail
  go_ret
  exact ⟨ret_bool (decide_eq_decide.2 HI.out), rfl⟩

set_option maxHeartbeats 1600000 in
theorem within_any (z b : Int) (w : World) : Calls Try.prog 33 #[.int .i64 z, .int .i64 b] w fun e w' => e = .returned (.bool (inM z b)) ∧ w' = w := by
  by_cases h : 0 ≤ z
  · have HR : Hid (inM z b = decide (z < b)) := hide (by unfold inM; rw [decide_eq_true h, Bool.true_and])
    go_enter Try.func33, Try.ntmps33
    go_wp2_with fail
    go_ret
    exact ⟨ret_bool HR.out.symm, rfl⟩
  · have HR : Hid (inM z b = false) := hide (by unfold inM; rw [decide_eq_false h, Bool.false_and])
    go_enter Try.func33, Try.ntmps33
    go_wp2_with fail
    go_ret
    exact ⟨ret_bool HR.out.symm, rfl⟩

set_option maxHeartbeats 1600000 in
theorem nanC_any (z : Int) (w : World) : Calls Try.prog 79 #[.int .i64 z] w fun e w' => e = .returned (.bool false) ∧ w' = w := by
  go_enter Try.func79, Try.ntmps79
  go_wp2_with fail
  go_ret
  exact ⟨ret_bool (by simp), rfl⟩
set_option maxHeartbeats 1600000 in
theorem nanS_any (z : Int) (w : World) : Calls Try.prog 77 #[.int .i64 z] w fun e w' => e = .returned (.bool false) ∧ w' = w := by
  go_enter Try.func77, Try.ntmps77
  go_wp2_with fail
  go_ret
  exact ⟨ret_bool (by simp), rfl⟩
set_option maxHeartbeats 1600000 in
theorem less_any (x y : Int) (w : World) : Calls Try.prog 76 #[.int .i64 x, .int .i64 y] w fun e w' => e = .returned (.bool (decide (x < y))) ∧ w' = w := by
  have C := hide (nanC_any x w)
  go_enter Try.func76, Try.ntmps76
  go_wp2_with fail
  refine C.out.mono ?_
  rintro _ w1 ⟨rfl, hw⟩
  subst w1
  go_wp2_with fail
  go_ret
  exact ⟨rfl, rfl⟩
end Go.Proofs.Ytdmnoeooljofcaa
/- Searching in a rising list; the least of a list. -/
namespace Go.Proofs.Ytdmnoeooljofcaa
open Go.RowKit

theorem pw_lt {l : List Int} (h : l.Pairwise (· < ·)) {i j : Nat} {x y : Int} (hi : l[i]? = some x) (hj : l[j]? = some y) (hij : i < j) : x < y := by
  obtain ⟨h1, rfl⟩ := List.getElem?_eq_some_iff.1 hi
  obtain ⟨h2, rfl⟩ := List.getElem?_eq_some_iff.1 hj
  exact List.pairwise_iff_getElem.1 h i j h1 h2 hij
/-- What a search answers. -/
def Sr (l : List Int) (t : Int) (e : Ending) : Prop := ∃ z : Int, e = .returned (.tuple #[.int .i64 z, .bool (decide (t ∈ l))])
structure Bs (l : List Int) (t : Int) (i j : Nat) : Prop where
  le : i ≤ j
  n : j ≤ l.length
  lo : ∀ (m : Nat) x, m < i → l[m]? = some x → x < t
  hi : ∀ (m : Nat) x, j ≤ m → l[m]? = some x → t ≤ x

set_option maxRecDepth 100000 in
set_option maxHeartbeats 6400000 in
theorem search_any {w : World} {a : Option Addr} {l : List Int} {c : Nat} (h : At1 w a (ints l)) (hl : l.length ≤ 140737488351232) (hp : l.Pairwise (· < ·)) (t : Int) :
    Calls Try.prog 73 #[.slice a l.length c, .int .i64 t] w fun e w' => Sr l t e ∧ w' = w := by
  have HA := hide h
  have HP := hide hp
  clear h hp
  go_enter Try.func73, Try.ntmps73
  go_wp2_with fail
  go_loop [7, 8] (fun x y => ∃ (i j : Nat), x = .int .i64 i ∧ y = .int .i64 j ∧ i ≤ j ∧ j ≤ l.length ∧ Hid (Bs l t i j)) (fun x y => (intOf y).toNat - (intOf x).toNat)
  case atStart => exact ⟨0, l.length, rfl, rfl, by omega, by omega, hide ⟨by omega, by omega, fun m x hm => by omega, fun m x hm hx => by rw [List.getElem?_eq_none (by omega)] at hx; cases hx⟩⟩
  case round =>
    obtain ⟨i, j, rfl, rfl, hij, hjl, HB⟩ := hrel
    by_cases hlt : i < j
    · obtain ⟨x, hx⟩ := get_at (l := l) (i := (i + j) / 2) (by omega)
      obtain ⟨g, of, rfl, kc⟩ := HA.out.get hx
      have HX := hide hx
      have CL := hide (less_any x t w)
      clear hx
      by_cases hxt : x < t
      · have HN : Hid (Bs l t ((i + j) / 2 + 1) j) := hide ⟨by omega, HB.out.n, fun m y hm hy => by
          by_cases e : m = (i + j) / 2
          · subst e; rw [HX.out] at hy; cases hy; exact hxt
          · have := pw_lt HP.out hy HX.out (by omega); omega, HB.out.hi⟩
        clear HX HB
        go_wp2_with (go_at_call 76; refine CL.out.mono ?_; rintro _ w1 ⟨rfl, hw⟩; subst w1)
        go_round
        case rel => exact ⟨(i + j) / 2 + 1, j, by go_num, rfl, by omega, by omega, HN⟩
        case measure => simp [intOf]; omega
      · have HN : Hid (Bs l t i ((i + j) / 2)) := hide ⟨by omega, by omega, HB.out.lo, fun m y hm hy => by
          by_cases e : m = (i + j) / 2
          · subst e; rw [HX.out] at hy; cases hy; omega
          · have := pw_lt HP.out HX.out hy (by omega); omega⟩
        clear HX HB
        go_wp2_with (go_at_call 76; refine CL.out.mono ?_; rintro _ w1 ⟨rfl, hw⟩; subst w1)
        go_round
        case rel => exact ⟨i, (i + j) / 2, rfl, by go_num, by omega, by omega, HN⟩
        case measure => simp [intOf]; omega
    · have e : i = j := by omega
      subst e
      have HN : Hid (∀ (m : Nat) x, l[m]? = some x → x = t → m = i) := hide fun m x hm hx => by
        subst hx
        have h1 : ¬ m < i := fun h => by have := HB.out.lo m x h hm; omega
        by_cases h2 : m = i
        · exact h2
        · obtain ⟨y, hy⟩ := get_at (l := l) (i := i) (by have := (List.getElem?_eq_some_iff.1 hm).1; omega)
          have h3 := HB.out.hi i y (Nat.le_refl _) hy
          have h4 := pw_lt HP.out hy hm (by omega)
          omega
      clear HB HP
      by_cases hil : i < l.length
      · obtain ⟨x, hx⟩ := get_at hil
        obtain ⟨g, of, rfl, kc⟩ := HA.out.get hx
        by_cases hxt : x = t
        · subst hxt
          have HR : Hid (x ∈ l) := hide (List.mem_of_getElem? hx)
          clear hx HN hlt
          go_wp2_with fail
          go_ret2
          exact ⟨⟨_, by rw [decide_eq_true HR.out]; rfl⟩, rfl⟩
        · have HR : Hid (¬ t ∈ l) := hide fun hm => by
            obtain ⟨m, hm1, hm2⟩ := List.mem_iff_getElem.1 hm
            have h1 := List.getElem?_eq_getElem hm1
            rw [hm2] at h1
            have := HN.out m t h1 rfl
            subst this
            rw [hx] at h1
            cases h1
            exact hxt rfl
          have hbb : (x == t) = false := beq_eq_false_iff_ne.2 hxt
          have CN := hide (nanS_any x w)
          clear hx HN hlt hxt
          go_wp2_with (go_at_call 77; refine CN.out.mono ?_; rintro _ w1 ⟨rfl, hw⟩; subst w1)
          go_ret2
          exact ⟨⟨_, by rw [decide_eq_false HR.out]; rfl⟩, rfl⟩
      · have HR : Hid (¬ t ∈ l) := hide fun hm => by
          obtain ⟨m, hm1, hm2⟩ := List.mem_iff_getElem.1 hm
          have h1 := List.getElem?_eq_getElem hm1
          have := HN.out m _ h1 hm2
          omega
        clear HN hlt
        go_wp2_with fail
        go_ret2
        exact ⟨⟨_, by rw [decide_eq_false HR.out]; rfl⟩, rfl⟩

theorem min_if (x y : Int) : (if y < x then y else x) = min x y := by rw [Int.min_def]; split <;> split <;> omega
set_option maxRecDepth 100000 in
set_option maxHeartbeats 6400000 in
theorem min_any {w : World} {a : Option Addr} {l : List Int} {c : Nat} (h : At1 w a (ints l)) (hl : l.length ≤ 140737488351232) (hne : 1 ≤ l.length) :
    Calls Try.prog 67 #[.slice a l.length c] w fun e w' => e = .returned (.int .i64 (minM l)) ∧ w' = w := by
  have HA := hide h
  obtain ⟨x0, hx0⟩ := get_at (l := l) (i := 0) (by omega)
  obtain ⟨g, of, rfl, kc⟩ := h.get hx0
  have HM : Hid (minM l = (l.drop 1).foldl min x0) := hide (by
    have := drop_at hx0
    rw [List.drop_zero] at this
    conv => lhs; rw [this]
    rfl)
  obtain ⟨o, ho⟩ : ∃ o, minM l = o := ⟨_, rfl⟩
  rw [ho]
  rw [ho] at HM
  rw [Nat.add_zero] at kc
  clear h hx0 ho
  go_enter Try.func67, Try.ntmps67
  go_wp2_with fail
  go_loop [3, 4] (fun y x => ∃ (k : Nat) (z : Int), 1 ≤ k ∧ k ≤ l.length ∧ x = .int .i64 k ∧ y = .int .i64 z ∧ Hid (o = (l.drop k).foldl min z)) (fun _ x => l.length - (intOf x).toNat)
  case atStart => exact ⟨1, x0, by omega, by omega, rfl, rfl, HM⟩
  case round =>
    clear HM kc
    obtain ⟨k, z, hk1, hk, rfl, rfl, HK⟩ := hrel
    by_cases hlt : k < l.length
    · obtain ⟨x, hx⟩ := get_at hlt
      obtain ⟨_, _, e, kc⟩ := HA.out.get hx
      cases e
      have HN : Hid (o = (l.drop (k + 1)).foldl min (min z x)) := hide (by rw [HK.out, drop_at hx]; rfl)
      clear hx HK
      go_wp2_with fail
      go_round
      case rel => exact ⟨k + 1, min z x, by omega, by omega, by go_num, by rw [min_if], HN⟩
      case measure => simp [intOf]; omega
    · have HN : Hid (o = z) := hide (by rw [HK.out, drop_end (by omega)]; rfl)
      clear HK
      go_wp2_with fail
      go_ret
      exact ⟨by rw [HN.out]; rfl, rfl⟩
end Go.Proofs.Ytdmnoeooljofcaa
