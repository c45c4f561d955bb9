/- The document's words for a name and a variable. -/
import Derived.Test.YtfnobccminhjpaaGreatSp
import Derived.Test.YtfnobccminhjpaaGreatRefN9
import Derived.Test.YtfnobccminhjpaaGreatOpenZ9
namespace Go.Proofs.YtfnobccminhjpaaGreat
open Go.RowKit Go.Shelf

set_option maxHeartbeats 800000 in
theorem rsmall_any (c : UInt8) (w : World) : Calls Tryz.prog 183 #[.int .u8 c.toNat] w fun e w' => e = .returned (.bool (smallB c)) ∧ w' = w := by
  unfold smallB
  go_enter Tryz.func183, Tryz.ntmps183
  go_wp2
  all_goals go_ret
  all_goals refine ⟨ret_bool ?_, rfl⟩
  all_goals simp
  all_goals omega

set_option maxHeartbeats 800000 in
theorem rcapital_any (c : UInt8) (w : World) : Calls Tryz.prog 162 #[.int .u8 c.toNat] w fun e w' => e = .returned (.bool (capB c)) ∧ w' = w := by
  unfold capB
  go_enter Tryz.func162, Tryz.ntmps162
  go_wp2
  all_goals go_ret
  all_goals refine ⟨ret_bool ?_, rfl⟩
  all_goals simp
  all_goals omega

set_option maxHeartbeats 800000 in
theorem rest_any (c : UInt8) (w : World) : Calls Tryz.prog 163 #[.int .u8 c.toNat] w fun e w' => e = .returned (.bool (nameB c)) ∧ w' = w := by
  have C := hide (rsmall_any c w)
  unfold nameB
  cases hb : smallB c with
  | true =>
    rw [hb] at C
    clear hb
    go_enter Tryz.func163, Tryz.ntmps163
    go_wp2_with (first | (go_at_call 183; refine C.out.mono ?_; rintro _ w1 ⟨rfl, hw1⟩; subst w1))
    go_ret
    exact ⟨ret_bool (by simp), rfl⟩
  | false =>
    rw [hb] at C
    clear hb
    go_enter Tryz.func163, Tryz.ntmps163
    go_wp2_with (first | (go_at_call 183; refine C.out.mono ?_; rintro _ w1 ⟨rfl, hw1⟩; subst w1))
    all_goals go_ret
    all_goals refine ⟨ret_bool ?_, rfl⟩
    all_goals rw [Bool.eq_iff_iff]
    all_goals simp
    all_goals omega

theorem all_first {g : UInt8 → Bool} {s : ByteArray} (h : 0 < s.size) (hg : g s[0] = true) : (s.data.toList.take 1).all g = true := all_step (k := 0) h (by simp) hg
theorem ne_empty {s : ByteArray} (h : 1 ≤ s.size) : (s.toList == []) = false := by
  rw [beq_eq_false_iff_ne]
  intro e
  rw [ByteArray.toList_eq] at e
  have e2 := congrArg List.length e
  have h2 : s.data.toList.length = s.size := by simp
  rw [h2, List.length_nil] at e2
  omega
theorem small_name {c : UInt8} (h : smallB c = true) : nameB c = true := by unfold nameB; rw [h]; rfl
theorem cap_var {c : UInt8} (h : capB c = true) : varB c = true := by unfold varB; rw [h]; simp

set_option maxRecDepth 100000 in
set_option maxHeartbeats 1600000 in
theorem risName_any (s : ByteArray) (w : World) : Calls Tryz.prog 168 #[.string s] w fun e w' => e = .returned (.bool (speltB smallB nameB s.data.toList)) ∧ w' = w := by
  have hl : s.data.toList.length = s.size := by simp
  by_cases h1 : 1 ≤ s.size
  rotate_left 1
  · have hr : Hid (speltB smallB nameB s.data.toList = false) := by unfold Hid speltB; rw [hl, decide_eq_false h1]; rfl
    obtain rfl : s = ⟨#[]⟩ := by
      apply ByteArray.ext
      apply Array.eq_empty_of_size_eq_zero
      have : s.data.size = s.size := rfl
      omega
    clear hl
    go_enter Tryz.func168, Tryz.ntmps168
    go_wp2_with fail
    go_ret
    exact ⟨ret_bool hr.out.symm, rfl⟩
  have hne := ne_empty h1
  by_cases h2 : s.size ≤ 32
  rotate_left 1
  · have hr : Hid (speltB smallB nameB s.data.toList = false) := by unfold Hid speltB; rw [hl, decide_eq_false h2]; simp
    clear hl
    go_enter Tryz.func168, Tryz.ntmps168
    go_wp2_with fail
    go_ret
    exact ⟨ret_bool hr.out.symm, rfl⟩
  have C0 := hide (rsmall_any s[0] w)
  cases hb : smallB s[0] with
  | false =>
    have hr : Hid (speltB smallB nameB s.data.toList = false) := by unfold Hid speltB; rw [getD_at s 0 (by omega), hb]; simp
    rw [hb] at C0
    clear hl hb
    go_enter Tryz.func168, Tryz.ntmps168
    go_wp2_with (first | (refine C0.out.mono ?_; rintro _ w1 ⟨rfl, hw1⟩; subst w1))
    go_ret
    exact ⟨ret_bool hr.out.symm, rfl⟩
  | true =>
    have hr : Hid (speltB smallB nameB s.data.toList = s.data.toList.all nameB) := by unfold Hid speltB; rw [getD_at s 0 (by omega), hb, hl, decide_eq_true h1, decide_eq_true h2]; simp
    have HB := hide (small_name hb)
    rw [hb] at C0
    clear hl hb
    go_enter Tryz.func168, Tryz.ntmps168
    go_wp2_with (first | (refine C0.out.mono ?_; rintro _ w1 ⟨rfl, hw1⟩; subst w1))
    go_loop [3] (fun x => ∃ k : Nat, 1 ≤ k ∧ k ≤ s.size ∧ x = .int .i64 k ∧ Hid ((s.data.toList.take k).all nameB = true)) (fun x => s.size - (intOf x).toNat)
    case atStart => exact ⟨1, by omega, by omega, rfl, hide (all_first (by omega) HB.out)⟩
    case round =>
      obtain ⟨k, hk1, hk, rfl, HK⟩ := hrel
      by_cases hlt : k < s.size
      · have C1 := hide (rest_any s[k] w)
        cases hb : nameB s[k] with
        | true =>
          have HN := hide (all_step hlt HK.out hb)
          rw [hb] at C1
          clear hb
          go_wp2_with (first | (refine C1.out.mono ?_; rintro _ w1 ⟨rfl, hw1⟩; subst w1))
          go_round
          case rel => exact ⟨k + 1, by omega, by omega, by go_num, HN⟩
          case measure => simp [intOf]; omega
        | false =>
          have HN := hide (all_no hlt hb)
          rw [hb] at C1
          clear hb
          go_wp2_with (first | (refine C1.out.mono ?_; rintro _ w1 ⟨rfl, hw1⟩; subst w1))
          go_ret
          exact ⟨ret_bool ((hr.out.trans HN.out).symm), rfl⟩
      · have HN : Hid (s.data.toList.all nameB = true) := by
          have := HK.out
          rw [List.take_of_length_le (by simp; have : s.data.size = s.size := rfl; omega)] at this
          exact this
        go_wp2_with fail
        go_ret
        exact ⟨ret_bool ((hr.out.trans HN.out).symm), rfl⟩

set_option maxRecDepth 100000 in
set_option maxHeartbeats 1600000 in
theorem risVar_any (s : ByteArray) (w : World) : Calls Tryz.prog 118 #[.string s] w fun e w' => e = .returned (.bool (speltB capB varB s.data.toList)) ∧ w' = w := by
  have hl : s.data.toList.length = s.size := by simp
  by_cases h1 : 1 ≤ s.size
  rotate_left 1
  · have hr : Hid (speltB capB varB s.data.toList = false) := by unfold Hid speltB; rw [hl, decide_eq_false h1]; rfl
    obtain rfl : s = ⟨#[]⟩ := by
      apply ByteArray.ext
      apply Array.eq_empty_of_size_eq_zero
      have : s.data.size = s.size := rfl
      omega
    clear hl
    go_enter Tryz.func118, Tryz.ntmps118
    go_wp2_with fail
    go_ret
    exact ⟨ret_bool hr.out.symm, rfl⟩
  have hne := ne_empty h1
  by_cases h2 : s.size ≤ 32
  rotate_left 1
  · have hr : Hid (speltB capB varB s.data.toList = false) := by unfold Hid speltB; rw [hl, decide_eq_false h2]; simp
    clear hl
    go_enter Tryz.func118, Tryz.ntmps118
    go_wp2_with fail
    go_ret
    exact ⟨ret_bool hr.out.symm, rfl⟩
  have C0 := hide (rcapital_any s[0] w)
  cases hb : capB s[0] with
  | false =>
    have hr : Hid (speltB capB varB s.data.toList = false) := by unfold Hid speltB; rw [getD_at s 0 (by omega), hb]; simp
    rw [hb] at C0
    clear hl hb
    go_enter Tryz.func118, Tryz.ntmps118
    go_wp2_with (first | (refine C0.out.mono ?_; rintro _ w1 ⟨rfl, hw1⟩; subst w1))
    go_ret
    exact ⟨ret_bool hr.out.symm, rfl⟩
  | true =>
    have hr : Hid (speltB capB varB s.data.toList = s.data.toList.all varB) := by unfold Hid speltB; rw [getD_at s 0 (by omega), hb, hl, decide_eq_true h1, decide_eq_true h2]; simp
    have HB := hide (cap_var hb)
    rw [hb] at C0
    clear hl hb
    go_enter Tryz.func118, Tryz.ntmps118
    go_wp2_with (first | (refine C0.out.mono ?_; rintro _ w1 ⟨rfl, hw1⟩; subst w1))
    go_loop [3] (fun x => ∃ k : Nat, 1 ≤ k ∧ k ≤ s.size ∧ x = .int .i64 k ∧ Hid ((s.data.toList.take k).all varB = true)) (fun x => s.size - (intOf x).toNat)
    case atStart => exact ⟨1, by omega, by omega, rfl, hide (all_first (by omega) HB.out)⟩
    case round =>
      obtain ⟨k, hk1, hk, rfl, HK⟩ := hrel
      by_cases hlt : k < s.size
      · have C1 := hide (rest_any s[k] w)
        have C2 := hide (rcapital_any s[k] w)
        cases hb : varB s[k] with
        | true =>
          have HN := hide (all_step hlt HK.out hb)
          cases hn : nameB s[k] with
          | true =>
            rw [hn] at C1
            clear hb hn
            go_wp2_with (first | (go_at_call 163; refine C1.out.mono ?_; rintro _ w1 ⟨rfl, hw1⟩; subst w1) | (go_at_call 162; refine C2.out.mono ?_; rintro _ w1 ⟨rfl, hw1⟩; subst w1))
            go_round
            case rel => exact ⟨k + 1, by omega, by omega, by go_num, HN⟩
            case measure => simp [intOf]; omega
          | false =>
            have hc : capB s[k] = true := by unfold varB at hb; rw [hn] at hb; simpa using hb
            rw [hn] at C1
            rw [hc] at C2
            clear hb hn hc
            go_wp2_with (first | (go_at_call 163; refine C1.out.mono ?_; rintro _ w1 ⟨rfl, hw1⟩; subst w1) | (go_at_call 162; refine C2.out.mono ?_; rintro _ w1 ⟨rfl, hw1⟩; subst w1))
            go_round
            case rel => exact ⟨k + 1, by omega, by omega, by go_num, HN⟩
            case measure => simp [intOf]; omega
        | false =>
          have HN := hide (all_no hlt hb)
          have hn : nameB s[k] = false := by unfold varB at hb; simp at hb; exact hb.1
          have hc : capB s[k] = false := by unfold varB at hb; simp at hb; exact hb.2
          rw [hn] at C1
          rw [hc] at C2
          clear hb hn hc
          go_wp2_with (first | (go_at_call 163; refine C1.out.mono ?_; rintro _ w1 ⟨rfl, hw1⟩; subst w1) | (go_at_call 162; refine C2.out.mono ?_; rintro _ w1 ⟨rfl, hw1⟩; subst w1))
          go_ret
          exact ⟨ret_bool ((hr.out.trans HN.out).symm), rfl⟩
      · have HN : Hid (s.data.toList.all varB = true) := by
          have := HK.out
          rw [List.take_of_length_le (by simp; have : s.data.size = s.size := rfl; omega)] at this
          exact this
        go_wp2_with fail
        go_ret
        exact ⟨ret_bool ((hr.out.trans HN.out).symm), rfl⟩

end Go.Proofs.YtfnobccminhjpaaGreat
/- The page's small questions: a name new in its list, a value among values, two lists of names. -/
namespace Go.Proofs.YtfnobccminhjpaaGreat
open Go.RowKit Go.Shelf Go.Maps Go.WideMaps

/-- An error's number; 0: none. -/
def erc {α : Type} : Er α → Int
  | .ok _ => 0
  | .error c => c
theorem erc_ok {α : Type} {o : Er α} {a : α} (h : o = .ok a) : erc o = 0 := by rw [h]; rfl
theorem erc_no {α : Type} {o : Er α} {c : Int} (h : o = .error c) : erc o = c := by rw [h]; rfl
theorem erc_go {α β : Type} {x : Er α} {f : α → Er β} {a : α} (hx : x = .ok a) : erc (x >>= f) = erc (f a) := by rw [hx]; rfl
theorem erc_stop {α β : Type} {x : Er α} {f : α → Er β} {c : Int} (hx : x = .error c) : erc (x >>= f) = c := by rw [hx]; rfl
theorem erc_end {α : Type} {x : Er α} : erc (x >>= fun _ => (.ok () : Er Unit)) = erc x := by cases x <;> rfl
theorem erc_t {β : Type} {b : Bool} {c : Int} {f : Unit → Er β} (h : b = true) : erc (wantM b c >>= f) = erc (f ()) := erc_go (want_t h)
theorem erc_f {β : Type} {b : Bool} {c : Int} {f : Unit → Er β} (h : b = false) : erc (wantM b c >>= f) = c := erc_stop (want_f h)
theorem idx_le {l : List Bytes} {s : Bytes} : ∀ {n : Nat}, n < l.length → l.getD n [] = s → l.idxOf s ≤ n := by
  induction l with
  | nil => intro n h; simp at h
  | cons x r ih =>
    intro n h he
    rw [List.idxOf_cons]
    by_cases hx : x = s
    · simp [hx]
    · have hb : (x == s) = false := beq_eq_false_iff_ne.2 hx
      rw [hb]
      cases n with
      | zero => simp at he; exact absurd he hx
      | succ n =>
        have h1 : n < r.length := by simpa using h
        have h2 : r.getD n [] = s := by simpa using he
        have := ih h1 h2
        simp
        omega
theorem pos_le {l : List Bytes} {s : Bytes} {n : Nat} (h : n < l.length) (he : l.getD n [] = s) : posB l s ≤ n := by
  unfold posB
  rw [if_pos (take_hit h he)]
  exact idx_le h he

set_option maxHeartbeats 800000 in
theorem rIsName_any (s : Bytes) (w : World) : Calls Tryz.prog 130 #[str s] w fun e w' => e = .returned (.bool (isNameB s)) ∧ w' = w := by
  have C := hide (risName_any ⟨s.toArray⟩ w)
  unfold str
  go_enter Tryz.func130, Tryz.ntmps130
  go_wp2_with fail
  refine C.out.mono ?_
  rintro _ w1 ⟨rfl, hw⟩
  subst w1
  go_wp2_with fail
  go_ret
  exact ⟨rfl, rfl⟩
set_option maxHeartbeats 800000 in
theorem rIsVar_any (s : Bytes) (w : World) : Calls Tryz.prog 58 #[str s] w fun e w' => e = .returned (.bool (isVarB s)) ∧ w' = w := by
  have C := hide (risVar_any ⟨s.toArray⟩ w)
  unfold str
  go_enter Tryz.func58, Tryz.ntmps58
  go_wp2_with fail
  refine C.out.mono ?_
  rintro _ w1 ⟨rfl, hw⟩
  subst w1
  go_wp2_with fail
  go_ret
  exact ⟨rfl, rfl⟩
set_option maxHeartbeats 800000 in
theorem rMay_any (v : Int) (w : World) : Calls Tryz.prog 153 #[.int .i64 v] w fun e w' => e = .returned (.bool (mayB v)) ∧ w' = w := by
  unfold mayB
  by_cases h1 : -1000000000000000 ≤ v
  · by_cases h2 : v ≤ 1000000000000000
    · rw [decide_eq_true h1, decide_eq_true h2]
      go_enter Tryz.func153, Tryz.ntmps153
      go_wp2_with fail
      go_ret
      exact ⟨rfl, rfl⟩
    · rw [decide_eq_true h1, decide_eq_false h2]
      go_enter Tryz.func153, Tryz.ntmps153
      go_wp2_with fail
      go_ret
      exact ⟨rfl, rfl⟩
  · rw [decide_eq_false h1]
    go_enter Tryz.func153, Tryz.ntmps153
    go_wp2_with fail
    go_ret
    exact ⟨rfl, rfl⟩
set_option maxHeartbeats 800000 in
theorem rday_any (v : Int) (w : World) : Calls Tryz.prog 116 #[.int .i64 v] w fun e w' => e = .returned (.bool (dayB v)) ∧ w' = w := by
  unfold dayB
  by_cases h1 : 1 ≤ v
  · by_cases h2 : v ≤ 3652059
    · rw [decide_eq_true h1, decide_eq_true h2]
      go_enter Tryz.func116, Tryz.ntmps116
      go_wp2_with fail
      go_ret
      exact ⟨rfl, rfl⟩
    · rw [decide_eq_true h1, decide_eq_false h2]
      go_enter Tryz.func116, Tryz.ntmps116
      go_wp2_with fail
      go_ret
      exact ⟨rfl, rfl⟩
  · rw [decide_eq_false h1]
    go_enter Tryz.func116, Tryz.ntmps116
    go_wp2_with fail
    go_ret
    exact ⟨rfl, rfl⟩

set_option maxRecDepth 100000 in
set_option maxHeartbeats 1600000 in
theorem rnamed_any {w : World} {a : Option Addr} {l : List Bytes} {c n : Nat} (h : At1 w a (strs l)) (hl : l.length ≤ 140737488351232) (hn : n < l.length) :
    Calls Tryz.prog 106 #[.slice a l.length c, .int .i64 n] w fun e w' => e = .returned (.int .i64 (erc (calledM l (l.getD n []) n))) ∧ w' = w := by
  obtain ⟨g, o, rfl, kc⟩ := h.str hn
  have hp := pos_le hn (rfl : l.getD n [] = _)
  have hm : l.getD n [] ∈ l := take_hit hn rfl
  have CF := hide (rfind_any (c := c) h hl (l.getD n []))
  rw [findZ_in hm] at CF
  have CN := hide (rIsName_any (l.getD n []) w)
  unfold calledM
  generalize posB l (l.getD n []) = q at *
  generalize l.getD n [] = s at *
  unfold str at *
  clear h hm
  cases hb : isNameB s with
  | false =>
    rw [erc_f rfl]
    rw [hb] at CN
    go_enter Tryz.func106, Tryz.ntmps106
    go_wp2_with (first | (go_at_call 130; refine CN.out.mono ?_; rintro _ w1 ⟨rfl, hw⟩; subst w1))
    go_ret
    exact ⟨rfl, rfl⟩
  | true =>
    rw [erc_t rfl]
    rw [hb] at CN
    by_cases hq : (q : Int) = (n : Int)
    · rw [want_t (decide_eq_true hq)]
      have hd : ¬ ((q : Int) < (n : Int)) := by omega
      clear hq
      go_enter Tryz.func106, Tryz.ntmps106
      go_wp2_with (first | (go_at_call 130; refine CN.out.mono ?_; rintro _ w1 ⟨rfl, hw⟩; subst w1) | (go_at_call 59; refine CF.out.mono ?_; rintro _ w1 ⟨rfl, hw⟩; subst w1))
      go_ret
      exact ⟨rfl, rfl⟩
    · rw [want_f (decide_eq_false hq)]
      have hd : (q : Int) < (n : Int) := by omega
      clear hq
      go_enter Tryz.func106, Tryz.ntmps106
      go_wp2_with (first | (go_at_call 130; refine CN.out.mono ?_; rintro _ w1 ⟨rfl, hw⟩; subst w1) | (go_at_call 59; refine CF.out.mono ?_; rintro _ w1 ⟨rfl, hw⟩; subst w1))
      go_ret
      exact ⟨rfl, rfl⟩

set_option maxRecDepth 100000 in
set_option maxHeartbeats 1600000 in
theorem rhas_any {w : World} {a : Option Addr} {l : List Int} {c : Nat} (h : At1 w a (ints l)) (hl : l.length ≤ 140737488351232) (v : Int) :
    Calls Tryz.prog 132 #[.slice a l.length c, .int .i64 v] w fun e w' => e = .returned (.bool (decide (v ∈ l))) ∧ w' = w := by
  have HA := hide h
  clear h
  go_enter Tryz.func132, Tryz.ntmps132
  go_wp2_with fail
  go_loop [5] (fun x => ∃ k : Nat, k ≤ l.length ∧ x = .int .i64 k ∧ Hid (v ∉ l.take k)) (fun x => l.length - (intOf x).toNat)
  case atStart => exact ⟨0, by omega, rfl, hide (by simp)⟩
  case round =>
    obtain ⟨k, hk, rfl, HK⟩ := hrel
    by_cases hlt : k < l.length
    · obtain ⟨g, o, rfl, kc⟩ := HA.out.int hlt
      by_cases he : l.getD k 0 = v
      · have HP := hide (take_hit hlt he)
        rw [he] at kc
        clear he HK
        go_wp2_with fail
        go_ret
        exact ⟨by rw [decide_eq_true HP.out]; rfl, rfl⟩
      · have HP := hide (take_step hlt HK.out he)
        generalize l.getD k 0 = x at kc he
        have hbb : (x == v) = false := beq_eq_false_iff_ne.2 he
        clear he HK
        go_wp2_with fail
        go_round
        case rel => exact ⟨k + 1, by omega, by go_num, HP⟩
        case measure => simp [intOf]; omega
    · have HP : Hid (v ∉ l) := by
        have := HK.out
        rw [List.take_of_length_le (by omega)] at this
        exact this
      go_wp2_with fail
      go_ret
      exact ⟨by rw [decide_eq_false HP.out]; rfl, rfl⟩

theorem take_eq_step {l m : List Bytes} {k : Nat} (h1 : k < l.length) (h2 : k < m.length) (he : l.take k = m.take k) (hx : l.getD k [] = m.getD k []) : l.take (k + 1) = m.take (k + 1) := by
  rw [List.take_add_one, List.take_add_one, he, List.getElem?_eq_getElem h1, List.getElem?_eq_getElem h2]
  rw [List.getD_eq_getElem?_getD, List.getD_eq_getElem?_getD, List.getElem?_eq_getElem h1, List.getElem?_eq_getElem h2] at hx
  simp at hx
  rw [hx]
theorem getD_ne {l m : List Bytes} {k : Nat} (hx : ¬ l.getD k [] = m.getD k []) : l ≠ m := fun e => hx (by rw [e])
set_option maxRecDepth 100000 in
set_option maxHeartbeats 3200000 in
theorem rsameNames_any {w : World} {a b : Option Addr} {l m : List Bytes} {c d : Nat} (ha : At1 w a (strs l)) (hb : At1 w b (strs m)) (hl : l.length ≤ 140737488351232) :
    Calls Tryz.prog 154 #[.slice a l.length c, .slice b m.length d] w fun e w' => e = .returned (.bool (decide (l = m))) ∧ ∃ m, w' = w.drewN m := by
  have HA := hide ha
  have HB := hide hb
  clear ha hb
  by_cases hlm : l.length = m.length
  · have HLM := hide hlm
    have hz : (m.length : Int) = (l.length : Int) := by omega
    rw [show (Value.slice b m.length d) = .slice b l.length d by rw [hlm]]
    clear hlm hz
    go_enter Tryz.func154, Tryz.ntmps154
    go_wp2_with fail
    go_loopw [5] (fun x wr => ∃ k q : Nat, k ≤ l.length ∧ x = .int .i64 k ∧ wr = w.drewN q ∧ Hid (l.take k = m.take k)) (fun x _ => l.length - (intOf x).toNat)
    case atStart => exact ⟨0, 0, by omega, rfl, rfl, hide (by simp)⟩
    case round =>
      obtain ⟨k, q, hk, rfl, rfl, HK⟩ := hrel
      by_cases hlt : k < l.length
      · obtain ⟨g, o, rfl, kc⟩ := HA.out.str hlt
        obtain ⟨g2, o2, rfl, kd⟩ := HB.out.str (i := k) (by rw [← HLM.out]; exact hlt)
        by_cases he : l.getD k [] = m.getD k []
        · have HP := hide (take_eq_step hlt (by rw [← HLM.out]; exact hlt) HK.out he)
          rw [he] at kc
          generalize m.getD k [] = x at kc kd
          clear he HK
          go_wp2_with fail
          go_quiet (fail)
          go_wp2_with fail
          go_roundw
          case rel => exact ⟨k + 1, _, by omega, by go_num, rfl, HP⟩
          case measure => simp [intOf]; omega
        · have HP := hide (getD_ne he)
          generalize l.getD k [] = x at kc he
          generalize m.getD k [] = y at kd he
          have hbb : (x == y) = false := beq_eq_false_iff_ne.2 he
          clear he HK
          go_wp2_with fail
          go_quiet (fail)
          go_wp2_with fail
          go_ret
          exact ⟨by rw [decide_eq_false HP.out]; rfl, _, World.drewN_drewN _ _ _⟩
      · have HP : Hid (l = m) := by
          have := HK.out
          rw [List.take_of_length_le (by omega), List.take_of_length_le (by have := HLM.out; omega)] at this
          exact this
        go_wp2_with fail
        go_ret
        exact ⟨by rw [decide_eq_true HP.out]; rfl, q, rfl⟩
  · have hne : l ≠ m := fun e => hlm (by rw [e])
    rw [decide_eq_false hne]
    have hbb : ((l.length : Int) == (m.length : Int)) = false := beq_eq_false_iff_ne.2 (by omega)
    clear hne
    go_enter Tryz.func154, Tryz.ntmps154
    go_wp2_with fail
    go_ret
    exact ⟨rfl, 0, rfl⟩
end Go.Proofs.YtfnobccminhjpaaGreat
/- A right statute with less of it. -/
namespace Go.Proofs.YtfnobccminhjpaaGreat
theorem AllOk.split {l m : List (Er Unit)} : AllOk (l ++ m) ↔ AllOk l ∧ AllOk m := ⟨fun h => ⟨fun x hx => h x (List.mem_append.2 (.inl hx)), fun x hx => h x (List.mem_append.2 (.inr hx))⟩, fun h => h.1.app h.2⟩
theorem items_split {S : StatM} : AllOk S.items ↔ ((((((AllOk (S.kinds.mapIdx (kindM S.kinds)) ∧ AllOk (S.members.mapIdx (memberM S.ctx))) ∧ AllOk (S.preds.mapIdx (predM S.ctx))) ∧ AllOk (S.classes.mapIdx (clsM S))) ∧ AllOk (S.sources.mapIdx (sourceM S.srcs))) ∧ AllOk (S.rules.mapIdx (ruleM S.ctx S.srcs S.heads))) ∧ AllOk (S.excepts.mapIdx (exceptM S.heads S.keys))) ∧ AllOk (S.totals.mapIdx (totalM S.ctx S.sums)) := by
  unfold StatM.items
  rw [AllOk.split, AllOk.split, AllOk.split, AllOk.split, AllOk.split, AllOk.split, AllOk.split]
theorem items_len (S : StatM) : S.items.length = S.kinds.length + S.members.length + S.preds.length + S.classes.length + S.sources.length + S.rules.length + S.excepts.length + S.totals.length := by
  unfold StatM.items
  simp only [List.length_append, List.length_mapIdx]
theorem fits_split {S : StatM} : S.fitsB = true ↔ (((((((S.kinds.length ≤ 16 ∧ S.members.length ≤ 64) ∧ S.preds.length ≤ 256) ∧ S.classes.length ≤ 64) ∧ S.sources.length ≤ 64) ∧ S.rules.length ≤ 512) ∧ S.excepts.length ≤ 512) ∧ S.totals.length ≤ 64) := by
  unfold StatM.fitsB
  simp only [Bool.and_eq_true, decide_eq_true_eq]
theorem less_totals {S : StatM} (h : (checkM S).1 = 0) : (checkM { S with totals := [] }).1 = 0 ∧ (checkM { S with totals := [] }).2 ≤ (checkM S).2 := by
  obtain ⟨hf, ha⟩ := check_ok.1 h
  have hf' := fits_split.1 hf
  have ha' := items_split.1 ha
  have h2 : (checkM { S with totals := [] }).1 = 0 := check_ok.2 ⟨fits_split.2 ⟨hf'.1, by simp⟩, items_split.2 ⟨ha'.1, AllOk.nil⟩⟩
  refine ⟨h2, ?_⟩
  rw [check_len h, check_len h2, items_len, items_len]
  simp only [List.length_nil]
  omega
theorem less_excepts {S : StatM} (h : (checkM S).1 = 0) : (checkM { S with excepts := [] }).1 = 0 ∧ (checkM { S with excepts := [] }).2 ≤ (checkM S).2 := by
  obtain ⟨hf, ha⟩ := check_ok.1 h
  have hf' := fits_split.1 hf
  have ha' := items_split.1 ha
  have h2 : (checkM { S with excepts := [] }).1 = 0 := check_ok.2 ⟨fits_split.2 ⟨⟨hf'.1.1, by simp⟩, hf'.2⟩, items_split.2 ⟨⟨ha'.1.1, AllOk.nil⟩, ha'.2⟩⟩
  refine ⟨h2, ?_⟩
  rw [check_len h, check_len h2, items_len, items_len]
  simp only [List.length_nil]
  omega
theorem AllOk.at {α : Type} {f : Nat → α → Er Unit} {l : List α} : AllOk (l.mapIdx f) ↔ ∀ i x, l[i]? = some x → f i x = .ok () := by
  constructor
  · intro h i x hx
    exact h _ (List.mem_iff_getElem?.2 ⟨i, by rw [List.getElem?_mapIdx, hx]; rfl⟩)
  · intro h y hy
    obtain ⟨i, hi⟩ := List.mem_iff_getElem?.1 hy
    rw [List.getElem?_mapIdx] at hi
    obtain ⟨x, hx, rfl⟩ := Option.map_eq_some_iff.1 hi
    exact h i x hx
theorem called_take {l : List Bytes} {s : Bytes} {n k : Nat} (h : calledM l s n = .ok ()) (hx : l[n]? = some s) (hk : n < k) : calledM (l.take k) s n = .ok () := by
  unfold calledM at h ⊢
  obtain ⟨_, h1, h2⟩ := ex_ok h
  rw [h1]
  show wantM _ 6 = .ok ()
  have hp : ((posB l s : Int) = (n : Int)) := by
    apply Classical.byContradiction
    intro hn
    rw [decide_eq_false hn] at h2
    cases h2
  have hm : s ∈ l.take k := List.mem_iff_getElem?.2 ⟨n, by rw [List.getElem?_take, if_pos hk]; exact hx⟩
  have hm2 : s ∈ l := List.mem_of_mem_take hm
  have e : posB (l.take k) s = posB l s := by
    unfold posB
    rw [if_pos hm, if_pos hm2]
    conv => rhs; rw [← List.take_append_drop k l]
    rw [List.idxOf_append, if_pos hm]
  rw [e, decide_eq_true hp]
  rfl
theorem less_rules {S : StatM} (h : (checkM S).1 = 0) (he : S.excepts = []) (k : Nat) : (checkM { S with rules := S.rules.take k }).1 = 0 ∧ (checkM { S with rules := S.rules.take k }).2 ≤ (checkM S).2 := by
  obtain ⟨hf, ha⟩ := check_ok.1 h
  have hf' := fits_split.1 hf
  have ha' := items_split.1 ha
  have h2 : (checkM { S with rules := S.rules.take k }).1 = 0 := by
    refine check_ok.2 ⟨fits_split.2 ⟨⟨⟨hf'.1.1.1, by simp only [List.length_take]; omega⟩, hf'.1.2⟩, hf'.2⟩, items_split.2 ⟨⟨⟨ha'.1.1.1, ?_⟩, ?_⟩, ha'.2⟩⟩
    · refine AllOk.at.2 fun i x hx => ?_
      simp only at hx
      rw [List.getElem?_take] at hx
      by_cases hik : i < k
      · rw [if_pos hik] at hx
        have h0 := AllOk.at.1 ha'.1.1.2 i x hx
        unfold ruleM at h0 ⊢
        obtain ⟨_, h1, h0⟩ := ex_ok h0
        have h3 := called_take (k := k) h1 (by unfold StatM.heads; rw [List.getElem?_map, hx]; rfl) hik
        have e : StatM.heads { S with rules := S.rules.take k } = (S.heads).take k := by unfold StatM.heads; simp only [List.map_take]
        rw [e, h3]
        exact h0
      · rw [if_neg hik] at hx; cases hx
    · simp only [he]; exact AllOk.nil
  refine ⟨h2, ?_⟩
  rw [check_len h, check_len h2, items_len, items_len]
  simp only [List.length_take]
  omega
theorem less_classes {S : StatM} (h : (checkM S).1 = 0) (k : Nat) : (checkM { S with classes := S.classes.take k }).1 = 0 ∧ (checkM { S with classes := S.classes.take k }).2 ≤ (checkM S).2 := by
  obtain ⟨hf, ha⟩ := check_ok.1 h
  have hf' := fits_split.1 hf
  have ha' := items_split.1 ha
  have h2 : (checkM { S with classes := S.classes.take k }).1 = 0 := by
    refine check_ok.2 ⟨fits_split.2 ⟨⟨⟨⟨⟨hf'.1.1.1.1.1, by simp only [List.length_take]; omega⟩, hf'.1.1.1.2⟩, hf'.1.1.2⟩, hf'.1.2⟩, hf'.2⟩, items_split.2 ⟨⟨⟨⟨⟨ha'.1.1.1.1.1, ?_⟩, ha'.1.1.1.2⟩, ha'.1.1.2⟩, ha'.1.2⟩, ha'.2⟩⟩
    refine AllOk.at.2 fun i x hx => ?_
    simp only at hx
    rw [List.getElem?_take] at hx
    by_cases hik : i < k
    · rw [if_pos hik] at hx
      have h0 := AllOk.at.1 ha'.1.1.1.1.2 i x hx
      simp only [clsM] at h0 ⊢
      rw [List.take_take, Nat.min_eq_left (Nat.le_of_lt hik)]
      exact h0
    · rw [if_neg hik] at hx; cases hx
  refine ⟨h2, ?_⟩
  rw [check_len h, check_len h2, items_len, items_len]
  simp only [List.length_take]
  omega
end Go.Proofs.YtfnobccminhjpaaGreat
/- Vars: what is asked behind Check. -/
namespace Go.Proofs.YtfnobccminhjpaaGreat
open Go.RowKit Go.Shelf Go.Maps Go.WideMaps
theorem ruleM_sixteen {C : Ctx} {a b : List Bytes} {n : Nat} {t : RuleM} (h : ruleM C a b n t = .ok ()) : t.body.length ≤ 16 := by
  unfold ruleM at h
  obtain ⟨_, _, h⟩ := ex_ok h
  obtain ⟨_, _, h⟩ := ex_ok h
  obtain ⟨_, _, h⟩ := ex_ok h
  obtain ⟨_, _, h⟩ := ex_ok h
  obtain ⟨_, _, h⟩ := ex_ok h
  obtain ⟨_, h1, _⟩ := ex_ok h
  apply Classical.byContradiction
  intro hn
  rw [decide_eq_false (show ¬ ((t.body.length : Int) ≤ 16) by omega)] at h1
  cases h1
section
variable {R : Nat} {S : StatM} {st : St9} {mp : Mp8} {it : Nat} {seen : List Bytes} {w w' : World}
/-- How the asking of one rule's variables ends. -/
def Ev (vb : Nat) (w : World) (it : Int) (o : Er Scope) (e : Ending) (w' : World) : Prop := Fr (fun k => k = vb) w w' ∧ match o with
  | .ok v' => e = .returned (.tuple #[]) ∧ ∃ Z V M nv kv, w'.heap[vb]? = some (.cells #[ptr V] 90 (0, 0)) ∧ Scp Z V M nv kv v' w' ∧ (∀ k, Z k → w.heap.size ≤ k)
  | .error c => e = .panicked [fl c it]
def varsM (S : StatM) (k : Int) : Er Scope := wantM (decide (0 ≤ k) && decide (k < (S.rules.length : Int))) 1 >>= fun _ => match S.rules[k.toNat]? with
  | some t => partsM S.ctx t
  | none => .error 1
set_option maxRecDepth 100000 in
set_option maxHeartbeats 6400000 in
theorem vars1_any (h : Res R S st mp it seen w) (hp4 : ∀ p ∈ S.preds, p.kinds.length ≤ 4) (h16 : ∀ t ∈ S.rules, t.body.length ≤ 16) (k : Int) {kb sb vb : Nat} {y : Value} {a : Option Addr} {c : Nat} (hk : w.cell? ⟨kb, 0, none⟩ = some (.int .i64 k)) (hs : w.cell? ⟨sb, 6, none⟩ = some (.slice a S.rules.length c)) (hl : RR R 11 (cRule R) w S.rules (.slice a S.rules.length c)) (hv : w.heap[vb]? = some (.cells #[y] 90 (0, 0))) :
    Calls Tryz.prog 52 #[ptr R, ptr kb, ptr sb, ptr vb] w fun e w' => Ev vb w it (varsM S k) e w' := by
  have hll : S.rules.length ≤ 140737488351232 := by obtain ⟨_, _, _, _, h⟩ := hl.form; exact h
  have CW := hide (fun b c => want_any h.c9 b c)
  obtain ⟨o, ho⟩ : ∃ o, varsM S k = o := ⟨_, rfl⟩
  rw [ho]
  have HO := hide ho
  unfold varsM at HO
  have H := hide h
  have HP4 := hide hp4
  have HV := hide hv
  have H16 := hide h16
  have HL := hide hl
  clear h hp4 h16 ho hl hv
  by_cases h0 : 0 ≤ k
  case neg =>
    rw [decide_eq_false h0, Bool.false_and] at HO
    have h0' : k < 0 := by omega
    go_enter Tryz.func52, Tryz.ntmps52
    go_wp2_with fail
    refine (CW.out _ _).mono ?_
    intro e w2 hE
    rcases hE.no with ⟨c1, h3, rfl, hw⟩ | ⟨_, h3, rfl, hw⟩
    · subst w2
      refine on_panic rfl ?_
      rw [← ex_no HO.out h3]
      exact ⟨.refl _ _, rfl⟩
    · cases h3
  rw [decide_eq_true h0, Bool.true_and] at HO
  by_cases hlt : k < (S.rules.length : Int)
  case neg =>
    rw [decide_eq_false hlt] at HO
    have hd : decide (k < (S.rules.length : Int)) = false := decide_eq_false hlt
    go_enter Tryz.func52, Tryz.ntmps52
    go_wp2_with fail
    refine (CW.out _ _).mono ?_
    intro e w2 hE
    rcases hE.no with ⟨c1, h3, rfl, hw⟩ | ⟨_, h3, rfl, hw⟩
    · subst w2
      refine on_panic rfl ?_
      rw [← ex_no HO.out (want_f rfl)]
      have : c1 = 1 := want_err1 h3
      subst this
      exact ⟨.refl _ _, rfl⟩
    · exfalso; first | cases h3 | (rw [hd] at h3; cases h3)
  rw [decide_eq_true hlt] at HO
  obtain ⟨n, rfl⟩ : ∃ n : Nat, k = n := ⟨k.toNat, by omega⟩
  have hn : n < S.rules.length := by omega
  obtain ⟨x, hx⟩ : ∃ x, S.rules[n]? = some x := ⟨S.rules[n], List.getElem?_eq_getElem hn⟩
  have HO1 : Hid (partsM S.ctx x = o) := by
    have := ex_go HO.out (want_t rfl)
    rw [Int.toNat_natCast, hx] at this
    exact this
  obtain ⟨gg, oo, ba, bc, ka, kc, hga, hg, e0, e1, e2, e3, e4, e5, e6, e7, e8, e9, e10, hs1, hs2, hs3, hbs, hks⟩ := at_R HL.out hx
  cases hga
  have CP := hide (parts_any H.out HP4.out x hbs hs3 hks (H16.out x (List.mem_iff_getElem?.2 ⟨n, hx⟩)))
  unfold ruleV at CP
  unfold str at *
  clear hx hbs hks HO
  go_enter Tryz.func52, Tryz.ntmps52
  go_wp2_with fail
  refine (CW.out _ _).mono ?_
  intro e w2 hE
  rcases hE.no with ⟨c1, h3, rfl, hw⟩ | ⟨_, h3, rfl, hw⟩
  · exfalso
    first | cases h3 | (rw [decide_eq_true hlt] at h3; cases h3)
  subst w2
  clear hE h3
  go_wp2_with fail
  refine CP.out.mono ?_
  intro e w2 hE
  rcases hE.no with ⟨c1, h3, rfl, hf⟩ | ⟨v2, Z, V, M, nv, kv, h3, rfl, hs', hz, hf⟩
  · refine on_panic rfl ?_
    rw [← HO1.out, h3]
    exact ⟨.of_below hf, rfl⟩
  have hvb := (hf.block vb (loc_lt HV.out)).trans HV.out
  have q0 := cell_of_row w2 vb 0 _ _ _ hvb
  simp only [List.getElem?_toArray, List.getElem?_cons_zero] at q0
  have qf := frozen_of_row w2 vb 0 _ _ hvb
  have hlv := loc_lt HV.out
  have HA := hide (loc_set (i := 0) (v := ptr V) hvb)
  have HF := hide ((Fr.of_below (Z := fun k => k = vb) hf).trans (.setCell ⟨vb, 0, none⟩ (ptr V) rfl))
  have HS := hide (hs'.keep (w' := w2.setCell ⟨vb, 0, none⟩ (ptr V)) fun k hk _ => heap_setCell_other w2 ⟨vb, 0, none⟩ k _ (by have := hz k hk; show k ≠ vb; omega))
  have HZ := hide hz
  have HO2 : Hid (.ok v2 = o) := h3.symm.trans HO1.out
  clear hE h3 hs' hz hf CP CW hvb e0 e1 e2 e3 e4 e5 e6 e7 e8 e9 e10 hk hs HL HO1
  go_wp2_with fail
  go_end0
  rw [← HO2.out]
  exact ⟨HF.out, rfl, Z, V, M, nv, kv, HA.out, HS.out, HZ.out⟩
end
end Go.Proofs.YtfnobccminhjpaaGreat
