/- The document's words for a name and a variable. -/
import Derived.Test.YtbdlgglbcaoakaaGreatSp
import Derived.Test.YtbdlgglbcaoakaaGreatRefN9
import Derived.Test.YtbdlgglbcaoakaaGreatCheck8
namespace Go.Proofs.YtbdlgglbcaoakaaGreat
open Go.RowKit Go.Shelf

set_option maxHeartbeats 800000 in
theorem rsmall_any (c : UInt8) (w : World) : Calls Tryz.prog 118 #[.int .u8 c.toNat] w fun e w' => e = .returned (.bool (smallB c)) ∧ w' = w := by
  unfold smallB
  go_enter Tryz.func118, Tryz.ntmps118
  go_wp2
  all_goals go_ret
  all_goals refine ⟨ret_bool ?_, rfl⟩
  all_goals simp
  all_goals omega

set_option maxHeartbeats 800000 in
theorem rcapital_any (c : UInt8) (w : World) : Calls Tryz.prog 136 #[.int .u8 c.toNat] w fun e w' => e = .returned (.bool (capB c)) ∧ w' = w := by
  unfold capB
  go_enter Tryz.func136, Tryz.ntmps136
  go_wp2
  all_goals go_ret
  all_goals refine ⟨ret_bool ?_, rfl⟩
  all_goals simp
  all_goals omega

set_option maxHeartbeats 800000 in
theorem rest_any (c : UInt8) (w : World) : Calls Tryz.prog 119 #[.int .u8 c.toNat] w fun e w' => e = .returned (.bool (nameB c)) ∧ w' = w := by
  have C := hide (rsmall_any c w)
  unfold nameB
  cases hb : smallB c with
  | true =>
    rw [hb] at C
    clear hb
    go_enter Tryz.func119, Tryz.ntmps119
    go_wp2_with (first | (go_at_call 118; refine C.out.mono ?_; rintro _ w1 ⟨rfl, hw1⟩; subst w1))
    go_ret
    exact ⟨ret_bool (by simp), rfl⟩
  | false =>
    rw [hb] at C
    clear hb
    go_enter Tryz.func119, Tryz.ntmps119
    go_wp2_with (first | (go_at_call 118; refine C.out.mono ?_; rintro _ w1 ⟨rfl, hw1⟩; subst w1))
    all_goals go_ret
    all_goals refine ⟨ret_bool ?_, rfl⟩
    all_goals rw [Bool.eq_iff_iff]
    all_goals simp
    all_goals omega

theorem all_first {g : UInt8 → Bool} {s : ByteArray} (h : 0 < s.size) (hg : g s[0] = true) : (s.data.toList.take 1).all g = true := all_step (k := 0) h (by simp) hg
theorem ne_empty {s : ByteArray} (h : 1 ≤ s.size) : (s.toList == []) = false := by
  rw [beq_eq_false_iff_ne]
  intro e
  rw [ByteArray.toList_eq] at e
  have e2 := congrArg List.length e
  have h2 : s.data.toList.length = s.size := by simp
  rw [h2, List.length_nil] at e2
  omega
theorem small_name {c : UInt8} (h : smallB c = true) : nameB c = true := by unfold nameB; rw [h]; rfl
theorem cap_var {c : UInt8} (h : capB c = true) : varB c = true := by unfold varB; rw [h]; simp

set_option maxRecDepth 100000 in
set_option maxHeartbeats 1600000 in
theorem risName_any (s : ByteArray) (w : World) : Calls Tryz.prog 104 #[.string s] w fun e w' => e = .returned (.bool (speltB smallB nameB s.data.toList)) ∧ w' = w := by
  have hl : s.data.toList.length = s.size := by simp
  by_cases h1 : 1 ≤ s.size
  rotate_left 1
  · have hr : Hid (speltB smallB nameB s.data.toList = false) := by unfold Hid speltB; rw [hl, decide_eq_false h1]; rfl
    obtain rfl : s = ⟨#[]⟩ := by
      apply ByteArray.ext
      apply Array.eq_empty_of_size_eq_zero
      have : s.data.size = s.size := rfl
      omega
    clear hl
    go_enter Tryz.func104, Tryz.ntmps104
    go_wp2_with fail
    go_ret
    exact ⟨ret_bool hr.out.symm, rfl⟩
  have hne := ne_empty h1
  by_cases h2 : s.size ≤ 32
  rotate_left 1
  · have hr : Hid (speltB smallB nameB s.data.toList = false) := by unfold Hid speltB; rw [hl, decide_eq_false h2]; simp
    clear hl
    go_enter Tryz.func104, Tryz.ntmps104
    go_wp2_with fail
    go_ret
    exact ⟨ret_bool hr.out.symm, rfl⟩
  have C0 := hide (rsmall_any s[0] w)
  cases hb : smallB s[0] with
  | false =>
    have hr : Hid (speltB smallB nameB s.data.toList = false) := by unfold Hid speltB; rw [getD_at s 0 (by omega), hb]; simp
    rw [hb] at C0
    clear hl hb
    go_enter Tryz.func104, Tryz.ntmps104
    go_wp2_with (first | (refine C0.out.mono ?_; rintro _ w1 ⟨rfl, hw1⟩; subst w1))
    go_ret
    exact ⟨ret_bool hr.out.symm, rfl⟩
  | true =>
    have hr : Hid (speltB smallB nameB s.data.toList = s.data.toList.all nameB) := by unfold Hid speltB; rw [getD_at s 0 (by omega), hb, hl, decide_eq_true h1, decide_eq_true h2]; simp
    have HB := hide (small_name hb)
    rw [hb] at C0
    clear hl hb
    go_enter Tryz.func104, Tryz.ntmps104
    go_wp2_with (first | (refine C0.out.mono ?_; rintro _ w1 ⟨rfl, hw1⟩; subst w1))
    go_loop [3] (fun x => ∃ k : Nat, 1 ≤ k ∧ k ≤ s.size ∧ x = .int .i64 k ∧ Hid ((s.data.toList.take k).all nameB = true)) (fun x => s.size - (intOf x).toNat)
    case atStart => exact ⟨1, by omega, by omega, rfl, hide (all_first (by omega) HB.out)⟩
    case round =>
      obtain ⟨k, hk1, hk, rfl, HK⟩ := hrel
      by_cases hlt : k < s.size
      · have C1 := hide (rest_any s[k] w)
        cases hb : nameB s[k] with
        | true =>
          have HN := hide (all_step hlt HK.out hb)
          rw [hb] at C1
          clear hb
          go_wp2_with (first | (refine C1.out.mono ?_; rintro _ w1 ⟨rfl, hw1⟩; subst w1))
          go_round
          case rel => exact ⟨k + 1, by omega, by omega, by go_num, HN⟩
          case measure => simp [intOf]; omega
        | false =>
          have HN := hide (all_no hlt hb)
          rw [hb] at C1
          clear hb
          go_wp2_with (first | (refine C1.out.mono ?_; rintro _ w1 ⟨rfl, hw1⟩; subst w1))
          go_ret
          exact ⟨ret_bool ((hr.out.trans HN.out).symm), rfl⟩
      · have HN : Hid (s.data.toList.all nameB = true) := by
          have := HK.out
          rw [List.take_of_length_le (by simp; have : s.data.size = s.size := rfl; omega)] at this
          exact this
        go_wp2_with fail
        go_ret
        exact ⟨ret_bool ((hr.out.trans HN.out).symm), rfl⟩

set_option maxRecDepth 100000 in
set_option maxHeartbeats 1600000 in
theorem risVar_any (s : ByteArray) (w : World) : Calls Tryz.prog 133 #[.string s] w fun e w' => e = .returned (.bool (speltB capB varB s.data.toList)) ∧ w' = w := by
  have hl : s.data.toList.length = s.size := by simp
  by_cases h1 : 1 ≤ s.size
  rotate_left 1
  · have hr : Hid (speltB capB varB s.data.toList = false) := by unfold Hid speltB; rw [hl, decide_eq_false h1]; rfl
    obtain rfl : s = ⟨#[]⟩ := by
      apply ByteArray.ext
      apply Array.eq_empty_of_size_eq_zero
      have : s.data.size = s.size := rfl
      omega
    clear hl
    go_enter Tryz.func133, Tryz.ntmps133
    go_wp2_with fail
    go_ret
    exact ⟨ret_bool hr.out.symm, rfl⟩
  have hne := ne_empty h1
  by_cases h2 : s.size ≤ 32
  rotate_left 1
  · have hr : Hid (speltB capB varB s.data.toList = false) := by unfold Hid speltB; rw [hl, decide_eq_false h2]; simp
    clear hl
    go_enter Tryz.func133, Tryz.ntmps133
    go_wp2_with fail
    go_ret
    exact ⟨ret_bool hr.out.symm, rfl⟩
  have C0 := hide (rcapital_any s[0] w)
  cases hb : capB s[0] with
  | false =>
    have hr : Hid (speltB capB varB s.data.toList = false) := by unfold Hid speltB; rw [getD_at s 0 (by omega), hb]; simp
    rw [hb] at C0
    clear hl hb
    go_enter Tryz.func133, Tryz.ntmps133
    go_wp2_with (first | (refine C0.out.mono ?_; rintro _ w1 ⟨rfl, hw1⟩; subst w1))
    go_ret
    exact ⟨ret_bool hr.out.symm, rfl⟩
  | true =>
    have hr : Hid (speltB capB varB s.data.toList = s.data.toList.all varB) := by unfold Hid speltB; rw [getD_at s 0 (by omega), hb, hl, decide_eq_true h1, decide_eq_true h2]; simp
    have HB := hide (cap_var hb)
    rw [hb] at C0
    clear hl hb
    go_enter Tryz.func133, Tryz.ntmps133
    go_wp2_with (first | (refine C0.out.mono ?_; rintro _ w1 ⟨rfl, hw1⟩; subst w1))
    go_loop [3] (fun x => ∃ k : Nat, 1 ≤ k ∧ k ≤ s.size ∧ x = .int .i64 k ∧ Hid ((s.data.toList.take k).all varB = true)) (fun x => s.size - (intOf x).toNat)
    case atStart => exact ⟨1, by omega, by omega, rfl, hide (all_first (by omega) HB.out)⟩
    case round =>
      obtain ⟨k, hk1, hk, rfl, HK⟩ := hrel
      by_cases hlt : k < s.size
      · have C1 := hide (rest_any s[k] w)
        have C2 := hide (rcapital_any s[k] w)
        cases hb : varB s[k] with
        | true =>
          have HN := hide (all_step hlt HK.out hb)
          cases hn : nameB s[k] with
          | true =>
            rw [hn] at C1
            clear hb hn
            go_wp2_with (first | (go_at_call 119; refine C1.out.mono ?_; rintro _ w1 ⟨rfl, hw1⟩; subst w1) | (go_at_call 136; refine C2.out.mono ?_; rintro _ w1 ⟨rfl, hw1⟩; subst w1))
            go_round
            case rel => exact ⟨k + 1, by omega, by omega, by go_num, HN⟩
            case measure => simp [intOf]; omega
          | false =>
            have hc : capB s[k] = true := by unfold varB at hb; rw [hn] at hb; simpa using hb
            rw [hn] at C1
            rw [hc] at C2
            clear hb hn hc
            go_wp2_with (first | (go_at_call 119; refine C1.out.mono ?_; rintro _ w1 ⟨rfl, hw1⟩; subst w1) | (go_at_call 136; refine C2.out.mono ?_; rintro _ w1 ⟨rfl, hw1⟩; subst w1))
            go_round
            case rel => exact ⟨k + 1, by omega, by omega, by go_num, HN⟩
            case measure => simp [intOf]; omega
        | false =>
          have HN := hide (all_no hlt hb)
          have hn : nameB s[k] = false := by unfold varB at hb; simp at hb; exact hb.1
          have hc : capB s[k] = false := by unfold varB at hb; simp at hb; exact hb.2
          rw [hn] at C1
          rw [hc] at C2
          clear hb hn hc
          go_wp2_with (first | (go_at_call 119; refine C1.out.mono ?_; rintro _ w1 ⟨rfl, hw1⟩; subst w1) | (go_at_call 136; refine C2.out.mono ?_; rintro _ w1 ⟨rfl, hw1⟩; subst w1))
          go_ret
          exact ⟨ret_bool ((hr.out.trans HN.out).symm), rfl⟩
      · have HN : Hid (s.data.toList.all varB = true) := by
          have := HK.out
          rw [List.take_of_length_le (by simp; have : s.data.size = s.size := rfl; omega)] at this
          exact this
        go_wp2_with fail
        go_ret
        exact ⟨ret_bool ((hr.out.trans HN.out).symm), rfl⟩

end Go.Proofs.YtbdlgglbcaoakaaGreat
/- The page's small questions: a name new in its list, a value among values, two lists of names. -/
namespace Go.Proofs.YtbdlgglbcaoakaaGreat
open Go.RowKit Go.Shelf Go.Maps Go.WideMaps

/-- An error's number; 0: none. -/
def erc {α : Type} : Er α → Int
  | .ok _ => 0
  | .error c => c
theorem erc_ok {α : Type} {o : Er α} {a : α} (h : o = .ok a) : erc o = 0 := by rw [h]; rfl
theorem erc_no {α : Type} {o : Er α} {c : Int} (h : o = .error c) : erc o = c := by rw [h]; rfl
theorem erc_go {α β : Type} {x : Er α} {f : α → Er β} {a : α} (hx : x = .ok a) : erc (x >>= f) = erc (f a) := by rw [hx]; rfl
theorem erc_stop {α β : Type} {x : Er α} {f : α → Er β} {c : Int} (hx : x = .error c) : erc (x >>= f) = c := by rw [hx]; rfl
theorem erc_end {α : Type} {x : Er α} : erc (x >>= fun _ => (.ok () : Er Unit)) = erc x := by cases x <;> rfl
theorem erc_t {β : Type} {b : Bool} {c : Int} {f : Unit → Er β} (h : b = true) : erc (wantM b c >>= f) = erc (f ()) := erc_go (want_t h)
theorem erc_f {β : Type} {b : Bool} {c : Int} {f : Unit → Er β} (h : b = false) : erc (wantM b c >>= f) = c := erc_stop (want_f h)
theorem idx_le {l : List Bytes} {s : Bytes} : ∀ {n : Nat}, n < l.length → l.getD n [] = s → l.idxOf s ≤ n := by
  induction l with
  | nil => intro n h; simp at h
  | cons x r ih =>
    intro n h he
    rw [List.idxOf_cons]
    by_cases hx : x = s
    · simp [hx]
    · have hb : (x == s) = false := beq_eq_false_iff_ne.2 hx
      rw [hb]
      cases n with
      | zero => simp at he; exact absurd he hx
      | succ n =>
        have h1 : n < r.length := by simpa using h
        have h2 : r.getD n [] = s := by simpa using he
        have := ih h1 h2
        simp
        omega
theorem pos_le {l : List Bytes} {s : Bytes} {n : Nat} (h : n < l.length) (he : l.getD n [] = s) : posB l s ≤ n := by
  unfold posB
  rw [if_pos (take_hit h he)]
  exact idx_le h he

set_option maxHeartbeats 800000 in
theorem rIsName_any (s : Bytes) (w : World) : Calls Tryz.prog 77 #[str s] w fun e w' => e = .returned (.bool (isNameB s)) ∧ w' = w := by
  have C := hide (risName_any ⟨s.toArray⟩ w)
  unfold str
  go_enter Tryz.func77, Tryz.ntmps77
  go_wp2_with fail
  refine C.out.mono ?_
  rintro _ w1 ⟨rfl, hw⟩
  subst w1
  go_wp2_with fail
  go_ret
  exact ⟨rfl, rfl⟩
set_option maxHeartbeats 800000 in
theorem rIsVar_any (s : Bytes) (w : World) : Calls Tryz.prog 121 #[str s] w fun e w' => e = .returned (.bool (isVarB s)) ∧ w' = w := by
  have C := hide (risVar_any ⟨s.toArray⟩ w)
  unfold str
  go_enter Tryz.func121, Tryz.ntmps121
  go_wp2_with fail
  refine C.out.mono ?_
  rintro _ w1 ⟨rfl, hw⟩
  subst w1
  go_wp2_with fail
  go_ret
  exact ⟨rfl, rfl⟩
set_option maxHeartbeats 800000 in
theorem rMay_any (v : Int) (w : World) : Calls Tryz.prog 79 #[.int .i64 v] w fun e w' => e = .returned (.bool (mayB v)) ∧ w' = w := by
  unfold mayB
  by_cases h1 : -1000000000000000 ≤ v
  · by_cases h2 : v ≤ 1000000000000000
    · rw [decide_eq_true h1, decide_eq_true h2]
      go_enter Tryz.func79, Tryz.ntmps79
      go_wp2_with fail
      go_ret
      exact ⟨rfl, rfl⟩
    · rw [decide_eq_true h1, decide_eq_false h2]
      go_enter Tryz.func79, Tryz.ntmps79
      go_wp2_with fail
      go_ret
      exact ⟨rfl, rfl⟩
  · rw [decide_eq_false h1]
    go_enter Tryz.func79, Tryz.ntmps79
    go_wp2_with fail
    go_ret
    exact ⟨rfl, rfl⟩
set_option maxHeartbeats 800000 in
theorem rday_any (v : Int) (w : World) : Calls Tryz.prog 83 #[.int .i64 v] w fun e w' => e = .returned (.bool (dayB v)) ∧ w' = w := by
  unfold dayB
  by_cases h1 : 1 ≤ v
  · by_cases h2 : v ≤ 3652059
    · rw [decide_eq_true h1, decide_eq_true h2]
      go_enter Tryz.func83, Tryz.ntmps83
      go_wp2_with fail
      go_ret
      exact ⟨rfl, rfl⟩
    · rw [decide_eq_true h1, decide_eq_false h2]
      go_enter Tryz.func83, Tryz.ntmps83
      go_wp2_with fail
      go_ret
      exact ⟨rfl, rfl⟩
  · rw [decide_eq_false h1]
    go_enter Tryz.func83, Tryz.ntmps83
    go_wp2_with fail
    go_ret
    exact ⟨rfl, rfl⟩

set_option maxRecDepth 100000 in
set_option maxHeartbeats 1600000 in
theorem rnamed_any {w : World} {a : Option Addr} {l : List Bytes} {c n : Nat} (h : At1 w a (strs l)) (hl : l.length ≤ 140737488351232) (hn : n < l.length) :
    Calls Tryz.prog 32 #[.slice a l.length c, .int .i64 n] w fun e w' => e = .returned (.int .i64 (erc (calledM l (l.getD n []) n))) ∧ w' = w := by
  obtain ⟨g, o, rfl, kc⟩ := h.str hn
  have hp := pos_le hn (rfl : l.getD n [] = _)
  have hm : l.getD n [] ∈ l := take_hit hn rfl
  have CF := hide (rfind_any (c := c) h hl (l.getD n []))
  rw [findZ_in hm] at CF
  have CN := hide (rIsName_any (l.getD n []) w)
  unfold calledM
  generalize posB l (l.getD n []) = q at *
  generalize l.getD n [] = s at *
  unfold str at *
  clear h hm
  cases hb : isNameB s with
  | false =>
    rw [erc_f rfl]
    rw [hb] at CN
    go_enter Tryz.func32, Tryz.ntmps32
    go_wp2_with (first | (go_at_call 77; refine CN.out.mono ?_; rintro _ w1 ⟨rfl, hw⟩; subst w1))
    go_ret
    exact ⟨rfl, rfl⟩
  | true =>
    rw [erc_t rfl]
    rw [hb] at CN
    by_cases hq : (q : Int) = (n : Int)
    · rw [want_t (decide_eq_true hq)]
      have hd : ¬ ((q : Int) < (n : Int)) := by omega
      clear hq
      go_enter Tryz.func32, Tryz.ntmps32
      go_wp2_with (first | (go_at_call 77; refine CN.out.mono ?_; rintro _ w1 ⟨rfl, hw⟩; subst w1) | (go_at_call 34; refine CF.out.mono ?_; rintro _ w1 ⟨rfl, hw⟩; subst w1))
      go_ret
      exact ⟨rfl, rfl⟩
    · rw [want_f (decide_eq_false hq)]
      have hd : (q : Int) < (n : Int) := by omega
      clear hq
      go_enter Tryz.func32, Tryz.ntmps32
      go_wp2_with (first | (go_at_call 77; refine CN.out.mono ?_; rintro _ w1 ⟨rfl, hw⟩; subst w1) | (go_at_call 34; refine CF.out.mono ?_; rintro _ w1 ⟨rfl, hw⟩; subst w1))
      go_ret
      exact ⟨rfl, rfl⟩

set_option maxRecDepth 100000 in
set_option maxHeartbeats 1600000 in
theorem rhas_any {w : World} {a : Option Addr} {l : List Int} {c : Nat} (h : At1 w a (ints l)) (hl : l.length ≤ 140737488351232) (v : Int) :
    Calls Tryz.prog 80 #[.slice a l.length c, .int .i64 v] w fun e w' => e = .returned (.bool (decide (v ∈ l))) ∧ w' = w := by
  have HA := hide h
  clear h
  go_enter Tryz.func80, Tryz.ntmps80
  go_wp2_with fail
  go_loop [5] (fun x => ∃ k : Nat, k ≤ l.length ∧ x = .int .i64 k ∧ Hid (v ∉ l.take k)) (fun x => l.length - (intOf x).toNat)
  case atStart => exact ⟨0, by omega, rfl, hide (by simp)⟩
  case round =>
    obtain ⟨k, hk, rfl, HK⟩ := hrel
    by_cases hlt : k < l.length
    · obtain ⟨g, o, rfl, kc⟩ := HA.out.int hlt
      by_cases he : l.getD k 0 = v
      · have HP := hide (take_hit hlt he)
        rw [he] at kc
        clear he HK
        go_wp2_with fail
        go_ret
        exact ⟨by rw [decide_eq_true HP.out]; rfl, rfl⟩
      · have HP := hide (take_step hlt HK.out he)
        generalize l.getD k 0 = x at kc he
        have hbb : (x == v) = false := beq_eq_false_iff_ne.2 he
        clear he HK
        go_wp2_with fail
        go_round
        case rel => exact ⟨k + 1, by omega, by go_num, HP⟩
        case measure => simp [intOf]; omega
    · have HP : Hid (v ∉ l) := by
        have := HK.out
        rw [List.take_of_length_le (by omega)] at this
        exact this
      go_wp2_with fail
      go_ret
      exact ⟨by rw [decide_eq_false HP.out]; rfl, rfl⟩

theorem take_eq_step {l m : List Bytes} {k : Nat} (h1 : k < l.length) (h2 : k < m.length) (he : l.take k = m.take k) (hx : l.getD k [] = m.getD k []) : l.take (k + 1) = m.take (k + 1) := by
  rw [List.take_add_one, List.take_add_one, he, List.getElem?_eq_getElem h1, List.getElem?_eq_getElem h2]
  rw [List.getD_eq_getElem?_getD, List.getD_eq_getElem?_getD, List.getElem?_eq_getElem h1, List.getElem?_eq_getElem h2] at hx
  simp at hx
  rw [hx]
theorem getD_ne {l m : List Bytes} {k : Nat} (hx : ¬ l.getD k [] = m.getD k []) : l ≠ m := fun e => hx (by rw [e])
set_option maxRecDepth 100000 in
set_option maxHeartbeats 3200000 in
theorem rsameNames_any {w : World} {a b : Option Addr} {l m : List Bytes} {c d : Nat} (ha : At1 w a (strs l)) (hb : At1 w b (strs m)) (hl : l.length ≤ 140737488351232) :
    Calls Tryz.prog 81 #[.slice a l.length c, .slice b m.length d] w fun e w' => e = .returned (.bool (decide (l = m))) ∧ ∃ m, w' = w.drewN m := by
  have HA := hide ha
  have HB := hide hb
  clear ha hb
  by_cases hlm : l.length = m.length
  · have HLM := hide hlm
    have hz : (m.length : Int) = (l.length : Int) := by omega
    rw [show (Value.slice b m.length d) = .slice b l.length d by rw [hlm]]
    clear hlm hz
    go_enter Tryz.func81, Tryz.ntmps81
    go_wp2_with fail
    go_loopw [5] (fun x wr => ∃ k q : Nat, k ≤ l.length ∧ x = .int .i64 k ∧ wr = w.drewN q ∧ Hid (l.take k = m.take k)) (fun x _ => l.length - (intOf x).toNat)
    case atStart => exact ⟨0, 0, by omega, rfl, rfl, hide (by simp)⟩
    case round =>
      obtain ⟨k, q, hk, rfl, rfl, HK⟩ := hrel
      by_cases hlt : k < l.length
      · obtain ⟨g, o, rfl, kc⟩ := HA.out.str hlt
        obtain ⟨g2, o2, rfl, kd⟩ := HB.out.str (i := k) (by rw [← HLM.out]; exact hlt)
        by_cases he : l.getD k [] = m.getD k []
        · have HP := hide (take_eq_step hlt (by rw [← HLM.out]; exact hlt) HK.out he)
          rw [he] at kc
          generalize m.getD k [] = x at kc kd
          clear he HK
          go_wp2_with fail
          go_quiet (fail)
          go_wp2_with fail
          go_roundw
          case rel => exact ⟨k + 1, _, by omega, by go_num, rfl, HP⟩
          case measure => simp [intOf]; omega
        · have HP := hide (getD_ne he)
          generalize l.getD k [] = x at kc he
          generalize m.getD k [] = y at kd he
          have hbb : (x == y) = false := beq_eq_false_iff_ne.2 he
          clear he HK
          go_wp2_with fail
          go_quiet (fail)
          go_wp2_with fail
          go_ret
          exact ⟨by rw [decide_eq_false HP.out]; rfl, _, World.drewN_drewN _ _ _⟩
      · have HP : Hid (l = m) := by
          have := HK.out
          rw [List.take_of_length_le (by omega), List.take_of_length_le (by have := HLM.out; omega)] at this
          exact this
        go_wp2_with fail
        go_ret
        exact ⟨by rw [decide_eq_true HP.out]; rfl, q, rfl⟩
  · have hne : l ≠ m := fun e => hlm (by rw [e])
    rw [decide_eq_false hne]
    have hbb : ((l.length : Int) == (m.length : Int)) = false := beq_eq_false_iff_ne.2 (by omega)
    clear hne
    go_enter Tryz.func81, Tryz.ntmps81
    go_wp2_with fail
    go_ret
    exact ⟨rfl, 0, rfl⟩
end Go.Proofs.YtbdlgglbcaoakaaGreat
/- A statute in the call's own box. -/
namespace Go.Proofs.YtbdlgglbcaoakaaGreat
open Go.RowKit Go.Shelf Go.Maps Go.WideMaps

/-- The statute in the call's own box at block H. -/
structure Lw (H : Nat) (S : StatM) (st : St9) (w w' : World) : Prop where
  low : Below H w w'
  rep : SR H w' S st
  box : w'.heap[H]? = some (.cells #[st.title, st.kinds, st.members, st.preds, st.classes, st.sources, st.rules, st.excepts, st.totals] 31 (0, 0))
section
variable {H : Nat} {S : StatM} {st : St9} {w w' w'' : World}
theorem Lw.below (h : Lw H S st w w') (hb : Below w'.heap.size w' w'') : Lw H S st w w'' := by
  have hl := loc_lt h.box
  exact ⟨h.low.trans (hb.mono (by omega)), h.rep.keep fun g hg => hb.block g (by omega), (hb.block _ hl).trans h.box⟩
theorem Lw.sr (h : Lw H S st w w') : SR w'.heap.size w' S st := SR.mono (by have := loc_lt h.box; omega) h.rep
theorem Lw.cells (h : Lw H S st w w') : w'.cell? ⟨H, 0, none⟩ = some st.title ∧ w'.cell? ⟨H, 1, none⟩ = some st.kinds ∧ w'.cell? ⟨H, 2, none⟩ = some st.members ∧ w'.cell? ⟨H, 3, none⟩ = some st.preds ∧ w'.cell? ⟨H, 4, none⟩ = some st.classes ∧ w'.cell? ⟨H, 5, none⟩ = some st.sources ∧ w'.cell? ⟨H, 6, none⟩ = some st.rules ∧ w'.cell? ⟨H, 7, none⟩ = some st.excepts ∧ w'.cell? ⟨H, 8, none⟩ = some st.totals ∧ ∀ i, w'.frozen? ⟨H, i, none⟩ = false :=
  ⟨cell_of_row w' _ 0 _ _ _ h.box, cell_of_row w' _ 1 _ _ _ h.box, cell_of_row w' _ 2 _ _ _ h.box, cell_of_row w' _ 3 _ _ _ h.box, cell_of_row w' _ 4 _ _ _ h.box, cell_of_row w' _ 5 _ _ _ h.box, cell_of_row w' _ 6 _ _ _ h.box, cell_of_row w' _ 7 _ _ _ h.box, cell_of_row w' _ 8 _ _ _ h.box, fun i => frozen_of_row w' _ i _ _ h.box⟩
theorem Lw.drew (h : Lw H S st w w') : Lw H S st w w'.drew := h.below ⟨rfl, rfl, rfl, Nat.le_refl _, fun _ _ => rfl⟩
theorem Lw.cell (h : Lw H S st w w') {g i : Nat} {u : Value} (hg : g < H) (hw : w.cell? ⟨g, i, none⟩ = some u) : w'.cell? ⟨g, i, none⟩ = some u := (World.cell?_of_block (h.low.block g hg)).trans hw
end
end Go.Proofs.YtbdlgglbcaoakaaGreat
