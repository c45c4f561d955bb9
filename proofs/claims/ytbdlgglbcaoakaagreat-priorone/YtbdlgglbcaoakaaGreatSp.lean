/- What a name and a variable are: the program's words and the document's. -/
import Derived.Test.YtbdlgglbcaoakaaGreatProg
import Derived.WalkKit
import Derived.WalkSpells
import Derived.WalkLawsBesides
import Derived.Shelf.Abstract
namespace Go.Proofs.YtbdlgglbcaoakaaGreat
open Go.RowKit Go.Shelf

theorem hide {p : Prop} (h : p) : Hid p := h
theorem ret_int {k : IntKind} {a b : Int} (h : a = b) : Ending.returned (.int k a) = .returned (.int k b) := by rw [h]
theorem ret_bool {a b : Bool} (h : a = b) : Ending.returned (.bool a) = .returned (.bool b) := by rw [h]
theorem getD_at (s : ByteArray) (k : Nat) (h : k < s.size) : s.data.toList.getD k 0 = s[k] := by
  have : s.data.size = s.size := rfl
  simp [List.getD, h, this]
  rfl

def smallB (c : UInt8) : Bool := decide (97 ≤ (c.toNat : Int) ∧ (c.toNat : Int) ≤ 122)
def capB (c : UInt8) : Bool := decide (65 ≤ (c.toNat : Int) ∧ (c.toNat : Int) ≤ 90)
def nameB (c : UInt8) : Bool := smallB c || decide (48 ≤ (c.toNat : Int) ∧ (c.toNat : Int) ≤ 57) || decide ((c.toNat : Int) = 95)
def varB (c : UInt8) : Bool := nameB c || capB c

/-- Whether bytes begin and go on so, and are no more than 32. -/
def speltB (f g : UInt8 → Bool) (s : List UInt8) : Bool := decide (1 ≤ s.length) && decide (s.length ≤ 32) && f (s.getD 0 0) && s.all g
def isNameB (s : List UInt8) : Bool := speltB smallB nameB s
def isVarB (s : List UInt8) : Bool := speltB capB varB s

set_option maxHeartbeats 800000 in
theorem small_any (c : UInt8) (w : World) : Calls Tryz.prog 124 #[.int .u8 c.toNat] w fun e w' => e = .returned (.bool (smallB c)) ∧ w' = w := by
  unfold smallB
  go_enter Tryz.func124, Tryz.ntmps124
  go_wp2
  all_goals go_ret
  all_goals refine ⟨ret_bool ?_, rfl⟩
  all_goals simp
  all_goals omega

set_option maxHeartbeats 800000 in
theorem capital_any (c : UInt8) (w : World) : Calls Tryz.prog 134 #[.int .u8 c.toNat] w fun e w' => e = .returned (.bool (capB c)) ∧ w' = w := by
  unfold capB
  go_enter Tryz.func134, Tryz.ntmps134
  go_wp2
  all_goals go_ret
  all_goals refine ⟨ret_bool ?_, rfl⟩
  all_goals simp
  all_goals omega

set_option maxHeartbeats 800000 in
theorem inName_any (c : UInt8) (w : World) : Calls Tryz.prog 125 #[.int .u8 c.toNat] w fun e w' => e = .returned (.bool (nameB c)) ∧ w' = w := by
  have C := hide (small_any c w)
  unfold nameB
  cases hb : smallB c with
  | true =>
    rw [hb] at C
    clear hb
    go_enter Tryz.func125, Tryz.ntmps125
    go_wp2_with (first | (go_at_call 124; refine C.out.mono ?_; rintro _ w1 ⟨rfl, hw1⟩; subst w1))
    go_ret
    exact ⟨ret_bool (by simp), rfl⟩
  | false =>
    rw [hb] at C
    clear hb
    go_enter Tryz.func125, Tryz.ntmps125
    go_wp2_with (first | (go_at_call 124; refine C.out.mono ?_; rintro _ w1 ⟨rfl, hw1⟩; subst w1))
    all_goals go_ret
    all_goals refine ⟨ret_bool ?_, rfl⟩
    all_goals rw [Bool.eq_iff_iff]
    all_goals simp
    all_goals omega

set_option maxHeartbeats 800000 in
theorem inVar_any (c : UInt8) (w : World) : Calls Tryz.prog 135 #[.int .u8 c.toNat] w fun e w' => e = .returned (.bool (varB c)) ∧ w' = w := by
  have C := hide (inName_any c w)
  have D := hide (capital_any c w)
  unfold varB
  cases hb : nameB c with
  | true =>
    rw [hb] at C
    clear hb
    go_enter Tryz.func135, Tryz.ntmps135
    go_wp2_with (first | (go_at_call 125; refine C.out.mono ?_; rintro _ w1 ⟨rfl, hw1⟩; subst w1))
    go_ret
    exact ⟨ret_bool (by simp), rfl⟩
  | false =>
    rw [hb] at C
    clear hb
    go_enter Tryz.func135, Tryz.ntmps135
    go_wp2_with (first | (go_at_call 125; refine C.out.mono ?_; rintro _ w1 ⟨rfl, hw1⟩; subst w1) | (go_at_call 134; refine D.out.mono ?_; rintro _ w1 ⟨rfl, hw1⟩; subst w1))
    all_goals go_ret
    all_goals refine ⟨ret_bool ?_, rfl⟩
    all_goals simp

/-- The list of a text's bytes, one byte further. -/
theorem all_step {g : UInt8 → Bool} {s : ByteArray} {k : Nat} (hk : k < s.size) (h : (s.data.toList.take k).all g = true) (hg : g s[k] = true) : (s.data.toList.take (k + 1)).all g = true := by
  have e : s.data.toList[k]? = some s[k] := by
    have : s.data.size = s.size := rfl
    simp [hk, this]; rfl
  rw [List.take_add_one, e]
  simp only [Option.toList_some, List.all_append, h, List.all_cons, hg, List.all_nil, Bool.and_self]
theorem all_no {g : UInt8 → Bool} {s : ByteArray} {k : Nat} (hk : k < s.size) (hg : g s[k] = false) : s.data.toList.all g = false := by
  have e : s.data.toList[k]? = some s[k] := by
    have : s.data.size = s.size := rfl
    simp [hk, this]; rfl
  have hm := List.mem_of_getElem? e
  cases h : s.data.toList.all g with
  | false => rfl
  | true => exact absurd (List.all_eq_true.1 h _ hm) (by simp [hg])

set_option maxRecDepth 100000 in
set_option maxHeartbeats 1600000 in
theorem spelt_any (F G : Nat) (f g : UInt8 → Bool) (hf : ∀ c w, Calls Tryz.prog F #[.int .u8 (UInt8.toNat c)] w fun e w' => e = .returned (.bool (f c)) ∧ w' = w) (hg : ∀ c w, Calls Tryz.prog G #[.int .u8 (UInt8.toNat c)] w fun e w' => e = .returned (.bool (g c)) ∧ w' = w)
    (ef : ∀ args w, (callFunc F args).run Tryz.prog w = .ok (.enter F args) w) (eg : ∀ args w, (callFunc G args).run Tryz.prog w = .ok (.enter G args) w) (s : ByteArray) (w : World) :
    Calls Tryz.prog 123 #[.string s, .func (.func F) #[] #[], .func (.func G) #[] #[]] w fun e w' => e = .returned (.bool (speltB f g s.data.toList)) ∧ w' = w := by
  have HF := hide hf
  have HG := hide hg
  clear hf hg
  have hl : s.data.toList.length = s.size := by simp
  by_cases h1 : 1 ≤ s.size
  rotate_left 1
  · have hr : Hid (speltB f g s.data.toList = false) := by unfold Hid speltB; rw [hl, decide_eq_false h1]; rfl
    clear hl
    go_enter Tryz.func123, Tryz.ntmps123
    go_wp2_with fail
    go_ret
    exact ⟨ret_bool hr.out.symm, rfl⟩
  by_cases h2 : s.size ≤ 32
  rotate_left 1
  · have hr : Hid (speltB f g s.data.toList = false) := by unfold Hid speltB; rw [hl, decide_eq_false h2]; simp
    clear hl
    go_enter Tryz.func123, Tryz.ntmps123
    go_wp2_with fail
    go_ret
    exact ⟨ret_bool hr.out.symm, rfl⟩
  have C0 := hide (HF.out s[0] w)
  cases hb : f s[0] with
  | false =>
    have hr : Hid (speltB f g s.data.toList = false) := by unfold Hid speltB; rw [getD_at s 0 (by omega), hb]; simp
    rw [hb] at C0
    clear hl hb
    go_enter Tryz.func123, Tryz.ntmps123
    go_wp2_with (first | (refine C0.out.mono ?_; rintro _ w1 ⟨rfl, hw1⟩; subst w1))
    go_ret
    exact ⟨ret_bool hr.out.symm, rfl⟩
  | true =>
    have hr : Hid (speltB f g s.data.toList = s.data.toList.all g) := by unfold Hid speltB; rw [getD_at s 0 (by omega), hb, hl, decide_eq_true h1, decide_eq_true h2]; simp
    rw [hb] at C0
    clear hl hb
    go_enter Tryz.func123, Tryz.ntmps123
    go_wp2_with (first | (refine C0.out.mono ?_; rintro _ w1 ⟨rfl, hw1⟩; subst w1))
    go_loop [25] (fun x => ∃ k : Nat, k ≤ s.size ∧ x = .int .i64 k ∧ Hid ((s.data.toList.take k).all g = true)) (fun x => s.size - (intOf x).toNat)
    case atStart => exact ⟨0, by omega, rfl, hide (by simp)⟩
    case round =>
      obtain ⟨k, hk, rfl, HK⟩ := hrel
      by_cases hlt : k < s.size
      · have C1 := hide (HG.out s[k] w)
        cases hb : g s[k] with
        | true =>
          have HN := hide (all_step hlt HK.out hb)
          rw [hb] at C1
          clear hb
          go_wp2_with (first | (refine C1.out.mono ?_; rintro _ w1 ⟨rfl, hw1⟩; subst w1))
          go_round
          case rel => exact ⟨k + 1, by omega, by go_num, HN⟩
          case measure => simp [intOf]; omega
        | false =>
          have HN := hide (all_no hlt hb)
          rw [hb] at C1
          clear hb
          go_wp2_with (first | (refine C1.out.mono ?_; rintro _ w1 ⟨rfl, hw1⟩; subst w1))
          go_ret
          exact ⟨ret_bool ((hr.out.trans HN.out).symm), rfl⟩
      · have HN : Hid (s.data.toList.all g = true) := by
          have := HK.out
          rw [List.take_of_length_le (by simp; have : s.data.size = s.size := rfl; omega)] at this
          exact this
        go_wp2_with fail
        go_ret
        exact ⟨ret_bool ((hr.out.trans HN.out).symm), rfl⟩

theorem isName_any (s : ByteArray) (w : World) : Calls Tryz.prog 108 #[.string s] w fun e w' => e = .returned (.bool (isNameB s.data.toList)) ∧ w' = w := by
  have C := hide (spelt_any 124 125 smallB nameB small_any inName_any (enters_of Tryz.func124 (by kernel_rfl) rfl) (enters_of Tryz.func125 (by kernel_rfl) rfl) s w)
  go_enter Tryz.func108, Tryz.ntmps108
  go_wp2_with (first | (go_at_call 123; refine C.out.mono ?_; rintro _ w1 ⟨rfl, hw1⟩; subst w1))
  go_ret
  exact ⟨rfl, rfl⟩

theorem isVar_any (s : ByteArray) (w : World) : Calls Tryz.prog 131 #[.string s] w fun e w' => e = .returned (.bool (isVarB s.data.toList)) ∧ w' = w := by
  have C := hide (spelt_any 134 135 capB varB capital_any inVar_any (enters_of Tryz.func134 (by kernel_rfl) rfl) (enters_of Tryz.func135 (by kernel_rfl) rfl) s w)
  go_enter Tryz.func131, Tryz.ntmps131
  go_wp2_with (first | (go_at_call 123; refine C.out.mono ?_; rintro _ w1 ⟨rfl, hw1⟩; subst w1))
  go_ret
  exact ⟨rfl, rfl⟩
end Go.Proofs.YtbdlgglbcaoakaaGreat
