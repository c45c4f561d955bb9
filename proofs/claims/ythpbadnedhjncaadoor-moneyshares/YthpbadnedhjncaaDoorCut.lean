/- strings.CutPrefix with "-" and strings.Cut with ".", as the program calls them. -/
import Derived.Test.YthpbadnedhjncaaDoorChars
import Derived.Test.YthpbadnedhjncaaDoorShelf
import Derived.Lib.IndexLaws
namespace Go.Proofs.YthpbadnedhjncaaDoor
open Go.RowKit

theorem getD_bytes (s : ByteArray) (k : Nat) (c : UInt8) (h : s.data.toList[k]? = some c) : (strB s).getD k 0 = (c.toNat : Int) := by
  unfold strB
  simp only [List.getD, List.getElem?_map, h, Option.map_some, Option.getD_some]

theorem dot_split (s : ByteArray) : (Lib.indexByte s.data.toList 46 = -1 ∧ ∀ k, k < s.size → (strB s).getD k 0 ≠ 46) ∨
    (∃ k : Nat, k < s.size ∧ Lib.indexByte s.data.toList 46 = k ∧ (strB s).getD k 0 = 46 ∧ ∀ i, i < k → (strB s).getD i 0 ≠ 46) := by
  have key : ∀ i (hi : i < s.size), s.data.toList[i]? ≠ some 46 → (strB s).getD i 0 ≠ 46 := by
    intro i hi h hh
    apply h
    have hi' : i < s.data.toList.length := by simpa using hi
    rw [List.getElem?_eq_getElem hi']
    congr 1
    have := getD_bytes s i _ (List.getElem?_eq_getElem hi')
    rw [hh] at this
    have h2 : (46 : UInt8).toNat = s.data.toList[i].toNat := by
      have : (46 : Int) = (s.data.toList[i].toNat : Int) := this
      have h3 : (46 : UInt8).toNat = 46 := rfl
      omega
    exact (UInt8.toNat_inj.1 h2).symm
  rcases (show Lib.indexByte s.data.toList 46 = -1 ∨ 0 ≤ Lib.indexByte s.data.toList 46 by have := Lib.indexByte_ge s.data.toList 46; omega) with h | h
  · exact .inl ⟨h, fun k hk => key k hk (Lib.indexByte_none h k)⟩
  · obtain ⟨k, hk⟩ := Int.eq_ofNat_of_zero_le h
    have hs := Lib.indexByte_some hk
    have hlt : k < s.size := by
      rcases Nat.lt_or_ge k s.size with h' | h'
      · exact h'
      · have := hs.1
        rw [List.getElem?_eq_none (by simpa using h')] at this
        cases this
    exact .inr ⟨k, hlt, hk, getD_bytes s k 46 hs.1, fun i hi => key i (by omega) (hs.2 i hi)⟩

set_option maxHeartbeats 400000 in
theorem index_any (s : ByteArray) (w : World) :
    Calls Tryd.prog 65 #[.string s, .string ⟨#[46]⟩] w fun e w' => e = .returned (.int .i64 (Lib.indexByte s.data.toList 46)) ∧ w' = w := by
  have CI := hide (fun w => Tryd.stringslite_IndexByte s 46 w)
  rw [show (Int.toNat 46).toUInt8 = 46 from rfl] at CI
  cases h : ([46] == s.toList) with
  | true =>
    have HV : Hid (Lib.indexByte s.data.toList 46 = 0) := by
      have h1 : s.toList = [46] := (by simpa using h : [46] = s.toList).symm
      rw [ByteArray.toList_eq] at h1
      unfold Hid
      rw [h1]; rfl
    go_enter Tryd.func65, Tryd.ntmps65
    go_wp2_with (go_at_call 74; refine (CI.out _).mono ?_; rintro e w' ⟨rfl, hww⟩; subst w')
    go_ret
    exact ⟨ret_i64 HV.out.symm, rfl⟩
  | false =>
    go_enter Tryd.func65, Tryd.ntmps65
    go_wp2_with (go_at_call 74; refine (CI.out _).mono ?_; rintro e w' ⟨rfl, hww⟩; subst w')
    go_ret
    exact ⟨rfl, rfl⟩

set_option maxHeartbeats 400000 in
theorem cut_none0 (s : ByteArray) (w : World) (h : Lib.indexByte s.data.toList 46 = -1) :
    Calls Tryd.prog 47 #[.string s, .string ⟨#[46]⟩] w fun e w' => e = .returned (.tuple #[.string s, .string ⟨#[]⟩, .bool false]) ∧ w' = w := by
  have CI := hide (fun w => index_any s w)
  rw [h] at CI
  clear h
  go_enter Tryd.func47, Tryd.ntmps47
  go_wp2_with (go_at_call 65; refine (CI.out _).mono ?_; rintro e w' ⟨rfl, hww⟩; subst w')
  go_ret3
  exact ⟨rfl, rfl⟩

theorem cut_none (s : ByteArray) (w : World) (h : Lib.indexByte s.data.toList 46 = -1) :
    Calls Tryd.prog 30 #[.string s, .string ⟨#[46]⟩] w fun e w' => e = .returned (.tuple #[.string s, .string ⟨#[]⟩, .bool false]) ∧ w' = w := by
  have CI := hide (fun w => cut_none0 s w h)
  clear h
  go_enter Tryd.func30, Tryd.ntmps30
  go_wp2_with (go_at_call 47; refine (CI.out _).mono ?_; rintro e w' ⟨rfl, hww⟩; subst w')
  go_ret3
  exact ⟨rfl, rfl⟩

set_option maxHeartbeats 800000 in
theorem cut_some0 (s : ByteArray) (w : World) (hs : s.size ≤ 140737488355328) (k : Nat) (hk : k < s.size) (h : Lib.indexByte s.data.toList 46 = k) :
    Calls Tryd.prog 47 #[.string s, .string ⟨#[46]⟩] w fun e w' => e = .returned (.tuple #[.string (s.extract 0 k), .string (s.extract (k + 1) s.size), .bool true]) ∧ Below w.heap.size w w' := by
  have CI := hide (fun w => index_any s w)
  rw [h] at CI
  have c1 : (0 : Int) ≤ ↑k := by omega
  have c2 : (↑k : Int) ≤ ↑s.size := by omega
  have c3 : (0 : Int) ≤ ↑k + 1 := by omega
  have c4 : (↑k + 1 : Int) ≤ ↑s.size := by omega
  have c5 : IntKind.i64.wrap ((k : Int) + 1) = (k : Int) + 1 := by rw [IntKind.wrap_i64]; omega
  have c6 : ((k : Int) + 1).toNat = k + 1 := by omega
  clear h
  go_enter Tryd.func47, Tryd.ntmps47
  go_wp2_with (go_at_call 65; refine (CI.out _).mono ?_; rintro e w' ⟨rfl, hww⟩; subst w')
  go_region
  go_wp2
  go_ret3
  exact ⟨rfl, ⟨rfl, rfl, rfl, Nat.le_refl _, fun _ _ => rfl⟩⟩

theorem cut_some (s : ByteArray) (w : World) (hs : s.size ≤ 140737488355328) (k : Nat) (hk : k < s.size) (h : Lib.indexByte s.data.toList 46 = k) :
    Calls Tryd.prog 30 #[.string s, .string ⟨#[46]⟩] w fun e w' => e = .returned (.tuple #[.string (s.extract 0 k), .string (s.extract (k + 1) s.size), .bool true]) ∧ Below w.heap.size w w' := by
  have CI := hide (fun w => cut_some0 s w hs k hk h)
  clear h
  go_enter Tryd.func30, Tryd.ntmps30
  go_wp2_with (go_at_call 47; refine (CI.out _).mono ?_; rintro e w1 ⟨rfl, hb1⟩)
  go_ret3
  exact ⟨rfl, hb1⟩

theorem strB_extract (s : ByteArray) (a b : Nat) : strB (s.extract a b) = ((strB s).take b).drop a := by
  unfold strB
  rw [ByteArray.data_extract]
  simp [List.extract, List.map_take, List.map_drop, List.drop_take]

theorem cutPrefix_any (s : ByteArray) (w : World) : Calls Tryd.prog 29 #[.string s, .string ⟨#[45]⟩] w fun e w' => ∃ d : ByteArray, e = .returned (.tuple #[.string d, .bool (negB (strB s))]) ∧ strB d = (strB s).drop (atM (strB s)) ∧ d.size ≤ s.size ∧ w' = w := by
  refine (Tryd.strings_CutPrefix s ⟨#[45]⟩ w).mono ?_
  rintro e w' ⟨rfl, rfl⟩
  have e1 : Lib.hasPrefix s.data.toList [45] = negB (strB s) := by
    unfold Lib.hasPrefix negB strB
    cases s.data.toList with
    | nil => rfl
    | cons a l =>
      simp only [List.isPrefixOf, List.map_cons, List.getD_cons_zero, Bool.and_true]
      by_cases h : a = 45
      · subst h; rfl
      · rw [decide_eq_false]
        · simpa using fun hh => h hh.symm
        · intro hh
          apply h
          have h3 : (45 : UInt8).toNat = 45 := rfl
          exact UInt8.toNat_inj.1 (by omega)
  refine ⟨_, by rw [e1], ?_, ?_, rfl⟩
  · have : Lib.trimPrefix s.data.toList [45] = s.data.toList.drop (atM (strB s)) := by
      unfold Lib.trimPrefix atM
      rw [e1]
      cases negB (strB s) <;> simp
    show (Lib.trimPrefix s.data.toList [45]).map _ = _
    rw [this]
    unfold strB
    rw [List.map_drop]
  · show (Lib.trimPrefix s.data.toList [45]).length ≤ _
    unfold Lib.trimPrefix
    split
    · rw [List.length_drop]; simp
    · simp

theorem list_split {l : List Int} {k : Nat} (hk : k < l.length) : l = l.take k ++ l.getD k 0 :: l.drop (k + 1) := by
  have h1 : l.drop k = l[k] :: l.drop (k + 1) := List.drop_eq_getElem_cons hk
  have h2 : l.getD k 0 = l[k] := by simp [List.getD, hk]
  rw [h2, ← h1, List.take_append_drop]

theorem not_mem_take {l : List Int} {k : Nat} {c : Int} (h : ∀ i, i < k → l.getD i 0 ≠ c) : c ∉ l.take k := by
  intro hm
  obtain ⟨i, hi, e⟩ := List.getElem_of_mem hm
  have h1 : i < k := by simp at hi; omega
  have h2 : i < l.length := by simp at hi; omega
  have := h i h1
  apply this
  rw [← e]
  simp [List.getD, h2]

/-- strings.Cut at a point: what is ahead of the first, and what is behind it. -/
theorem cut_any (s : ByteArray) (w : World) (hs : s.size ≤ 140737488355328) :
    Calls Tryd.prog 30 #[.string s, .string ⟨#[46]⟩] w fun e w' => ∃ (a b : ByteArray) (f : Bool), e = .returned (.tuple #[.string a, .string b, .bool f]) ∧ a.size ≤ s.size ∧ b.size ≤ s.size ∧
      strB s = strB a ++ (if f = true then 46 :: strB b else []) ∧ 46 ∉ strB a ∧ (f = false → strB b = []) ∧ Below w.heap.size w w' := by
  have hlen := strB_len s
  rcases dot_split s with ⟨h, hn⟩ | ⟨k, hk, h, hd, hn⟩
  · refine (cut_none s w h).mono ?_
    rintro e w' ⟨rfl, rfl⟩
    refine ⟨s, ⟨#[]⟩, false, rfl, Nat.le_refl _, Nat.zero_le _, by simp, ?_, fun _ => rfl, Below.refl _ _⟩
    have := not_mem_take (l := strB s) (k := (strB s).length) (c := 46) (fun i hi => hn i (by omega))
    rwa [List.take_of_length_le (Nat.le_refl _)] at this
  · refine (cut_some s w hs k hk h).mono ?_
    rintro e w' ⟨rfl, hb⟩
    refine ⟨_, _, true, rfl, by simp; omega, by simp, ?_, ?_, fun hh => (by cases hh), hb⟩
    · rw [strB_extract, strB_extract, List.drop_zero, List.take_of_length_le (i := s.size) (by omega), if_pos rfl]
      have := list_split (l := strB s) (k := k) (by omega)
      rw [hd] at this
      exact this
    · rw [strB_extract, List.drop_zero]
      exact not_mem_take hn

end Go.Proofs.YthpbadnedhjncaaDoor
