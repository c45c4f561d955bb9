/- A key keeps the number with which it came first. -/
import Derived.Test.YtfnobccminhjpabGreatList8
import Derived.DeepKeys4
namespace Go.Proofs.YtfnobccminhjpabGreat
open Go.RowKit Go.Shelf Go.Maps Go.WideMaps

/-- What a call leaves as it was that writes blocks of Z's and new ones alone. -/
structure Fr (Z : Nat → Prop) (w w' : World) : Prop where
  os : w'.os = w.os
  tape : w'.tape = w.tape
  output : w'.output = w.output
  size : w.heap.size ≤ w'.heap.size
  block : ∀ k, k < w.heap.size → ¬ Z k → w'.heap[k]? = w.heap[k]?
theorem Fr.refl (Z : Nat → Prop) (w : World) : Fr Z w w := ⟨rfl, rfl, rfl, Nat.le_refl _, fun _ _ _ => rfl⟩
theorem Fr.trans {Z : Nat → Prop} {a b c : World} (h : Fr Z a b) (k : Fr Z b c) : Fr Z a c :=
  ⟨k.os.trans h.os, k.tape.trans h.tape, k.output.trans h.output, Nat.le_trans h.size k.size, fun i hi hz => (k.block i (Nat.lt_of_lt_of_le hi h.size) hz).trans (h.block i hi hz)⟩
theorem Fr.of_below {Z : Nat → Prop} {w w' : World} (h : Below w.heap.size w w') : Fr Z w w' := ⟨h.os, h.tape, h.output, h.size, fun k hk _ => h.block k hk⟩
theorem Fr.of_grown {Z : Nat → Prop} {w w' : World} {row : Option Nat} (h : w.grownBy w' row) (hz : ∀ k, row = some k → Z k) : Fr Z w w' :=
  ⟨h.os, h.tape, h.output, h.size, fun k hk hn => h.block k hk fun e => hn (hz k e.symm)⟩
theorem Fr.setCell {Z : Nat → Prop} {w : World} (p : Addr) (v : Value) (hz : Z p.block) : Fr Z w (w.setCell p v) :=
  ⟨rfl, rfl, rfl, by simp, fun k _ hn => heap_setCell_other w p k v fun e => hn (e ▸ hz)⟩
theorem Fr.below {Z : Nat → Prop} {w w' : World} (h : Fr Z w w') {n : Nat} (hn : ∀ k, k < n → k < w.heap.size ∧ ¬ Z k) : Below n w w' := ⟨h.os, h.tape, h.output, h.size, fun k hk => h.block k (hn k hk).1 (hn k hk).2⟩
theorem Fr.mono {Z Z' : Nat → Prop} {w w' : World} (h : Fr Z w w') (hz : ∀ k, k < w.heap.size → Z k → Z' k) : Fr Z' w w' := ⟨h.os, h.tape, h.output, h.size, fun k hk hn => h.block k hk fun e => hn (hz k hk e)⟩

theorem wf64 {n : Nat} (h : n ≤ 140737488351232) : (Lit.int .i64 n).wf = true := WalkArith.wf_i64 (by omega)
theorem laidOut8 : laidOutB Tryz.prog = true := by kernel_rfl
theorem lawE : Keyed Tryz.prog 157 := Keyed.of_law (deep_law_laid laidOut8 (m := 3) (by omega) (of_decide_eq_true (by kernel_rfl)) (by kernel_rfl) (by kernel_rfl))
theorem keyTypeE : Tryz.prog.keyType 157 = true := by kernel_rfl
theorem cellsE : Tryz.prog.cellsOf 157 = 2 := by kernel_rfl

section
variable {w : World} {b : Nat} {l : List Bytes}
theorem has_put {D : DataW Unit} {s : Bytes} {v : DataW Unit} (h : ∀ t : Bytes, Maps.has D (.string t) = decide (t ∈ l)) (hD : Maps.IsMap D) : ∀ t : Bytes, Maps.has (D.put (.string s) v) (.string t) = decide (t ∈ l ++ [s]) := by
  intro t
  by_cases e : t = s
  · subst e; rw [Maps.has_put_same hD (key_str _)]; simp
  · have hne : Lit.string t ≠ Lit.string s := by intro h; injection h; contradiction
    rw [Maps.has_put_other hne, h t]; simp [e]

set_option maxRecDepth 100000 in
set_option maxHeartbeats 1600000 in
/-- What put does with a map, whatever it tells. -/
theorem put_map {n : Nat} {D : DataW Unit} (hm : w.ownsMap (H := Unit) Tryz.prog 9 (plainElem Tryz.prog 3) b n D) (hn : n ≤ 281474976710656) (s : Bytes) (hs : s.length ≤ maxLen) (k : Nat) (hk : k ≤ 140737488351232) :
    Calls Tryz.prog 26 #[.map (some b), str s, .int .i64 k] w fun e w' => e = .returned (.bool (!Maps.has D (.string s))) ∧
      ((Maps.has D (.string s) = true ∧ w' = w) ∨ (Maps.has D (.string s) = false ∧ w'.ownsMap (H := Unit) Tryz.prog 9 (plainElem Tryz.prog 3) b (n + 1) (D.put (.string s) (.lit (.int .i64 k))) ∧ w.grownBy w' (some b))) := by
  have HK := hide (key_mk hs)
  have HWF := hide (wf64 hk)
  unfold str
  cases hh : Maps.has D (.string s) with
  | true =>
    go_enter Tryz.func26, Tryz.ntmps26
    go_wp2_with (at_lookup; go_must (refine wpList_lookup_own_ok_int _ rfl _ _ 103 rfl 9 3 .i64 law Tryz.underlying103 Tryz.underlying3 (Tryz.zeroValue3 _) b n _ rfl hm _ _ rfl HK.out ?_); intro cc hat hwc; rw [hh])
    go_ret
    exact ⟨rfl, .inl ⟨trivial, rfl⟩⟩
  | false =>
    go_enter Tryz.func26, Tryz.ntmps26
    go_wp2_with (first | (at_lookup; go_must (refine wpList_lookup_own_ok_int _ rfl _ _ 103 rfl 9 3 .i64 law Tryz.underlying103 Tryz.underlying3 (Tryz.zeroValue3 _) b n _ rfl hm _ _ rfl HK.out ?_); intro cc hat hwc; rw [hh]) | (at_mapUpdate; go_must (refine wpList_mapUpdate_own _ rfl _ _ _ 103 rfl 9 3 law Tryz.underlying103 _ b n _ rfl hm (by unfold maxLen; omega) _ _ _ rfl rfl HK.out _ [] (plainElem_int Tryz.underlying3 HWF.out) ?_); intro w1 hm1 hg1))
    go_ret
    exact ⟨rfl, .inr ⟨trivial, hm1, hg1⟩⟩

theorem putS_any (hm : KMap 9 w b l) (hl : l.length ≤ 140737488351232) (s : Bytes) (hs : s.length ≤ maxLen) :
    Calls Tryz.prog 26 #[.map (some b), str s, .int .i64 l.length] w fun e w' => e = .returned (.bool (!decide (s ∈ l))) ∧ KMap 9 w' b (l ++ [s]) ∧ Fr (fun k => k = b) w w' := by
  obtain ⟨n, D, h1, h2, h3⟩ := hm
  refine (put_map h1 (by omega) s hs l.length hl).mono ?_
  rintro e w' ⟨rfl, h⟩
  rw [(h2 s).1] at h ⊢
  rcases h with ⟨hh, rfl⟩ | ⟨hh, ho, hg⟩
  · exact ⟨rfl, ⟨n, D, h1, num_same h2 (of_decide_eq_true hh), by simp; omega⟩, .refl _ _⟩
  · exact ⟨rfl, ⟨_, _, ho, num_put h2 (h1.tidy law).isMap (of_decide_eq_false hh), by simp; omega⟩, .of_grown hg fun k e => by cases e; rfl⟩
theorem putC_any (hm : CMap w b l) (hl : l.length ≤ 140737488351232) (s : Bytes) (hs : s.length ≤ maxLen) (k : Nat) (hk : k ≤ 140737488351232) :
    Calls Tryz.prog 26 #[.map (some b), str s, .int .i64 k] w fun e w' => e = .returned (.bool (!decide (s ∈ l))) ∧ CMap w' b (l ++ [s]) ∧ Fr (fun k => k = b) w w' := by
  obtain ⟨n, D, h1, h2, h3⟩ := hm
  refine (put_map h1 (by omega) s hs k hk).mono ?_
  rintro e w' ⟨rfl, h⟩
  rw [h2 s] at h ⊢
  rcases h with ⟨hh, rfl⟩ | ⟨hh, ho, hg⟩
  · refine ⟨rfl, ⟨n, D, h1, fun t => ?_, by simp; omega⟩, .refl _ _⟩
    rw [h2 t]
    have := of_decide_eq_true hh
    by_cases e : t = s <;> simp [e, this]
  · exact ⟨rfl, ⟨_, _, ho, has_put h2 (h1.tidy law).isMap, by simp; omega⟩, .of_grown hg fun k e => by cases e; rfl⟩
end
end Go.Proofs.YtfnobccminhjpabGreat
