/- Looking through lists. -/
import Derived.Test.YtbdlgglbcaoakaaGreatSmall8
namespace Go.Proofs.YtbdlgglbcaoakaaGreat
open Go.RowKit Go.Shelf Go.Maps Go.WideMaps

/-- One cell a thing. -/
def At1 (w : World) (a : Option Addr) (vs : List Value) : Prop := ∀ i v, vs[i]? = some v → ∃ g o, a = some ⟨g, o, none⟩ ∧ w.cell? ⟨g, o + i, none⟩ = some v
def strs (l : List Bytes) : List Value := l.map str
def ints (l : List Int) : List Value := l.map (Value.int .i64)
theorem Strs.at1 {N : Nat} {w : World} {l : List Bytes} {a : Option Addr} {n c : Nat} (h : Strs N w l (.slice a n c)) : At1 w a (strs l) := by
  obtain ⟨a', c', e, _, _, h⟩ := h
  cases e
  intro i v hi
  unfold strs at hi
  rw [List.getElem?_map] at hi
  obtain ⟨x, hx, rfl⟩ := Option.map_eq_some_iff.1 hi
  obtain ⟨g, o, xs, ea, _, _, hc, hs⟩ := h i x hx
  refine ⟨g, o, ea, ?_⟩
  have := hc 0 (str x) (by rw [hs.1]; rfl)
  rw [Nat.mul_one, Nat.add_zero] at this
  exact this
theorem Moneys.at1 {N : Nat} {w : World} {l : List Int} {a : Option Addr} {n c : Nat} (h : Moneys N w l (.slice a n c)) : At1 w a (ints l) := by
  obtain ⟨a', c', e, _, _, h⟩ := h
  cases e
  intro i v hi
  unfold ints at hi
  rw [List.getElem?_map] at hi
  obtain ⟨x, hx, rfl⟩ := Option.map_eq_some_iff.1 hi
  obtain ⟨g, o, xs, ea, _, _, hc, hs⟩ := h i x hx
  refine ⟨g, o, ea, ?_⟩
  have := hc 0 (.int .i64 x) (by rw [hs]; rfl)
  rw [Nat.mul_one, Nat.add_zero] at this
  exact this
theorem At1.str {w : World} {a : Option Addr} {l : List Bytes} (h : At1 w a (strs l)) {i : Nat} (hi : i < l.length) : ∃ g o, a = some ⟨g, o, none⟩ ∧ w.cell? ⟨g, o + i, none⟩ = some (.string ⟨(l.getD i []).toArray⟩) := by
  refine h i _ ?_
  unfold strs
  rw [List.getElem?_map, List.getElem?_eq_getElem hi, List.getD_eq_getElem?_getD, List.getElem?_eq_getElem hi]
  rfl
theorem At1.int {w : World} {a : Option Addr} {l : List Int} (h : At1 w a (ints l)) {i : Nat} (hi : i < l.length) : ∃ g o, a = some ⟨g, o, none⟩ ∧ w.cell? ⟨g, o + i, none⟩ = some (.int .i64 (l.getD i 0)) := by
  refine h i _ ?_
  unfold ints
  rw [List.getElem?_map, List.getElem?_eq_getElem hi, List.getD_eq_getElem?_getD, List.getElem?_eq_getElem hi]
  rfl
theorem At1.below {w w' : World} {a : Option Addr} {vs : List Value} (h : At1 w a vs) (hb : Below w.heap.size w w') : At1 w' a vs := by
  intro i v hi
  obtain ⟨g, o, e, hc⟩ := h i v hi
  exact ⟨g, o, e, (World.cell?_of_block (hb.block g (World.block_lt_of_cell? w _ hc))).trans hc⟩
theorem take_hit {α : Type} {l : List α} {d s : α} {k : Nat} (hk : k < l.length) (he : l.getD k d = s) : s ∈ l := by
  rw [List.getD_eq_getElem?_getD, List.getElem?_eq_getElem hk] at he
  exact he ▸ List.getElem_mem hk
theorem take_step {α : Type} {l : List α} {d s : α} {k : Nat} (hk : k < l.length) (hn : s ∉ l.take k) (he : ¬ l.getD k d = s) : s ∉ l.take (k + 1) := by
  rw [List.take_add_one, List.mem_append]
  rintro (h | h)
  · exact hn h
  · rw [List.getElem?_eq_getElem hk] at h
    rw [List.getD_eq_getElem?_getD, List.getElem?_eq_getElem hk] at he
    simp at h he
    exact he h.symm

set_option maxRecDepth 100000 in
set_option maxHeartbeats 3200000 in
theorem indexS_any {w : World} {a : Option Addr} {l : List Bytes} {c : Nat} (h : At1 w a (strs l)) (hl : l.length ≤ 140737488351232) (s : Bytes) :
    Calls Tryz.prog 117 #[.slice a l.length c, str s] w fun e w' => ∃ i : Int, e = .returned (.int .i64 i) ∧ (0 ≤ i ↔ s ∈ l) ∧ w' = w := by
  have HA := hide h
  unfold str
  clear h
  go_enter Tryz.func117, Tryz.ntmps117
  go_wp2_with fail
  go_loop [8] (fun x => ∃ k : Nat, k ≤ l.length ∧ x = .int .i64 k ∧ Hid (s ∉ l.take k)) (fun x => l.length - (intOf x).toNat)
  case atStart => exact ⟨0, by omega, rfl, hide (by simp)⟩
  case round =>
    obtain ⟨k, hk, rfl, HK⟩ := hrel
    by_cases hlt : k < l.length
    · obtain ⟨g, o, rfl, kc⟩ := HA.out.str hlt
      by_cases he : l.getD k [] = s
      · have HP := hide (take_hit hlt he)
        rw [he] at kc
        clear he HK
        go_wp2_with fail
        go_ret
        exact ⟨_, rfl, ⟨fun _ => HP.out, fun _ => by omega⟩, rfl⟩
      · have HP := hide (take_step hlt HK.out he)
        generalize l.getD k [] = x at kc he
        have hbb : (s == x) = false := beq_eq_false_iff_ne.2 (fun e => he e.symm)
        clear he HK
        go_wp2_with fail
        go_round
        case rel => exact ⟨k + 1, by omega, by go_num, HP⟩
        case measure => simp [intOf]; omega
    · have HP : Hid (s ∉ l) := by
        have := HK.out
        rw [List.take_of_length_le (by omega)] at this
        exact this
      go_wp2_with fail
      go_ret
      exact ⟨_, rfl, ⟨fun h => absurd h (by omega), fun h => absurd h HP.out⟩, rfl⟩

set_option maxRecDepth 100000 in
set_option maxHeartbeats 1600000 in
theorem hasS_any {w : World} {a : Option Addr} {l : List Bytes} {c : Nat} (h : At1 w a (strs l)) (hl : l.length ≤ 140737488351232) (s : Bytes) :
    Calls Tryz.prog 103 #[.slice a l.length c, str s] w fun e w' => e = .returned (.bool (decide (s ∈ l))) ∧ w' = w := by
  have C := hide (indexS_any (c := c) h hl s)
  unfold str at *
  clear h
  go_enter Tryz.func103, Tryz.ntmps103
  go_wp2_with fail
  refine C.out.mono ?_
  rintro _ w1 ⟨i, rfl, hi, hw⟩
  subst w1
  have HI := hide hi
  clear hi C
  go_wp2_with fail
  go_ret
  exact ⟨ret_bool (decide_eq_decide.2 HI.out), rfl⟩

set_option maxRecDepth 100000 in
set_option maxHeartbeats 3200000 in
theorem indexM_any {w : World} {a : Option Addr} {l : List Int} {c : Nat} (h : At1 w a (ints l)) (hl : l.length ≤ 140737488351232) (s : Int) :
    Calls Tryz.prog 110 #[.slice a l.length c, .int .i64 s] w fun e w' => ∃ i : Int, e = .returned (.int .i64 i) ∧ (0 ≤ i ↔ s ∈ l) ∧ w' = w := by
  have HA := hide h
  clear h
  go_enter Tryz.func110, Tryz.ntmps110
  go_wp2_with fail
  go_loop [8] (fun x => ∃ k : Nat, k ≤ l.length ∧ x = .int .i64 k ∧ Hid (s ∉ l.take k)) (fun x => l.length - (intOf x).toNat)
  case atStart => exact ⟨0, by omega, rfl, hide (by simp)⟩
  case round =>
    obtain ⟨k, hk, rfl, HK⟩ := hrel
    by_cases hlt : k < l.length
    · obtain ⟨g, o, rfl, kc⟩ := HA.out.int hlt
      by_cases he : l.getD k 0 = s
      · have HP := hide (take_hit hlt he)
        rw [he] at kc
        clear he HK
        go_wp2_with fail
        go_ret
        exact ⟨_, rfl, ⟨fun _ => HP.out, fun _ => by omega⟩, rfl⟩
      · have HP := hide (take_step hlt HK.out he)
        generalize l.getD k 0 = x at kc he
        have hbb : (s == x) = false := beq_eq_false_iff_ne.2 (fun e => he e.symm)
        clear he HK
        go_wp2_with fail
        go_round
        case rel => exact ⟨k + 1, by omega, by go_num, HP⟩
        case measure => simp [intOf]; omega
    · have HP : Hid (s ∉ l) := by
        have := HK.out
        rw [List.take_of_length_le (by omega)] at this
        exact this
      go_wp2_with fail
      go_ret
      exact ⟨_, rfl, ⟨fun h => absurd h (by omega), fun h => absurd h HP.out⟩, rfl⟩

set_option maxRecDepth 100000 in
set_option maxHeartbeats 1600000 in
theorem hasM_any {w : World} {a : Option Addr} {l : List Int} {c : Nat} (h : At1 w a (ints l)) (hl : l.length ≤ 140737488351232) (s : Int) :
    Calls Tryz.prog 97 #[.slice a l.length c, .int .i64 s] w fun e w' => e = .returned (.bool (decide (s ∈ l))) ∧ w' = w := by
  have C := hide (indexM_any (c := c) h hl s)
  clear h
  go_enter Tryz.func97, Tryz.ntmps97
  go_wp2_with fail
  refine C.out.mono ?_
  rintro _ w1 ⟨i, rfl, hi, hw⟩
  subst w1
  have HI := hide hi
  clear hi C
  go_wp2_with fail
  go_ret
  exact ⟨ret_bool (decide_eq_decide.2 HI.out), rfl⟩

set_option maxRecDepth 100000 in
set_option maxHeartbeats 3200000 in
theorem indexI_any {w : World} {a : Option Addr} {l : List Int} {c : Nat} (h : At1 w a (ints l)) (hl : l.length ≤ 140737488351232) (s : Int) :
    Calls Tryz.prog 88 #[.slice a l.length c, .int .i64 s] w fun e w' => ∃ i : Int, e = .returned (.int .i64 i) ∧ (0 ≤ i ↔ s ∈ l) ∧ w' = w := by
  have HA := hide h
  clear h
  go_enter Tryz.func88, Tryz.ntmps88
  go_wp2_with fail
  go_loop [8] (fun x => ∃ k : Nat, k ≤ l.length ∧ x = .int .i64 k ∧ Hid (s ∉ l.take k)) (fun x => l.length - (intOf x).toNat)
  case atStart => exact ⟨0, by omega, rfl, hide (by simp)⟩
  case round =>
    obtain ⟨k, hk, rfl, HK⟩ := hrel
    by_cases hlt : k < l.length
    · obtain ⟨g, o, rfl, kc⟩ := HA.out.int hlt
      by_cases he : l.getD k 0 = s
      · have HP := hide (take_hit hlt he)
        rw [he] at kc
        clear he HK
        go_wp2_with fail
        go_ret
        exact ⟨_, rfl, ⟨fun _ => HP.out, fun _ => by omega⟩, rfl⟩
      · have HP := hide (take_step hlt HK.out he)
        generalize l.getD k 0 = x at kc he
        have hbb : (s == x) = false := beq_eq_false_iff_ne.2 (fun e => he e.symm)
        clear he HK
        go_wp2_with fail
        go_round
        case rel => exact ⟨k + 1, by omega, by go_num, HP⟩
        case measure => simp [intOf]; omega
    · have HP : Hid (s ∉ l) := by
        have := HK.out
        rw [List.take_of_length_le (by omega)] at this
        exact this
      go_wp2_with fail
      go_ret
      exact ⟨_, rfl, ⟨fun h => absurd h (by omega), fun h => absurd h HP.out⟩, rfl⟩

set_option maxRecDepth 100000 in
set_option maxHeartbeats 1600000 in
theorem hasI_any {w : World} {a : Option Addr} {l : List Int} {c : Nat} (h : At1 w a (ints l)) (hl : l.length ≤ 140737488351232) (s : Int) :
    Calls Tryz.prog 102 #[.slice a l.length c, .int .i64 s] w fun e w' => e = .returned (.bool (decide (s ∈ l))) ∧ w' = w := by
  have C := hide (indexI_any (c := c) h hl s)
  clear h
  go_enter Tryz.func102, Tryz.ntmps102
  go_wp2_with fail
  refine C.out.mono ?_
  rintro _ w1 ⟨i, rfl, hi, hw⟩
  subst w1
  have HI := hide hi
  clear hi C
  go_wp2_with fail
  go_ret
  exact ⟨ret_bool (decide_eq_decide.2 HI.out), rfl⟩

set_option maxRecDepth 100000 in
set_option maxHeartbeats 3200000 in
theorem equalS_any {w : World} {a b : Option Addr} {l m : List Bytes} {c d : Nat} (ha : At1 w a (strs l)) (hb : At1 w b (strs m)) (hl : l.length ≤ 140737488351232) :
    Calls Tryz.prog 99 #[.slice a l.length c, .slice b m.length d] w fun e w' => e = .returned (.bool (decide (l = m))) ∧ ∃ q, w' = w.drewN q := by
  have HA := hide ha
  have HB := hide hb
  clear ha hb
  by_cases he : l.length = m.length
  · have HE := hide he
    rw [← he]
    clear he
    go_enter Tryz.func99, Tryz.ntmps99
    go_wp2_with fail
    go_loopw [13] (fun x wr => ∃ k : Nat, k ≤ l.length ∧ x = .int .i64 k ∧ Hid (l.take k = m.take k) ∧ Hid (∃ q, wr = w.drewN q)) (fun x _ => l.length - (intOf x).toNat)
    case atStart => exact ⟨0, by omega, rfl, hide (by simp), hide ⟨0, rfl⟩⟩
    case round =>
      obtain ⟨k, hk, rfl, HK, HW⟩ := hrel
      by_cases hlt : k < l.length
      · obtain ⟨g, o, rfl, kc⟩ := HA.out.str hlt
        obtain ⟨g2, o2, rfl, kc2⟩ := HB.out.str (i := k) (by rw [← HE.out]; exact hlt)
        have kd : wr.cell? ⟨g, o + k, none⟩ = some (.string ⟨(l.getD k []).toArray⟩) := by obtain ⟨q, rfl⟩ := HW.out; exact kc
        have kd2 : wr.cell? ⟨g2, o2 + k, none⟩ = some (.string ⟨(m.getD k []).toArray⟩) := by obtain ⟨q, rfl⟩ := HW.out; exact kc2
        have HT : Hid (l.take (k + 1) = l.take k ++ [l.getD k []]) := by show _ = _; rw [List.take_add_one, List.getD_eq_getElem?_getD, List.getElem?_eq_getElem hlt]; rfl
        have HT2 : Hid (m.take (k + 1) = m.take k ++ [m.getD k []]) := by show _ = _; rw [List.take_add_one, List.getD_eq_getElem?_getD, List.getElem?_eq_getElem (by rw [← HE.out]; exact hlt)]; rfl
        have HNE : Hid (¬ l.getD k [] = m.getD k [] → ¬ l = m) := hide (fun h e => h (by rw [e]))
        clear kc kc2
        by_cases hs : l.getD k [] = m.getD k []
        · rw [← hs] at kd2 HT2
          clear hs HNE
          generalize l.getD k [] = x at kd kd2 HT HT2
          go_wp2_with fail
          go_quiet (fail)
          go_wp2_with fail
          go_roundw
          case rel => exact ⟨k + 1, by omega, by go_num, hide (by rw [HT.out, HT2.out, HK.out]), hide (by obtain ⟨q, rfl⟩ := HW.out; exact ⟨_, World.drewN_drewN _ _ _⟩)⟩
          case measure => simp [intOf]; omega
        · have HF := hide (HNE.out hs)
          generalize l.getD k [] = x at kd hs HT
          generalize m.getD k [] = y at kd2 hs HT2
          have hbb : (x == y) = false := beq_eq_false_iff_ne.2 hs
          clear hs HNE
          go_wp2_with fail
          go_quiet (fail)
          go_wp2_with fail
          go_ret
          exact ⟨ret_bool (by rw [decide_eq_false HF.out]), by obtain ⟨q, rfl⟩ := HW.out; exact ⟨_, World.drewN_drewN _ _ _⟩⟩
      · have HF : Hid (l = m) := by
          have := HK.out
          rw [List.take_of_length_le (by omega), List.take_of_length_le (by have := HE.out; omega)] at this
          exact this
        go_wp2_with fail
        go_ret
        exact ⟨ret_bool (by rw [decide_eq_true HF.out]), HW.out⟩
  · have HF : Hid (¬ l = m) := hide (fun e => he (by rw [e]))
    generalize l.length = x at *
    generalize m.length = y at *
    have hbb : ¬ ((x : Int) = y) := by omega
    go_enter Tryz.func99, Tryz.ntmps99
    go_wp2_with fail
    go_ret
    exact ⟨ret_bool (by rw [decide_eq_false HF.out]), 0, rfl⟩
end Go.Proofs.YtbdlgglbcaoakaaGreat
