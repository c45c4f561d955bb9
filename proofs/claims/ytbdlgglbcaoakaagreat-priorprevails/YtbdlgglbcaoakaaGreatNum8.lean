/- Of each key of a list's things the number of the first that has it. -/
import Derived.Test.YtbdlgglbcaoakaaGreatPut8
namespace Go.Proofs.YtbdlgglbcaoakaaGreat
open Go.RowKit Go.Shelf Go.Maps Go.WideMaps

theorem run_makeMapN (n : Nat) (w : World) : (Instr.makeMap 67 (some (.int .i64 n))).run Tryz.prog w = .ok (.map (some w.heap.size)) (w.alloc (.map #[] 0)) := by
  unfold Instr.makeMap
  simp [asInt, asIntOf]
theorem run_makeMapE (n : Nat) (w : World) : (Instr.makeMap 84 (some (.int .i64 n))).run Tryz.prog w = .ok (.map (some w.heap.size)) (w.alloc (.map #[] 0)) := by
  unfold Instr.makeMap
  simp [asInt, asIntOf]
theorem KMap.made (kt : Nat) (w : World) : KMap kt (w.alloc (.map #[] 0)) w.heap.size [] := ⟨0, _, World.ownsMap_made w _ _ _, num_nil, Nat.le_refl _⟩
theorem take_snoc {α : Type} {l : List α} {i : Nat} {x : α} (hx : l[i]? = some x) : l.take (i + 1) = l.take i ++ [x] := by rw [List.take_add_one, hx]; rfl

set_option maxHeartbeats 800000 in
theorem itself_any (s : ByteArray) (w : World) : Calls Tryz.prog 48 #[.string s] w fun e w' => e = .returned (.string s) ∧ Below w.heap.size w w' := by
  go_enter Tryz.func48, Tryz.ntmps48
  go_wp2_with fail
  go_ret
  exact ⟨rfl, Below.refl _ _⟩
set_option maxHeartbeats 800000 in
theorem itselfE_any (s t : ByteArray) (w : World) : Calls Tryz.prog 58 #[.agg #[.string s, .string t]] w fun e w' => e = .returned (.agg #[.string s, .string t]) ∧ Below w.heap.size w w' := by
  go_enter Tryz.func58, Tryz.ntmps58
  go_wp2_with fail
  simp [bodyPost, results, Tryz.results58, go_sem]
  exact ((Below.refl _ w).alloc (Nat.le_refl _) _).alloc (by simp) _
set_option maxHeartbeats 800000 in
theorem memberName_any (s0 : ByteArray) (s1 : ByteArray) (w : World) : Calls Tryz.prog 50 #[.agg #[.string s0, .string s1]] w fun e w' => e = .returned (.string s0) ∧ Below w.heap.size w w' := by
  go_enter Tryz.func50, Tryz.ntmps50
  go_wp2_with fail
  go_ret
  exact ⟨rfl, (Below.refl _ _).alloc (Nat.le_refl _) _⟩
set_option maxHeartbeats 800000 in
theorem predName_any (s0 : ByteArray) (n1 : Int) (a2 : Option Addr) (m2 c2 : Nat) (a3 : Option Addr) (m3 c3 : Nat) (w : World) : Calls Tryz.prog 52 #[.agg #[.string s0, .int .i64 n1, .slice a2 m2 c2, .slice a3 m3 c3]] w fun e w' => e = .returned (.string s0) ∧ Below w.heap.size w w' := by
  go_enter Tryz.func52, Tryz.ntmps52
  go_wp2_with fail
  go_ret
  exact ⟨rfl, (Below.refl _ _).alloc (Nat.le_refl _) _⟩
set_option maxHeartbeats 800000 in
theorem sourceName_any (s0 : ByteArray) (n1 : Int) (w : World) : Calls Tryz.prog 54 #[.agg #[.string s0, .int .i64 n1]] w fun e w' => e = .returned (.string s0) ∧ Below w.heap.size w w' := by
  go_enter Tryz.func54, Tryz.ntmps54
  go_wp2_with fail
  go_ret
  exact ⟨rfl, (Below.refl _ _).alloc (Nat.le_refl _) _⟩
set_option maxHeartbeats 800000 in
theorem ruleName_any (s0 : ByteArray) (s1 : ByteArray) (n2 : Int) (n3 : Int) (a4 : Option Addr) (m4 c4 : Nat) (n5 : Int) (b6 : Bool) (s7 : ByteArray) (a8 : Option Addr) (m8 c8 : Nat) (b9 : Bool) (n10 : Int) (w : World) : Calls Tryz.prog 56 #[.agg #[.string s0, .string s1, .int .i64 n2, .int .i64 n3, .slice a4 m4 c4, .int .i64 n5, .bool b6, .string s7, .slice a8 m8 c8, .bool b9, .int .i64 n10]] w fun e w' => e = .returned (.string s0) ∧ Below w.heap.size w w' := by
  go_enter Tryz.func56, Tryz.ntmps56
  go_wp2_with fail
  go_ret
  exact ⟨rfl, (Below.refl _ _).alloc (Nat.le_refl _) _⟩
set_option maxHeartbeats 800000 in
theorem totalName_any (s0 : ByteArray) (s1 : ByteArray) (a2 : Option Addr) (m2 c2 : Nat) (b3 : Bool) (n4 : Int) (w : World) : Calls Tryz.prog 60 #[.agg #[.string s0, .string s1, .slice a2 m2 c2, .bool b3, .int .i64 n4]] w fun e w' => e = .returned (.string s0) ∧ Below w.heap.size w w' := by
  go_enter Tryz.func60, Tryz.ntmps60
  go_wp2_with fail
  go_ret
  exact ⟨rfl, (Below.refl _ _).alloc (Nat.le_refl _) _⟩

set_option maxRecDepth 100000 in
set_option maxHeartbeats 3200000 in
theorem numK_any {N : Nat} {w : World} {l : List Bytes} {a : Option Addr} {c : Nat} (h : RR N 1 cS w l (.slice a l.length c)) (hN : N ≤ w.heap.size) (hl : l.length ≤ 140737488351232) :
    Calls Tryz.prog 47 #[.slice a l.length c, .func (.func 48) #[] #[]] w fun e w' => e = .returned (.map (some w.heap.size)) ∧ KMap 9 w' w.heap.size (l.map id) ∧ Below w.heap.size w w' := by
  have H := hide h
  have HN := hide hN
  have hmk := run_makeMapN l.length
  clear h hN
  go_enter Tryz.func47, Tryz.ntmps47
  go_wp2_with fail
  go_loopw [13] (fun x wr => ∃ k : Nat, k ≤ l.length ∧ x = .int .i64 k ∧ Hid (KMap 9 wr w.heap.size ((l.take k).map id)) ∧ Hid (Below w.heap.size w wr)) (fun x _ => l.length - (intOf x).toNat)
  case atStart => exact ⟨0, by omega, rfl, hide (KMap.made _ _), hide ((Below.refl _ _).alloc (Nat.le_refl _) _)⟩
  case round =>
    obtain ⟨k, hk, rfl, HM, HB⟩ := hrel
    clear hmk
    by_cases hlt : k < l.length
    · obtain ⟨x, hx⟩ : ∃ x, l[k]? = some x := ⟨l[k], List.getElem?_eq_getElem hlt⟩
      have HT := hide (take_snoc hx)
      have hr := RR.keep H.out (w' := wr) (fun g hg => HB.out.block g (by have := HN.out; omega)) (fun _ _ h => h)
      obtain ⟨g, o, rfl, hg, c0, hs⟩ := at_S hr hx
      have HG : Hid (g < wr.heap.size) := by have := HN.out; have := HB.out.size; exact hide (by omega)
      clear hr hx
      unfold str at *
      have hlk : ((l.take k).map id).length = k := by simp; omega
      have CI := hide (fun w => itself_any ⟨x.toArray⟩ w)
      go_wp2_with (go_at_call 48; refine (CI.out _).mono ?_; rintro _ w2 ⟨rfl, hb2⟩)
      have hB0 : Below wr.heap.size wr wr := Below.refl _ _
      have hBs := hB0.size
      have HB2 := hide (hB0.trans (hb2.mono hBs))
      have HM2 := hide (HM.out.keep (HB2.out.block _ HM.out.lt))
      have CP := hide (putS_any HM2.out (by rw [hlk]; omega) x hs)
      rw [hlk] at CP
      clear hb2 hB0 hBs CI
      unfold str at CP
      refine CP.out.mono ?_
      rintro _ w3 ⟨rfl, hm3, hf3⟩
      have HM3 := hide hm3
      have HB3 := hide ((HB.out.trans (HB2.out.mono HB.out.size)).trans (hf3.below (n := w.heap.size) fun j hj => ⟨Nat.lt_of_lt_of_le hj (Nat.le_trans HB.out.size HB2.out.size), by show ¬ j = w.heap.size; omega⟩))
      clear hm3 hf3 CP
      go_wp2_with fail
      go_roundw
      case rel => exact ⟨k + 1, by omega, by go_num, hide (by rw [HT.out, List.map_append]; exact HM3.out), HB3⟩
      case measure => simp [intOf]; omega
    · have hk' : k = l.length := by omega
      subst hk'
      go_wp2_with fail
      go_ret
      refine ⟨rfl, ?_, HB.out⟩
      have := HM.out
      rw [List.take_of_length_le (Nat.le_refl _)] at this
      exact this

set_option maxRecDepth 100000 in
set_option maxHeartbeats 3200000 in
theorem numM_any {N : Nat} {w : World} {l : List (Bytes × Bytes)} {a : Option Addr} {c : Nat} (h : RR N 2 cM w l (.slice a l.length c)) (hN : N ≤ w.heap.size) (hl : l.length ≤ 140737488351232) :
    Calls Tryz.prog 49 #[.slice a l.length c, .func (.func 50) #[] #[]] w fun e w' => e = .returned (.map (some w.heap.size)) ∧ KMap 9 w' w.heap.size (l.map (·.1)) ∧ Below w.heap.size w w' := by
  have H := hide h
  have HN := hide hN
  have hmk := run_makeMapN l.length
  clear h hN
  go_enter Tryz.func49, Tryz.ntmps49
  go_wp2_with fail
  go_loopw [13] (fun x wr => ∃ k : Nat, k ≤ l.length ∧ x = .int .i64 k ∧ Hid (KMap 9 wr w.heap.size ((l.take k).map (·.1))) ∧ Hid (Below w.heap.size w wr)) (fun x _ => l.length - (intOf x).toNat)
  case atStart => exact ⟨0, by omega, rfl, hide (KMap.made _ _), hide ((Below.refl _ _).alloc (Nat.le_refl _) _)⟩
  case round =>
    obtain ⟨k, hk, rfl, HM, HB⟩ := hrel
    clear hmk
    by_cases hlt : k < l.length
    · obtain ⟨x, hx⟩ : ∃ x, l[k]? = some x := ⟨l[k], List.getElem?_eq_getElem hlt⟩
      have HT := hide (take_snoc hx)
      have hr := RR.keep H.out (w' := wr) (fun g hg => HB.out.block g (by have := HN.out; omega)) (fun _ _ h => h)
      obtain ⟨g, o, rfl, hg, c0, c1, hs, hs2⟩ := at_M hr hx
      have HG : Hid (g < wr.heap.size) := by have := HN.out; have := HB.out.size; exact hide (by omega)
      clear hr hx
      unfold str at *
      have hlk : ((l.take k).map (·.1)).length = k := by simp; omega
      have CI := hide (fun w => memberName_any ⟨x.1.toArray⟩ ⟨x.2.toArray⟩ w)
      go_wp2_with (go_at_call 50; refine (CI.out _).mono ?_; rintro _ w2 ⟨rfl, hb2⟩)
      have hB0 : Below wr.heap.size wr (wr.alloc (.cells #[.string ⟨x.1.toArray⟩, .string ⟨x.2.toArray⟩] 92)) := (Below.refl _ _).alloc (Nat.le_refl _) _
      have hBs := hB0.size
      have HB2 := hide (hB0.trans (hb2.mono hBs))
      have HM2 := hide (HM.out.keep (HB2.out.block _ HM.out.lt))
      have CP := hide (putS_any HM2.out (by rw [hlk]; omega) x.1 hs)
      rw [hlk] at CP
      clear hb2 hB0 hBs CI
      unfold str at CP
      refine CP.out.mono ?_
      rintro _ w3 ⟨rfl, hm3, hf3⟩
      have HM3 := hide hm3
      have HB3 := hide ((HB.out.trans (HB2.out.mono HB.out.size)).trans (hf3.below (n := w.heap.size) fun j hj => ⟨Nat.lt_of_lt_of_le hj (Nat.le_trans HB.out.size HB2.out.size), by show ¬ j = w.heap.size; omega⟩))
      clear hm3 hf3 CP
      go_wp2_with fail
      go_roundw
      case rel => exact ⟨k + 1, by omega, by go_num, hide (by rw [HT.out, List.map_append]; exact HM3.out), HB3⟩
      case measure => simp [intOf]; omega
    · have hk' : k = l.length := by omega
      subst hk'
      go_wp2_with fail
      go_ret
      refine ⟨rfl, ?_, HB.out⟩
      have := HM.out
      rw [List.take_of_length_le (Nat.le_refl _)] at this
      exact this

set_option maxRecDepth 100000 in
set_option maxHeartbeats 3200000 in
theorem numP_any {N : Nat} {w : World} {l : List PredM} {a : Option Addr} {c : Nat} (h : RR N 4 (cPred N) w l (.slice a l.length c)) (hN : N ≤ w.heap.size) (hl : l.length ≤ 140737488351232) :
    Calls Tryz.prog 51 #[.slice a l.length c, .func (.func 52) #[] #[]] w fun e w' => e = .returned (.map (some w.heap.size)) ∧ KMap 9 w' w.heap.size (l.map (·.name)) ∧ Below w.heap.size w w' := by
  have H := hide h
  have HN := hide hN
  have hmk := run_makeMapN l.length
  clear h hN
  go_enter Tryz.func51, Tryz.ntmps51
  go_wp2_with fail
  go_loopw [13] (fun x wr => ∃ k : Nat, k ≤ l.length ∧ x = .int .i64 k ∧ Hid (KMap 9 wr w.heap.size ((l.take k).map (·.name))) ∧ Hid (Below w.heap.size w wr)) (fun x _ => l.length - (intOf x).toNat)
  case atStart => exact ⟨0, by omega, rfl, hide (KMap.made _ _), hide ((Below.refl _ _).alloc (Nat.le_refl _) _)⟩
  case round =>
    obtain ⟨k, hk, rfl, HM, HB⟩ := hrel
    clear hmk
    by_cases hlt : k < l.length
    · obtain ⟨x, hx⟩ : ∃ x, l[k]? = some x := ⟨l[k], List.getElem?_eq_getElem hlt⟩
      have HT := hide (take_snoc hx)
      have hr := RR.keep H.out (w' := wr) (fun g hg => HB.out.block g (by have := HN.out; omega)) (fun _ _ h => h.keep (fun g hg => HB.out.block g (by have := HN.out; omega)))
      obtain ⟨g, o, ka, kc, va, vc, rfl, hg, c0, c1, c2, c3, hs, -, -⟩ := at_P hr hx
      have HG : Hid (g < wr.heap.size) := by have := HN.out; have := HB.out.size; exact hide (by omega)
      clear hr hx
      unfold str at *
      have hlk : ((l.take k).map (·.name)).length = k := by simp; omega
      have CI := hide (fun w => predName_any ⟨x.name.toArray⟩ x.sort ka x.kinds.length kc va x.values.length vc w)
      go_wp2_with (go_at_call 52; refine (CI.out _).mono ?_; rintro _ w2 ⟨rfl, hb2⟩)
      have hB0 : Below wr.heap.size wr (wr.alloc (.cells #[.string ⟨x.name.toArray⟩, .int .i64 x.sort, .slice ka x.kinds.length kc, .slice va x.values.length vc] 119)) := (Below.refl _ _).alloc (Nat.le_refl _) _
      have hBs := hB0.size
      have HB2 := hide (hB0.trans (hb2.mono hBs))
      have HM2 := hide (HM.out.keep (HB2.out.block _ HM.out.lt))
      have CP := hide (putS_any HM2.out (by rw [hlk]; omega) x.name hs)
      rw [hlk] at CP
      clear hb2 hB0 hBs CI
      unfold str at CP
      refine CP.out.mono ?_
      rintro _ w3 ⟨rfl, hm3, hf3⟩
      have HM3 := hide hm3
      have HB3 := hide ((HB.out.trans (HB2.out.mono HB.out.size)).trans (hf3.below (n := w.heap.size) fun j hj => ⟨Nat.lt_of_lt_of_le hj (Nat.le_trans HB.out.size HB2.out.size), by show ¬ j = w.heap.size; omega⟩))
      clear hm3 hf3 CP
      go_wp2_with fail
      go_roundw
      case rel => exact ⟨k + 1, by omega, by go_num, hide (by rw [HT.out, List.map_append]; exact HM3.out), HB3⟩
      case measure => simp [intOf]; omega
    · have hk' : k = l.length := by omega
      subst hk'
      go_wp2_with fail
      go_ret
      refine ⟨rfl, ?_, HB.out⟩
      have := HM.out
      rw [List.take_of_length_le (Nat.le_refl _)] at this
      exact this

set_option maxRecDepth 100000 in
set_option maxHeartbeats 3200000 in
theorem numS_any {N : Nat} {w : World} {l : List (Bytes × Int)} {a : Option Addr} {c : Nat} (h : RR N 2 cSrc w l (.slice a l.length c)) (hN : N ≤ w.heap.size) (hl : l.length ≤ 140737488351232) :
    Calls Tryz.prog 53 #[.slice a l.length c, .func (.func 54) #[] #[]] w fun e w' => e = .returned (.map (some w.heap.size)) ∧ KMap 9 w' w.heap.size (l.map (·.1)) ∧ Below w.heap.size w w' := by
  have H := hide h
  have HN := hide hN
  have hmk := run_makeMapN l.length
  clear h hN
  go_enter Tryz.func53, Tryz.ntmps53
  go_wp2_with fail
  go_loopw [13] (fun x wr => ∃ k : Nat, k ≤ l.length ∧ x = .int .i64 k ∧ Hid (KMap 9 wr w.heap.size ((l.take k).map (·.1))) ∧ Hid (Below w.heap.size w wr)) (fun x _ => l.length - (intOf x).toNat)
  case atStart => exact ⟨0, by omega, rfl, hide (KMap.made _ _), hide ((Below.refl _ _).alloc (Nat.le_refl _) _)⟩
  case round =>
    obtain ⟨k, hk, rfl, HM, HB⟩ := hrel
    clear hmk
    by_cases hlt : k < l.length
    · obtain ⟨x, hx⟩ : ∃ x, l[k]? = some x := ⟨l[k], List.getElem?_eq_getElem hlt⟩
      have HT := hide (take_snoc hx)
      have hr := RR.keep H.out (w' := wr) (fun g hg => HB.out.block g (by have := HN.out; omega)) (fun _ _ h => h)
      obtain ⟨g, o, rfl, hg, c0, c1, hs⟩ := at_Src hr hx
      have HG : Hid (g < wr.heap.size) := by have := HN.out; have := HB.out.size; exact hide (by omega)
      clear hr hx
      unfold str at *
      have hlk : ((l.take k).map (·.1)).length = k := by simp; omega
      have CI := hide (fun w => sourceName_any ⟨x.1.toArray⟩ x.2 w)
      go_wp2_with (go_at_call 54; refine (CI.out _).mono ?_; rintro _ w2 ⟨rfl, hb2⟩)
      have hB0 : Below wr.heap.size wr (wr.alloc (.cells #[.string ⟨x.1.toArray⟩, .int .i64 x.2] 73)) := (Below.refl _ _).alloc (Nat.le_refl _) _
      have hBs := hB0.size
      have HB2 := hide (hB0.trans (hb2.mono hBs))
      have HM2 := hide (HM.out.keep (HB2.out.block _ HM.out.lt))
      have CP := hide (putS_any HM2.out (by rw [hlk]; omega) x.1 hs)
      rw [hlk] at CP
      clear hb2 hB0 hBs CI
      unfold str at CP
      refine CP.out.mono ?_
      rintro _ w3 ⟨rfl, hm3, hf3⟩
      have HM3 := hide hm3
      have HB3 := hide ((HB.out.trans (HB2.out.mono HB.out.size)).trans (hf3.below (n := w.heap.size) fun j hj => ⟨Nat.lt_of_lt_of_le hj (Nat.le_trans HB.out.size HB2.out.size), by show ¬ j = w.heap.size; omega⟩))
      clear hm3 hf3 CP
      go_wp2_with fail
      go_roundw
      case rel => exact ⟨k + 1, by omega, by go_num, hide (by rw [HT.out, List.map_append]; exact HM3.out), HB3⟩
      case measure => simp [intOf]; omega
    · have hk' : k = l.length := by omega
      subst hk'
      go_wp2_with fail
      go_ret
      refine ⟨rfl, ?_, HB.out⟩
      have := HM.out
      rw [List.take_of_length_le (Nat.le_refl _)] at this
      exact this

set_option maxRecDepth 100000 in
set_option maxHeartbeats 3200000 in
theorem numR_any {N : Nat} {w : World} {l : List RuleM} {a : Option Addr} {c : Nat} (h : RR N 11 (cRule N) w l (.slice a l.length c)) (hN : N ≤ w.heap.size) (hl : l.length ≤ 140737488351232) :
    Calls Tryz.prog 55 #[.slice a l.length c, .func (.func 56) #[] #[]] w fun e w' => e = .returned (.map (some w.heap.size)) ∧ KMap 9 w' w.heap.size (l.map (·.name)) ∧ Below w.heap.size w w' := by
  have H := hide h
  have HN := hide hN
  have hmk := run_makeMapN l.length
  clear h hN
  go_enter Tryz.func55, Tryz.ntmps55
  go_wp2_with fail
  go_loopw [13] (fun x wr => ∃ k : Nat, k ≤ l.length ∧ x = .int .i64 k ∧ Hid (KMap 9 wr w.heap.size ((l.take k).map (·.name))) ∧ Hid (Below w.heap.size w wr)) (fun x _ => l.length - (intOf x).toNat)
  case atStart => exact ⟨0, by omega, rfl, hide (KMap.made _ _), hide ((Below.refl _ _).alloc (Nat.le_refl _) _)⟩
  case round =>
    obtain ⟨k, hk, rfl, HM, HB⟩ := hrel
    clear hmk
    by_cases hlt : k < l.length
    · obtain ⟨x, hx⟩ : ∃ x, l[k]? = some x := ⟨l[k], List.getElem?_eq_getElem hlt⟩
      have HT := hide (take_snoc hx)
      have hr := RR.keep H.out (w' := wr) (fun g hg => HB.out.block g (by have := HN.out; omega)) (fun _ _ h => h.keep (fun g hg => HB.out.block g (by have := HN.out; omega)))
      obtain ⟨g, o, ba, bc, ka, kc, rfl, hg, c0, c1, c2, c3, c4, c5, c6, c7, c8, c9, c10, hs, -, -, -, -⟩ := at_R hr hx
      have HG : Hid (g < wr.heap.size) := by have := HN.out; have := HB.out.size; exact hide (by omega)
      clear hr hx
      unfold str at *
      have hlk : ((l.take k).map (·.name)).length = k := by simp; omega
      have CI := hide (fun w => ruleName_any ⟨x.name.toArray⟩ ⟨x.source.toArray⟩ x.day x.till ba x.body.length bc x.arrow x.head.neg ⟨x.head.pred.toArray⟩ ka x.head.args.length kc x.head.hasValue x.head.value w)
      go_wp2_with (go_at_call 56; refine (CI.out _).mono ?_; rintro _ w2 ⟨rfl, hb2⟩)
      have hB0 : Below wr.heap.size wr (wr.alloc (.cells #[.string ⟨x.name.toArray⟩, .string ⟨x.source.toArray⟩, .int .i64 x.day, .int .i64 x.till, .slice ba x.body.length bc, .int .i64 x.arrow, .bool x.head.neg, .string ⟨x.head.pred.toArray⟩, .slice ka x.head.args.length kc, .bool x.head.hasValue, .int .i64 x.head.value] 49)) := (Below.refl _ _).alloc (Nat.le_refl _) _
      have hBs := hB0.size
      have HB2 := hide (hB0.trans (hb2.mono hBs))
      have HM2 := hide (HM.out.keep (HB2.out.block _ HM.out.lt))
      have CP := hide (putS_any HM2.out (by rw [hlk]; omega) x.name hs)
      rw [hlk] at CP
      clear hb2 hB0 hBs CI
      unfold str at CP
      refine CP.out.mono ?_
      rintro _ w3 ⟨rfl, hm3, hf3⟩
      have HM3 := hide hm3
      have HB3 := hide ((HB.out.trans (HB2.out.mono HB.out.size)).trans (hf3.below (n := w.heap.size) fun j hj => ⟨Nat.lt_of_lt_of_le hj (Nat.le_trans HB.out.size HB2.out.size), by show ¬ j = w.heap.size; omega⟩))
      clear hm3 hf3 CP
      go_wp2_with fail
      go_roundw
      case rel => exact ⟨k + 1, by omega, by go_num, hide (by rw [HT.out, List.map_append]; exact HM3.out), HB3⟩
      case measure => simp [intOf]; omega
    · have hk' : k = l.length := by omega
      subst hk'
      go_wp2_with fail
      go_ret
      refine ⟨rfl, ?_, HB.out⟩
      have := HM.out
      rw [List.take_of_length_le (Nat.le_refl _)] at this
      exact this

set_option maxRecDepth 100000 in
set_option maxHeartbeats 3200000 in
theorem numT_any {N : Nat} {w : World} {l : List TotalM} {a : Option Addr} {c : Nat} (h : RR N 5 (cTotal N) w l (.slice a l.length c)) (hN : N ≤ w.heap.size) (hl : l.length ≤ 140737488351232) :
    Calls Tryz.prog 59 #[.slice a l.length c, .func (.func 60) #[] #[]] w fun e w' => e = .returned (.map (some w.heap.size)) ∧ KMap 9 w' w.heap.size (l.map (·.name)) ∧ Below w.heap.size w w' := by
  have H := hide h
  have HN := hide hN
  have hmk := run_makeMapN l.length
  clear h hN
  go_enter Tryz.func59, Tryz.ntmps59
  go_wp2_with fail
  go_loopw [13] (fun x wr => ∃ k : Nat, k ≤ l.length ∧ x = .int .i64 k ∧ Hid (KMap 9 wr w.heap.size ((l.take k).map (·.name))) ∧ Hid (Below w.heap.size w wr)) (fun x _ => l.length - (intOf x).toNat)
  case atStart => exact ⟨0, by omega, rfl, hide (KMap.made _ _), hide ((Below.refl _ _).alloc (Nat.le_refl _) _)⟩
  case round =>
    obtain ⟨k, hk, rfl, HM, HB⟩ := hrel
    clear hmk
    by_cases hlt : k < l.length
    · obtain ⟨x, hx⟩ : ∃ x, l[k]? = some x := ⟨l[k], List.getElem?_eq_getElem hlt⟩
      have HT := hide (take_snoc hx)
      have hr := RR.keep H.out (w' := wr) (fun g hg => HB.out.block g (by have := HN.out; omega)) (fun _ _ h => h.keep (fun g hg => HB.out.block g (by have := HN.out; omega)))
      obtain ⟨g, o, ka, kc, rfl, hg, c0, c1, c2, c3, c4, hs, -, -⟩ := at_T hr hx
      have HG : Hid (g < wr.heap.size) := by have := HN.out; have := HB.out.size; exact hide (by omega)
      clear hr hx
      unfold str at *
      have hlk : ((l.take k).map (·.name)).length = k := by simp; omega
      have CI := hide (fun w => totalName_any ⟨x.name.toArray⟩ ⟨x.kind.toArray⟩ ka x.preds.length kc x.hasCap x.cap w)
      go_wp2_with (go_at_call 60; refine (CI.out _).mono ?_; rintro _ w2 ⟨rfl, hb2⟩)
      have hB0 : Below wr.heap.size wr (wr.alloc (.cells #[.string ⟨x.name.toArray⟩, .string ⟨x.kind.toArray⟩, .slice ka x.preds.length kc, .bool x.hasCap, .int .i64 x.cap] 129)) := (Below.refl _ _).alloc (Nat.le_refl _) _
      have hBs := hB0.size
      have HB2 := hide (hB0.trans (hb2.mono hBs))
      have HM2 := hide (HM.out.keep (HB2.out.block _ HM.out.lt))
      have CP := hide (putS_any HM2.out (by rw [hlk]; omega) x.name hs)
      rw [hlk] at CP
      clear hb2 hB0 hBs CI
      unfold str at CP
      refine CP.out.mono ?_
      rintro _ w3 ⟨rfl, hm3, hf3⟩
      have HM3 := hide hm3
      have HB3 := hide ((HB.out.trans (HB2.out.mono HB.out.size)).trans (hf3.below (n := w.heap.size) fun j hj => ⟨Nat.lt_of_lt_of_le hj (Nat.le_trans HB.out.size HB2.out.size), by show ¬ j = w.heap.size; omega⟩))
      clear hm3 hf3 CP
      go_wp2_with fail
      go_roundw
      case rel => exact ⟨k + 1, by omega, by go_num, hide (by rw [HT.out, List.map_append]; exact HM3.out), HB3⟩
      case measure => simp [intOf]; omega
    · have hk' : k = l.length := by omega
      subst hk'
      go_wp2_with fail
      go_ret
      refine ⟨rfl, ?_, HB.out⟩
      have := HM.out
      rw [List.take_of_length_le (Nat.le_refl _)] at this
      exact this

set_option maxRecDepth 100000 in
set_option maxHeartbeats 3200000 in
theorem numE_any {N : Nat} {w : World} {l : List (Bytes × Bytes)} {a : Option Addr} {c : Nat} (h : RR N 2 cM w l (.slice a l.length c)) (hN : N ≤ w.heap.size) (hl : l.length ≤ 4096) :
    Calls Tryz.prog 57 #[.slice a l.length c, .func (.func 58) #[] #[]] w fun e w' => e = .returned (.map (some w.heap.size)) ∧ KMap 41 w' w.heap.size (l.map keyE) ∧ Below w.heap.size w w' := by
  have H := hide h
  have HN := hide hN
  have hmk := run_makeMapE l.length
  clear h hN
  go_enter Tryz.func57, Tryz.ntmps57
  go_wp2_with fail
  go_loopw [13] (fun x wr => ∃ k : Nat, k ≤ l.length ∧ x = .int .i64 k ∧ Hid (KMap 41 wr w.heap.size ((l.take k).map keyE)) ∧ Hid (Below w.heap.size w wr)) (fun x _ => l.length - (intOf x).toNat)
  case atStart => exact ⟨0, by omega, rfl, hide (KMap.made _ _), hide ((Below.refl _ _).alloc (Nat.le_refl _) _)⟩
  case round =>
    obtain ⟨k, hk, rfl, HM, HB⟩ := hrel
    clear hmk
    by_cases hlt : k < l.length
    · obtain ⟨x, hx⟩ : ∃ x, l[k]? = some x := ⟨l[k], List.getElem?_eq_getElem hlt⟩
      have HT := hide (take_snoc hx)
      have hr := RR.keep H.out (w' := wr) (fun g hg => HB.out.block g (by have := HN.out; omega)) (fun _ _ h => h)
      obtain ⟨g, o, rfl, hg, c0, c1, hs, hs2⟩ := at_M hr hx
      have HG : Hid (g < wr.heap.size) := by have := HN.out; have := HB.out.size; exact hide (by omega)
      clear hr hx
      unfold str at *
      have hlk : ((l.take k).map keyE).length = k := by simp; omega
      have CI := hide (fun w => itselfE_any ⟨x.1.toArray⟩ ⟨x.2.toArray⟩ w)
      go_wp2_with (go_at_call 58; refine (CI.out _).mono ?_; rintro _ w2 ⟨rfl, hb2⟩)
      have hB0 : Below wr.heap.size wr (wr.alloc (.cells #[.string ⟨x.1.toArray⟩, .string ⟨x.2.toArray⟩] 41)) := (Below.refl _ _).alloc (Nat.le_refl _) _
      have hBs := hB0.size
      have HB2 := hide (hB0.trans (hb2.mono hBs))
      have HM2 := hide (HM.out.keep (HB2.out.block _ HM.out.lt))
      have CP := hide (putE_any HM2.out (by rw [hlk]; omega) x hs hs2)
      rw [hlk] at CP
      clear hb2 hB0 hBs CI
      unfold str at CP
      refine CP.out.mono ?_
      rintro _ w3 ⟨rfl, hm3, hf3⟩
      have HM3 := hide hm3
      have HB3 := hide ((HB.out.trans (HB2.out.mono HB.out.size)).trans (hf3.below (n := w.heap.size) fun j hj => ⟨Nat.lt_of_lt_of_le hj (Nat.le_trans HB.out.size HB2.out.size), by show ¬ j = w.heap.size; omega⟩))
      clear hm3 hf3 CP
      go_wp2_with fail
      go_roundw
      case rel => exact ⟨k + 1, by omega, by go_num, hide (by rw [HT.out, List.map_append]; exact HM3.out), HB3⟩
      case measure => simp [intOf]; omega
    · have hk' : k = l.length := by omega
      subst hk'
      go_wp2_with fail
      go_ret
      refine ⟨rfl, ?_, HB.out⟩
      have := HM.out
      rw [List.take_of_length_le (Nat.le_refl _)] at this
      exact this
end Go.Proofs.YtbdlgglbcaoakaaGreat
