/- The page's examples, plainly; lists of constants in memory. -/
import Derived.Test.YtbdlgglbcaoakaaGreatPrCrc
import Derived.Test.YtbdlgglbcaoakaaGreatPfQ
namespace Go.Proofs.YtbdlgglbcaoakaaGreat.Pr
open Go.RowKit

def nx3 : List (List Int) := [[1], [2], [0]]
def nx2 : List (List Int) := [[], [0]]
def nx1 : List (List Int) := [[0]]
theorem ed3 {a b : Nat} (h : Ed nx3 a b) : a < 3 ∧ b = (a + 1) % 3 := by
  have hl := h.lt
  obtain ⟨_, h2⟩ := h
  match a, hl with
  | 0, _ => simp [nx3] at h2; omega
  | 1, _ => simp [nx3] at h2; omega
  | 2, _ => simp [nx3] at h2; omega
  | n + 3, hl => simp [nx3] at hl; omega
theorem ed3_of {a b : Nat} (ha : a < 3) (hb : b = (a + 1) % 3) : Ed nx3 a b := by
  subst hb
  match a, ha with
  | 0, _ => exact ⟨by decide, by simp [nx3]⟩
  | 1, _ => exact ⟨by decide, by simp [nx3]⟩
  | 2, _ => exact ⟨by decide, by simp [nx3]⟩
theorem cyc3 {l : List Nat} (h : IsCyc nx3 l) : l.length = 3 := by
  have hle : l.length ≤ 3 := nodup_le h.nd h.lt
  have hp : 0 < l.length := by have := h.ne; cases l with | nil => exact absurd rfl this | cons _ _ => simp
  obtain ⟨x, hx⟩ : ∃ x, l[0]? = some x := ⟨_, List.getElem?_eq_getElem hp⟩
  have hx3 : x < 3 := h.lt x (List.mem_of_getElem? hx)
  have key : ∀ i, i < l.length → l[i]? = some ((x + i) % 3) := by
    intro i
    induction i with
    | zero => intro _; rw [hx]; congr 1; omega
    | succ i ih =>
      intro hi
      have h1 := ih (by omega)
      obtain ⟨y, hy⟩ : ∃ y, l[i + 1]? = some y := ⟨_, List.getElem?_eq_getElem hi⟩
      have h2 := ed3 (h.ed i _ y h1 (by rw [Nat.mod_eq_of_lt hi]; exact hy))
      rw [hy]
      congr 1
      omega
  have h1 := key (l.length - 1) (by omega)
  have h2 := ed3 (h.ed (l.length - 1) _ x h1 (by rw [show l.length - 1 + 1 = l.length by omega, Nat.mod_self]; exact hx))
  omega
theorem is3 : IsCyc nx3 [0, 1, 2] := by
  refine cyc_of (a := 0) (z := 2) (by decide) (by decide) rfl rfl (fun i a b ha hb => ?_) (ed3_of (by omega) rfl)
  match i, ha, hb with
  | 0, ha, hb => simp at ha hb; subst ha; subst hb; exact ed3_of (by omega) rfl
  | 1, ha, hb => simp at ha hb; subst ha; subst hb; exact ed3_of (by omega) rfl
  | n + 2, ha, hb => simp at hb
theorem is1 : IsCyc nx1 [0] := by
  refine cyc_of (a := 0) (z := 0) (by decide) (by decide) rfl rfl (fun i a b ha hb => by simp at hb) ⟨by decide, by simp [nx1]⟩
theorem cyc1 {l : List Nat} (h : IsCyc nx1 l) : l = [0] := by
  have hle : l.length ≤ 1 := nodup_le h.nd h.lt
  match l, h.ne, hle, h.lt with
  | [a], _, _, hl => have := hl a (by simp); simp [nx1] at this; rw [this]
theorem ed2 {a b : Nat} (h : Ed nx2 a b) : a = 1 ∧ b = 0 := by
  have hl := h.lt
  obtain ⟨_, h2⟩ := h
  match a, hl with
  | 0, _ => simp [nx2] at h2
  | 1, _ => simp [nx2] at h2; omega
  | n + 2, hl => simp [nx2] at hl; omega
theorem kahn2 : Kahn nx2 [1, 0] := by
  intro j k hj
  match j, hj with
  | 0, hj =>
    simp at hj
    subst hj
    refine ⟨⟨by decide, by simp, fun a he => by have := ed2 he; omega⟩, fun i hi => ?_⟩
    by_cases e : i = 0
    · subst e
      have := hi.2.2 1 ⟨by decide, by simp [nx2]⟩
      simp at this
    · omega
  | 1, hj =>
    simp at hj
    subst hj
    exact ⟨⟨by decide, by simp, fun a he => by have := ed2 he; simp; omega⟩, fun i _ => by omega⟩
  | n + 2, hj => simp at hj
theorem kmax2 : KMax nx2 [1, 0] := by
  intro k hk
  have h1 := hk.1
  have h2 := hk.2.1
  simp [nx2] at h1
  simp at h2
  omega
theorem RR.blk {α : Type} {N k : Nat} {c : World → α → List Value → Prop} {w : World} {l : List α} {g T cap : Nat} {vs : List Value} (hg : Fx g T vs w) (hN : g < N) (hcap : l.length ≤ cap) (hlim : l.length ≤ 140737488351232)
    (hc : ∀ i x, l[i]? = some x → ∃ xs, xs.length = k ∧ (∀ j u, xs[j]? = some u → vs[i * k + j]? = some u) ∧ c w x xs) : RR N k c w l (.slice (some ⟨g, 0, none⟩) l.length cap) := by
  refine ⟨_, cap, rfl, hcap, hlim, fun i x hi => ?_⟩
  obtain ⟨xs, h1, h2, h3⟩ := hc i x hi
  exact ⟨g, 0, xs, rfl, hN, h1, fun j u hu => by rw [Nat.zero_add]; exact hg.get (h2 j u hu), h3⟩
theorem RR.none {α : Type} {N k : Nat} {c : World → α → List Value → Prop} {w : World} : RR N k c w [] (.slice .none 0 0) := ⟨_, _, rfl, Nat.le_refl _, Nat.zero_le _, fun i x hi => by simp at hi⟩
theorem one_at {vs : List Value} {i : Nat} {x : Value} (h : vs[i]? = some x) : ∀ j u, [x][j]? = some u → vs[i * 1 + j]? = some u := by
  intro j u hu
  match j, hu with
  | 0, hu => simp at hu; subst hu; simpa using h
theorem Ints.blk {N g T : Nat} {w : World} {l : List Int} (hg : Fx g T (ints l) w) (hN : g < N) (hlim : l.length ≤ 140737488351232) : Ints N w l (.slice (some ⟨g, 0, none⟩) l.length l.length) :=
  RR.blk hg hN (Nat.le_refl _) hlim fun i x hi => ⟨[.int .i64 x], rfl, one_at (by unfold ints; rw [List.getElem?_map, hi]; rfl), rfl⟩
theorem Lists.blk {N g T : Nat} {w : World} {l : List (List Int)} {vs : List Value} (hg : Fx g T vs w) (hN : g < N) (hlim : l.length ≤ 140737488351232) (hc : ∀ (i : Nat) x, l[i]? = some x → ∃ v, vs[i]? = some v ∧ Ints N w x v) : Lists N w l (.slice (some ⟨g, 0, none⟩) l.length l.length) :=
  RR.blk hg hN (Nat.le_refl _) hlim fun i x hi => by
    obtain ⟨v, h1, h2⟩ := hc i x hi
    exact ⟨[v], rfl, one_at h1, v, rfl, h2⟩
theorem fx_new (w : World) (vs : List Value) (T : Nat) : Fx w.heap.size T vs (w.alloc (.cells vs.toArray T)) := heap_alloc_new w _
theorem Fx.next {g T : Nat} {vs : List Value} {w : World} (h : Fx g T vs w) (o : Obj) : Fx g T vs (w.alloc o) := h.keep ((below_new w o).block g h.lt)
end Go.Proofs.YtbdlgglbcaoakaaGreat.Pr
/- The law's own examples. -/
namespace Go.Proofs.YtbdlgglbcaoakaaGreat.Pr
open Go.RowKit

set_option maxRecDepth 100000 in
set_option maxHeartbeats 3200000 in
theorem sameInts_yes {l : List Int} {a b : Option Addr} {c d : Nat} {w : World} (ha : At1 w a (ints l)) (hb : At1 w b (ints l)) (hl : l.length ≤ 140737488351232) :
    Calls Tryz.prog 17 #[.slice a l.length c, .slice b l.length d] w fun e w' => e = .returned (.bool true) ∧ Below w.heap.size w w' := by
  have HA := hide ha
  have HB := hide hb
  clear ha hb
  go_enter Tryz.func17, Tryz.ntmps17
  go_wp2_with fail
  go_loopw [5] (fun x wr => ∃ k q : Nat, k ≤ l.length ∧ x = .int .i64 k ∧ wr = w.drewN q) (fun x _ => l.length - (intOf x).toNat)
  case atStart => exact ⟨0, 0, by omega, rfl, rfl⟩
  case round =>
    obtain ⟨k, q, hk, rfl, rfl⟩ := hrel
    by_cases hlt : k < l.length
    · obtain ⟨x, hx⟩ := get_at hlt
      obtain ⟨ga, oa, rfl, a0⟩ := HA.out.get hx
      obtain ⟨gb, ob, rfl, b0⟩ := HB.out.get hx
      clear hx
      go_wp2_with fail
      go_quiet (fail)
      go_wp2_with fail
      go_roundw
      case rel => exact ⟨k + 1, _, by omega, by go_num, rfl⟩
      case measure => simp [intOf]; omega
    · go_wp2_with fail
      go_ret
      exact ⟨rfl, below_drewN w q⟩
abbrev Tw1 (wr : World) (ga gb oa ob : Nat) (p q : Value) (X : World) : Prop := X.cell? ⟨ga, oa, none⟩ = some p ∧ X.cell? ⟨gb, ob, none⟩ = some q ∧ ga < wr.heap.size ∧ gb < wr.heap.size ∧ Below wr.heap.size wr X

abbrev a3 (w : World) : World := (((w.alloc (.cells #[.int .i64 1] 3)).alloc (.cells #[.int .i64 2] 3)).alloc (.cells #[.int .i64 0] 3)).alloc (.cells #[sl w.heap.size 1, sl (w.heap.size + 1) 1, sl (w.heap.size + 1 + 1) 1] 57)
abbrev a2 (w : World) : World := (w.alloc (.cells #[.int .i64 0] 3)).alloc (.cells #[.slice none 0 0, sl w.heap.size 1] 57)
abbrev a1 (w : World) : World := (w.alloc (.cells #[.int .i64 0] 3)).alloc (.cells #[sl w.heap.size 1] 57)
theorem sz3 (w : World) : (a3 w).heap.size = w.heap.size + 1 + 1 + 1 + 1 := by simp [a3]
theorem sz2 (w : World) : (a2 w).heap.size = w.heap.size + 1 + 1 := by simp [a2]
theorem sz1 (w : World) : (a1 w).heap.size = w.heap.size + 1 + 1 := by simp [a1]
theorem bl3 (w : World) : Below w.heap.size w (a3 w) := (((below_new w _).trans ((below_new _ _).mono (by simp))).trans ((below_new _ _).mono (by simp; omega))).trans ((below_new _ _).mono (by simp; omega))
theorem bl2 (w : World) : Below w.heap.size w (a2 w) := (below_new w _).trans ((below_new _ _).mono (by simp))
theorem bl1 (w : World) : Below w.heap.size w (a1 w) := (below_new w _).trans ((below_new _ _).mono (by simp))
theorem in3 (w : World) : Lists (a3 w).heap.size (a3 w) nx3 (sl (w.heap.size + 1 + 1 + 1) 3) := by
  have f0 : Fx w.heap.size 3 (ints [1]) (a3 w) := (((fx_new w (ints [1]) 3).next _).next _).next _
  have f1 : Fx (w.heap.size + 1) 3 (ints [2]) (a3 w) := by
    have := ((fx_new (w.alloc (.cells #[.int .i64 1] 3)) (ints [2]) 3).next (.cells #[.int .i64 0] 3)).next (.cells #[sl w.heap.size 1, sl (w.heap.size + 1) 1, sl (w.heap.size + 1 + 1) 1] 57)
    rw [show (w.alloc (.cells #[.int .i64 1] 3)).heap.size = w.heap.size + 1 by simp] at this
    exact this
  have f2 : Fx (w.heap.size + 1 + 1) 3 (ints [0]) (a3 w) := by
    have := (fx_new ((w.alloc (.cells #[.int .i64 1] 3)).alloc (.cells #[.int .i64 2] 3)) (ints [0]) 3).next (.cells #[sl w.heap.size 1, sl (w.heap.size + 1) 1, sl (w.heap.size + 1 + 1) 1] 57)
    rw [show ((w.alloc (.cells #[.int .i64 1] 3)).alloc (.cells #[.int .i64 2] 3)).heap.size = w.heap.size + 1 + 1 by simp] at this
    exact this
  have f3 : Fx (w.heap.size + 1 + 1 + 1) 57 [sl w.heap.size 1, sl (w.heap.size + 1) 1, sl (w.heap.size + 1 + 1) 1] (a3 w) := by
    have := fx_new (((w.alloc (.cells #[.int .i64 1] 3)).alloc (.cells #[.int .i64 2] 3)).alloc (.cells #[.int .i64 0] 3)) [sl w.heap.size 1, sl (w.heap.size + 1) 1, sl (w.heap.size + 1 + 1) 1] 57
    simpa using this
  have hz := sz3 w
  refine Lists.blk (l := nx3) f3 (by rw [hz]; omega) (by simp [nx3]) fun i x hi => ?_
  match i, hi with
  | 0, hi => simp [nx3] at hi; subst hi; exact ⟨_, rfl, Ints.blk f0 (by rw [hz]; omega) (by simp)⟩
  | 1, hi => simp [nx3] at hi; subst hi; exact ⟨_, rfl, Ints.blk f1 (by rw [hz]; omega) (by simp)⟩
  | 2, hi => simp [nx3] at hi; subst hi; exact ⟨_, rfl, Ints.blk f2 (by rw [hz]; omega) (by simp)⟩
  | n + 3, hi => simp [nx3] at hi
theorem in2 (w : World) : Lists (a2 w).heap.size (a2 w) nx2 (sl (w.heap.size + 1) 2) := by
  have f0 : Fx w.heap.size 3 (ints [0]) (a2 w) := (fx_new w (ints [0]) 3).next _
  have f1 : Fx (w.heap.size + 1) 57 [.slice none 0 0, sl w.heap.size 1] (a2 w) := by
    have := fx_new (w.alloc (.cells #[.int .i64 0] 3)) [.slice none 0 0, sl w.heap.size 1] 57
    simpa using this
  have hz := sz2 w
  refine Lists.blk (l := nx2) f1 (by rw [hz]; omega) (by simp [nx2]) fun i x hi => ?_
  match i, hi with
  | 0, hi => simp [nx2] at hi; subst hi; exact ⟨_, rfl, RR.none⟩
  | 1, hi => simp [nx2] at hi; subst hi; exact ⟨_, rfl, Ints.blk f0 (by rw [hz]; omega) (by simp)⟩
  | n + 2, hi => simp [nx2] at hi
theorem in1 (w : World) : Lists (a1 w).heap.size (a1 w) nx1 (sl (w.heap.size + 1) 1) := by
  have f0 : Fx w.heap.size 3 (ints [0]) (a1 w) := (fx_new w (ints [0]) 3).next _
  have f1 : Fx (w.heap.size + 1) 57 [sl w.heap.size 1] (a1 w) := by
    have := fx_new (w.alloc (.cells #[.int .i64 0] 3)) [sl w.heap.size 1] 57
    simpa using this
  have hz := sz1 w
  refine Lists.blk (l := nx1) f1 (by rw [hz]; omega) (by simp [nx1]) fun i x hi => ?_
  match i, hi with
  | 0, hi => simp [nx1] at hi; subst hi; exact ⟨_, rfl, Ints.blk f0 (by rw [hz]; omega) (by simp)⟩
  | n + 1, hi => simp [nx1] at hi
theorem c3_any (w : World) : Calls Tryz.prog 15 #[sl (w.heap.size + 1 + 1 + 1) 3] (a3 w) fun e w' => Below w.heap.size w w' ∧ ∃ a c, e = .returned (.tuple #[.slice a 3 c, .bool true]) := by
  refine (cycle_any (next := nx3) (in3 w) (by simp [nx3]) (by simp [nx3, total])).mono ?_
  rintro e w' ⟨hb, h⟩
  refine ⟨(bl3 w).trans (hb.mono (by rw [sz3]; omega)), ?_⟩
  rcases h with ⟨l, v, rfl, hc, hr⟩ | ⟨_, ha⟩
  · obtain ⟨a, c, rfl⟩ := owns_slice hr
    rw [cyc3 hc]
    exact ⟨a, c, rfl⟩
  · exact (acy_cyc ha is3).elim
theorem c2_any (w : World) : Calls Tryz.prog 16 #[sl (w.heap.size + 1) 2] (a2 w) fun e w' => Below w.heap.size w w' ∧ ∃ a c, e = .returned (.tuple #[.slice a 2 c, .bool true]) ∧ At1 w' a (ints [1, 0]) := by
  refine (order_any (next := nx2) (in2 w) (by simp [nx2]) (by simp [nx2, total])).mono ?_
  rintro e w' ⟨out, h1, h2, hb, h⟩
  have ho := kahn_uniq h1 h2 kahn2 kmax2
  subst ho
  refine ⟨(bl2 w).trans (hb.mono (by rw [sz2]; omega)), ?_⟩
  rcases h with ⟨hl, _⟩ | ⟨_, ov, rfl, hr⟩
  · simp [nx2] at hl
  · obtain ⟨a, c, rfl⟩ := owns_slice hr
    exact ⟨a, c, rfl, owns_at1 hr⟩
theorem c1_any (w : World) : Calls Tryz.prog 15 #[sl (w.heap.size + 1) 1] (a1 w) fun e w' => Below w.heap.size w w' ∧ ∃ a c, e = .returned (.tuple #[.slice a 1 c, .bool true]) ∧ At1 w' a (ints [0]) := by
  refine (cycle_any (next := nx1) (in1 w) (by simp [nx1]) (by simp [nx1, total])).mono ?_
  rintro e w' ⟨hb, h⟩
  refine ⟨(bl1 w).trans (hb.mono (by rw [sz1]; omega)), ?_⟩
  rcases h with ⟨l, v, rfl, hc, hr⟩ | ⟨_, ha⟩
  · obtain ⟨a, c, rfl⟩ := owns_slice hr
    have := cyc1 hc
    subst this
    exact ⟨a, c, rfl, owns_at1 hr⟩
  · exact (acy_cyc ha is1).elim
set_option maxRecDepth 100000 in
set_option maxHeartbeats 6400000 in
theorem alive_any (w : World) : Calls Tryz.prog 8 #[] w fun e w' => e = .returned (.bool true) ∧ Below w.heap.size w w' := by
  go_enter Tryz.func8, Tryz.ntmps8
  go_upto_region 2 with (go_at_call 15; refine (c3_any w).mono ?_; rintro e w1 ⟨hb1, a1', c1', rfl⟩; have HB1 := hide hb1; clear hb1)
  go_upto_region 3 with (go_at_call 16; refine (c2_any w1).mono ?_; rintro e w2 ⟨hb2, a2', c2', rfl, hat2⟩; have HB2 := hide hb2; have HA2 := hide hat2; clear hb2 hat2)
  go_upto_region 4 with (go_at_call 15; refine (c1_any w2).mono ?_; rintro e w3 ⟨hb3, a3', c3', rfl, hat3⟩; have HB3 := hide hb3; have HA3 := hide hat3; clear hb3 hat3)
  have hA := below_new w3 (.cells #[.int .i64 1, .int .i64 0] 3)
  have hat : At1 (w3.alloc (.cells #[.int .i64 1, .int .i64 0] 3)) (some ⟨w3.heap.size, 0, none⟩) (ints [1, 0]) := fun i v hi => ⟨_, _, rfl, by rw [Nat.zero_add]; exact (fx_new w3 (ints [1, 0]) 3).get hi⟩
  have C5 := hide (sameInts_yes (l := [1, 0]) (c := c2') (d := 2) ((HA2.out.below HB3.out).below hA) hat (by simp))
  have HBA := hide hA
  have hs3 := HB3.out.size
  have hs2 := HB2.out.size
  have hs1 := HB1.out.size
  clear hat hA
  have C6 : Hid (∀ w5, Below (w3.alloc (.cells #[.int .i64 1, .int .i64 0] 3)).heap.size (w3.alloc (.cells #[.int .i64 1, .int .i64 0] 3)) w5 → Calls Tryz.prog 17 #[.slice a3' 1 c3', .slice (some ⟨w5.heap.size, 0, none⟩) 1 1] (w5.alloc (.cells #[.int .i64 0] 3)) fun e w' => e = .returned (.bool true) ∧ Below w5.heap.size w5 w') := hide fun w5 h5 => by
    have hz : w3.heap.size ≤ (w3.alloc (.cells #[.int .i64 1, .int .i64 0] 3)).heap.size := by simp
    have hB5 : Below w3.heap.size w3 w5 := HBA.out.trans (h5.mono hz)
    have hA5 := below_new w5 (.cells #[.int .i64 0] 3)
    have hat : At1 (w5.alloc (.cells #[.int .i64 0] 3)) (some ⟨w5.heap.size, 0, none⟩) (ints [0]) := fun i v hi => ⟨_, _, rfl, by rw [Nat.zero_add]; exact (fx_new w5 (ints [0]) 3).get hi⟩
    refine (sameInts_yes (l := [0]) (c := c3') (d := 1) ((HA3.out.below hB5).below hA5) hat (by simp)).mono ?_
    rintro e w' ⟨rfl, hb⟩
    exact ⟨rfl, hA5.trans (hb.mono (by simp))⟩
  go_wp2_with fail
  refine C5.out.mono ?_
  rintro e w5 ⟨rfl, hb5⟩
  have HB5 := hide hb5
  clear hb5 C5
  go_wp2_with fail
  refine (C6.out _ HB5.out).mono ?_
  rintro e w6 ⟨rfl, hb6⟩
  have HB6 := hide hb6
  clear hb6 C6
  go_wp2_with fail
  go_ret
  refine ⟨rfl, ?_⟩
  have hz : w3.heap.size ≤ (w3.alloc (.cells #[.int .i64 1, .int .i64 0] 3)).heap.size := by simp
  have hs5 := HB5.out.size
  exact (((HB1.out.trans (HB2.out.mono (by omega))).trans (HB3.out.mono (by omega))).trans (HBA.out.mono (by omega))).trans ((HB5.out.mono (by omega)).trans (HB6.out.mono (by omega)))
end Go.Proofs.YtbdlgglbcaoakaaGreat.Pr
/- PriorPrevails: its walk. -/
namespace Go.Proofs.YtbdlgglbcaoakaaGreat
open Go.RowKit Go.Shelf Go.Maps Go.WideMaps
set_option maxHeartbeats 1600000 in
theorem num13b_any (w : World) (e : Int) : Calls Tryz.prog 7 #[.int .i64 e] w fun r w' => r = .returned (.int .i64 e) ∧ w = w' := by
  go_enter Tryz.func7, Tryz.ntmps7
  go_wp2_with fail
  go_ret
  exact ⟨rfl, rfl⟩
set_option maxRecDepth 100000 in
set_option maxHeartbeats 12800000 in
theorem prevails_walk {S : StatM} {st : St9} {w : World} (h : SR w.heap.size w S st) (za zb : Int) :
    Calls Tryz.prog 3 #[st.agg, .int .i64 za, .int .i64 zb] w fun e w' => e = .returned (.bool true) ∧ Below w.heap.size w w' := by
  obtain ⟨tt, ht⟩ := h.title
  obtain ⟨a1, b1, f1, _, l1⟩ := h.kinds.form
  obtain ⟨a2, b2, f2, _, l2⟩ := h.members.form
  obtain ⟨a3, b3, f3, _, l3⟩ := h.preds.form
  obtain ⟨a4, b4, f4, _, l4⟩ := h.classes.form
  obtain ⟨a5, b5, f5, _, l5⟩ := h.sources.form
  obtain ⟨a6, b6, f6, _, l6⟩ := h.rules.form
  obtain ⟨a7, b7, f7, _, l7⟩ := h.excepts.form
  obtain ⟨a8, b8, f8, _, l8⟩ := h.totals.form
  obtain ⟨s0, s1, s2, s3, s4, s5, s6, s7, s8⟩ := st
  simp only at ht f1 f2 f3 f4 f5 f6 f7 f8
  subst ht f1 f2 f3 f4 f5 f6 f7 f8
  have hA : Below w.heap.size w (w.alloc (.cells #[.string tt, .slice a1 S.kinds.length b1, .slice a2 S.members.length b2, .slice a3 S.preds.length b3, .slice a4 S.classes.length b4, .slice a5 S.sources.length b5, .slice a6 S.rules.length b6, .slice a7 S.excepts.length b7, .slice a8 S.totals.length b8] 31)) := (Below.refl _ w).alloc (Nat.le_refl _) _
  have hbx := heap_alloc_new w (.cells #[.string tt, .slice a1 S.kinds.length b1, .slice a2 S.members.length b2, .slice a3 S.preds.length b3, .slice a4 S.classes.length b4, .slice a5 S.sources.length b5, .slice a6 S.rules.length b6, .slice a7 S.excepts.length b7, .slice a8 S.totals.length b8] 31)
  have CP : Hid (∀ (X : World) (hb : Below w.heap.size w X), _) := hide fun (X : World) (hb : Below w.heap.size w X) => prevails_fn (h.up hb) za zb
  have CR : Hid (∀ (X : World) (hb : Below w.heap.size w X), _) := hide fun (X : World) (hb : Below w.heap.size w X) => rprevails_fn (h.up hb) za zb
  unfold St9.agg at *
  simp only at *
  have HA := hide hA
  have HBX := hide hbx
  clear h hA hbx
  generalize (prevM S za zb).1 = pv at *
  generalize (prevM S za zb).2 = pe at *
  go_enter Tryz.func3, Tryz.ntmps3
  go_wp2_with fail
  refine (CP.out _ HA.out).mono ?_
  rintro _ w1 ⟨rfl, hbn⟩
  have HB1 := hide (HA.out.trans (hbn.mono HA.out.size))
  have HX1 := hide ((hbn.block w.heap.size (loc_lt HBX.out)).trans HBX.out)
  clear hbn HA HBX
  have k0 := cell_of_row w1 w.heap.size 0 _ _ _ HX1.out
  have k1 := cell_of_row w1 w.heap.size 1 _ _ _ HX1.out
  have k2 := cell_of_row w1 w.heap.size 2 _ _ _ HX1.out
  have k3 := cell_of_row w1 w.heap.size 3 _ _ _ HX1.out
  have k4 := cell_of_row w1 w.heap.size 4 _ _ _ HX1.out
  have k5 := cell_of_row w1 w.heap.size 5 _ _ _ HX1.out
  have k6 := cell_of_row w1 w.heap.size 6 _ _ _ HX1.out
  have k7 := cell_of_row w1 w.heap.size 7 _ _ _ HX1.out
  have k8 := cell_of_row w1 w.heap.size 8 _ _ _ HX1.out
  simp at k0 k1 k2 k3 k4 k5 k6 k7 k8
  go_wp2_with fail
  refine (CR.out _ HB1.out).mono ?_
  rintro _ w2 ⟨rfl, hbn⟩
  have HB2 := hide (HB1.out.trans (hbn.mono HB1.out.size))
  have HX2 := hide ((hbn.block w.heap.size (loc_lt HX1.out)).trans HX1.out)
  clear hbn HB1 HX1 k0 k1 k2 k3 k4 k5 k6 k7 k8
  go_wp2_with fail
  refine (num13b_any _ _).mono ?_
  rintro _ _ ⟨rfl, rfl⟩
  go_wp2_with fail
  refine (Pr.alive_any _).mono ?_
  rintro _ w3 ⟨rfl, hb3⟩
  have HB3 := hide (HB2.out.trans (hb3.mono HB2.out.size))
  clear hb3
  go_wp2_with fail
  go_ret
  exact ⟨rfl, HB3.out⟩
end Go.Proofs.YtbdlgglbcaoakaaGreat
