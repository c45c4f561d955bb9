/- MoneyOwn, walked: whatever amount and weights, it returns true. -/
import Derived.Test.YthpbadnedhjncabGreatDoorStableAny
import Derived.Test.YthpbadnedhjncabGreatDoorWorks
import Derived.Test.YthpbadnedhjncabGreatDoorApartMoney
import Derived.Test.YthpbadnedhjncabGreatDoorApart
namespace Go.Proofs.YthpbadnedhjncabGreatDoor
open Go.RowKit

theorem share_any (t : Int) (a : Option Addr) (len cap : Nat) (zs : List Int) (w : World) (hl : zs.length = len) (h : Nums .i64 w a zs) :
    Calls Tryz.prog 5 #[.int .i64 t, .slice a len cap] w fun e w' => ShareEnds w t zs e w' :=
  share_sorts t a len cap zs w hl h (fun k h1 h2 => sorts_any k (by omega) _)

theorem putMoney_nil (bb : Nat) (x : Option Addr) (cx : Nat) (w : World) : Calls Tryz.prog 6 #[.pointer (some ⟨bb, 0, none⟩), .slice x 0 cx] w fun e w' => e = .returned (.tuple #[]) ∧ w' = w := by
  go_enter Tryz.func6, Tryz.ntmps6
  go_wp2_with fail
  go_end0
  exact ⟨rfl, rfl⟩

set_option maxRecDepth 100000 in
set_option maxHeartbeats 800000 in
theorem putMoney_some (bb B m : Nat) (V : Value) (xs : List Value) (x : Option Addr) (n cx : Nat) (w : World) (hn : 1 ≤ n) (hm : m ≤ 1000000) (hB : B ≤ w.heap.size) (hV : w.cell? ⟨bb, 5, none⟩ = some V) (hf : w.frozen? ⟨bb, 5, none⟩ = false) (hbb : bb < B)
    (ho : w.ownsRow B 51 1 V m xs) : Calls Tryz.prog 6 #[.pointer (some ⟨bb, 0, none⟩), .slice x n cx] w fun e w' => e = .returned (.tuple #[]) ∧
      ∃ g cap W1, w' = W1.setCell ⟨bb, 5, none⟩ (.slice (some ⟨g, 0, none⟩) (m + 1) cap) ∧ W1.ownsRow B 51 1 (.slice (some ⟨g, 0, none⟩) (m + 1) cap) (m + 1) (xs ++ [.slice x n cx]) ∧ ∃ row, (row = none ∨ row = V.ownBlock) ∧ w.grownBy W1 row := by
  obtain ⟨iL, hiL, zL0, zL1, zL2⟩ := info_parts infoList
  have HO := hide ho
  clear ho
  have hbl : bb < w.heap.size := by omega
  go_enter Tryz.func6, Tryz.ntmps6
  go_wp2_with (at_builtin; go_must (refine wpList_append_two _ rfl _ _ 30 rfl B 51 iL (.slice none 0 0) 1 24 Tryz.underlying30 hiL zL0 zL1 zL2 rfl (by decide) _ m xs rfl (HO.out.alloc _) ⟨w.heap.size, 0, none⟩ 1 [.slice x n cx] rfl rfl (cell_one_new _ _ _) (by simp [Value.oneCell']) (by unfold maxLen; omega) (by omega) (by simp; omega) ?_))
  intro g cap W1 hown hg
  obtain ⟨row, hrow, hgr⟩ : ∃ row, (row = none ∨ row = V.ownBlock) ∧ w.grownBy W1 row := by
    have ha : ∀ row, w.grownBy (w.alloc (.cells #[.slice x n cx] 51)) row := fun row => ⟨rfl, rfl, rfl, by simp, fun k hk _ => Go.heap_alloc_old w _ hk⟩
    rcases hg with ⟨e1, h1⟩ | ⟨_, h1⟩
    · exact ⟨some g, .inr e1.symm, (ha _).trans h1⟩
    · exact ⟨none, .inl rfl, (ha _).trans h1⟩
  have hne : some bb ≠ row := by
    rcases hrow with rfl | rfl
    · simp
    · intro e1
      have := (HO.out.lt bb e1.symm).1
      omega
  have hcW : W1.cell? ⟨bb, 5, none⟩ = some V := hgr.cell hV hne
  have hfW : W1.frozen? ⟨bb, 5, none⟩ = false := (hgr.frozen_far ⟨bb, 5, none⟩ hbl hne).trans hf
  have HG := hide hgr
  have HW := hide hown
  clear hgr hown hg
  go_wp2_with fail
  go_end0
  exact ⟨rfl, g, cap, W1, rfl, HW.out, row, hrow, HG.out⟩

/-- What the book holds behind i asks. -/
structure Kept (bb B N : Nat) (ps : List Value) (w wr : World) (i : Nat) (b c : Nat → Nat) (V : Value) : Prop where
  bel : Below w.heap.size w wr
  size : B ≤ wr.heap.size
  empty : Empty 5 bb wr
  cell : wr.cell? ⟨bb, 5, none⟩ = some V
  frz : wr.frozen? ⟨bb, 5, none⟩ = false
  cont : wr.ownsRow B 51 1 V i ((List.range i).map (rowV b (fun _ => N) c))
  own : ∀ j, j < i → wr.ownsRow B 22 1 (rowV b (fun _ => N) c j) N ps
  dis : ∀ i' j', i' < i → j' < i → i' ≠ j' → b i' ≠ b j'

section
variable {bb B N i : Nat} {ps : List Value} {w wr w2 W1 : World} {b c : Nat → Nat} {V : Value}

theorem grown_of_below (h : Below wr.heap.size wr w2) (row : Option Nat) : wr.grownBy w2 row := ⟨h.os, h.tape, h.output, h.size, fun k hk _ => h.block k hk⟩

theorem own_base {B' e n : Nat} {v : Value} {xs : List Value} (h : wr.ownsRow B e 1 v n xs) (hb : B' ≤ B) : wr.ownsRow B' e 1 v n xs := by
  refine ⟨h.1, ?_⟩
  rcases h.2 with h1 | ⟨g, cap, cur, h1, h2, h3⟩
  · exact .inl h1
  · exact .inr ⟨g, cap, cur, h1, Nat.le_trans hb h2, h3⟩

theorem Kept.below (h : Kept bb B N ps w wr i b c V) (hbB : bb < B) (hb : Below wr.heap.size wr w2) : Kept bb B N ps w w2 i b c V := by
  have hbl : bb < wr.heap.size := by have := h.size; omega
  exact ⟨h.bel.trans (hb.mono h.bel.size), Nat.le_trans h.size hb.size, h.empty.below hb hbl, (hb.cell (p := ⟨bb, 5, none⟩) hbl).trans h.cell, (hb.frozen (p := ⟨bb, 5, none⟩) hbl).trans h.frz, own_below h.cont hb (Nat.le_refl _), fun j hj => own_below (h.own j hj) hb (Nat.le_refl _), h.dis⟩

theorem Kept.next (h : Kept bb B N ps w wr i b c V) (hbB : bb < B) (hwb : w.heap.size ≤ bb) {g2 c2 g cap : Nat} (hnew : wr.ownsRow B 22 1 (.slice (some ⟨g2, 0, none⟩) N c2) N ps) (hfar : ∀ j, j < i → b j ≠ g2)
    (hown : W1.ownsRow B 51 1 (.slice (some ⟨g, 0, none⟩) (i + 1) cap) (i + 1) ((List.range i).map (rowV b (fun _ => N) c) ++ [.slice (some ⟨g2, 0, none⟩) N c2])) {row : Option Nat} (hrow : row = none ∨ row = V.ownBlock) (hgr : wr.grownBy W1 row) :
    Kept bb B N ps w (W1.setCell ⟨bb, 5, none⟩ (.slice (some ⟨g, 0, none⟩) (i + 1) cap)) (i + 1) (fun j => if j = i then g2 else b j) (fun j => if j = i then c2 else c j) (.slice (some ⟨g, 0, none⟩) (i + 1) cap) := by
  have hrB : ∀ k, row = some k → B ≤ k := fun k hk => by
    rcases hrow with rfl | rfl
    · cases hk
    · exact (h.cont.lt k hk).1
  have hne : some bb ≠ row := fun e1 => by have := hrB bb e1.symm; omega
  have hbl : bb < wr.heap.size := by have := h.size; omega
  have kind : ∀ {v : Value} {k : Nat} {xs : List Value}, wr.ownsRow B 22 1 v k xs → v.ownBlock = none ∨ v.ownBlock ≠ row := fun {v k xs} hv => by
    cases hvb : v.ownBlock with
    | none => exact .inl rfl
    | some z =>
      refine .inr ?_
      rcases hrow with rfl | rfl
      · simp
      · rcases own_apart h.cont hv (by decide) with h1 | h1
        · rw [hvb] at h1; cases h1
        · rw [← hvb]; exact h1
  have hcW : W1.cell? ⟨bb, 5, none⟩ = some V := hgr.cell h.cell hne
  refine ⟨(h.bel.grown hgr h.bel.size (fun k hk => by have := hrB k hk; omega)).setCell hwb _, by simpa using Nat.le_trans h.size hgr.size, fun f hf hf5 => ?_, ?_, ?_, ?_, fun j hj => ?_, fun i' j' hi' hj' hij => ?_⟩
  · rw [World.cell?_setCell_other _ _ _ _ (by simp)]
    exact hgr.cell (h.empty f hf hf5) hne
  · exact World.cell?_setCell_same _ _ _ hcW
  · have := (hgr.frozen_far ⟨bb, 5, none⟩ hbl hne).trans h.frz
    simpa using this
  · refine ownsRow_setCell_below ?_ hbB _
    have e1 : (List.range (i + 1)).map (rowV (fun j => if j = i then g2 else b j) (fun _ => N) (fun j => if j = i then c2 else c j)) = (List.range i).map (rowV b (fun _ => N) c) ++ [.slice (some ⟨g2, 0, none⟩) N c2] := by
      rw [List.range_succ, List.map_append]
      congr 1
      · apply List.map_congr_left
        intro j hj
        have hlt : j < i := by simpa using hj
        simp [rowV, Nat.ne_of_lt hlt]
      · simp [rowV]
    rw [e1]
    exact hown
  · refine ownsRow_setCell_below ?_ hbB _
    by_cases e2 : j = i
    · subst e2
      simp only [rowV, if_pos]
      exact hnew.kept hgr (kind hnew)
    · simp only [rowV, if_neg e2]
      exact (h.own j (by omega)).kept hgr (kind (h.own j (by omega)))
  · by_cases e1 : i' = i
    · have e2 : j' ≠ i := fun e => hij (e1.trans e.symm)
      simp only [if_pos e1, if_neg e2]
      exact Ne.symm (hfar j' (by omega))
    · by_cases e2 : j' = i
      · simp only [if_neg e1, if_pos e2]
        exact hfar i' (by omega)
      · simp only [if_neg e1, if_neg e2]
        exact h.dis i' j' (by omega) (by omega) hij

end

theorem shareErr_len {t : Int} {zs : List Int} (he : shareErr t zs = 0) : 1 ≤ (shareM t zs).length ∧ (shareM t zs).length ≤ 4096 := by
  have hm : shareM t zs = shareOut t zs := by unfold shareM; rw [if_pos he]
  rw [hm, shareOut_len]
  unfold shareErr at he
  split at he
  · cases he
  · split at he
    · cases he
    · omega

theorem shareErr_not {t : Int} {zs : List Int} (he : ¬ shareErr t zs = 0) : (shareM t zs).length = 0 := by
  unfold shareM; rw [if_neg he]; rfl

set_option maxRecDepth 100000 in
set_option maxHeartbeats 4000000 in
theorem own_walk (t : Int) (a : Option Addr) (len cap : Nat) (zs : List Int) (w : World) (hl : zs.length = len) (h : Nums .i64 w a zs) (ht : Tab w) :
    Calls Tryz.prog 3 #[.int .i64 t, .slice a len cap] w fun e w' => e = .returned (.bool true) ∧ Below w.heap.size w w' := by
  have CW := hide works_any
  have HT := hide ht
  have HR := hide h
  have HL := hide hl
  clear ht h hl
  go_enter Tryz.func3, Tryz.ntmps3
  go_wp2_with fail
  refine (CW.out _ HT.out).mono ?_
  rintro _ w1 ⟨rfl, hb1⟩
  go_wp2_with fail
  have HB1 := hide hb1
  clear hb1
  have hwb : w.heap.size ≤ w1.heap.size := HB1.out.size
  generalize hA : w1.alloc (.cells #[.slice none 0 0, .slice none 0 0, .slice none 0 0, .slice none 0 0, .slice none 0 0, .slice none 0 0, .slice none 0 0, .slice none 0 0, .slice none 0 0, .slice none 0 0, .slice none 0 0, .slice none 0 0, .slice none 0 0, .slice none 0 0, .slice none 0 0, .slice none 0 0, .slice none 0 0, .slice none 0 0, .slice none 0 0, .slice none 0 0, .slice none 0 0, .slice none 0 0, .slice none 0 0, .slice none 0 0] 50) = wA
  have hAs : wA.heap.size = w1.heap.size + 1 := by rw [← hA]; simp
  have HA1 : Hid (Below w.heap.size w wA) := by unfold Hid; rw [← hA]; exact HB1.out.alloc HB1.out.size _
  have HA2 : Hid (∀ f, f < 24 → wA.cell? ⟨w1.heap.size, f, none⟩ = some (.slice none 0 0)) := by
    intro f hf
    rw [← hA, cell_of_row _ _ _ _ _ _ (heap_alloc_new w1 _)]
    rcases (show f = 0 ∨ f = 1 ∨ f = 2 ∨ f = 3 ∨ f = 4 ∨ f = 5 ∨ f = 6 ∨ f = 7 ∨ f = 8 ∨ f = 9 ∨ f = 10 ∨ f = 11 ∨ f = 12 ∨ f = 13 ∨ f = 14 ∨ f = 15 ∨ f = 16 ∨ f = 17 ∨ f = 18 ∨ f = 19 ∨ f = 20 ∨ f = 21 ∨ f = 22 ∨ f = 23 by omega) with rfl | rfl | rfl | rfl | rfl | rfl | rfl | rfl | rfl | rfl | rfl | rfl | rfl | rfl | rfl | rfl | rfl | rfl | rfl | rfl | rfl | rfl | rfl | rfl <;> rfl
  have HA3 : Hid (wA.frozen? ⟨w1.heap.size, 5, none⟩ = false) := by
    unfold Hid
    have hq := heap_alloc_new w1 (.cells #[.slice none 0 0, .slice none 0 0, .slice none 0 0, .slice none 0 0, .slice none 0 0, .slice none 0 0, .slice none 0 0, .slice none 0 0, .slice none 0 0, .slice none 0 0, .slice none 0 0, .slice none 0 0, .slice none 0 0, .slice none 0 0, .slice none 0 0, .slice none 0 0, .slice none 0 0, .slice none 0 0, .slice none 0 0, .slice none 0 0, .slice none 0 0, .slice none 0 0, .slice none 0 0, .slice none 0 0] 50)
    rw [hA] at hq
    unfold World.frozen?
    simp only [hq]
    simp
  clear hA HB1
  generalize w1.heap.size = bb at *
  by_cases hse : shareErr t zs = 0
  · have hN := shareErr_len hse
    have HP := hide (shareErr_len hse)
    obtain ⟨N, hNe⟩ : ∃ N, N = (shareM t zs).length := ⟨_, rfl⟩
    obtain ⟨ps, hps⟩ : ∃ ps, ps = (shareM t zs).map (Value.int .i64) := ⟨_, rfl⟩
    rw [← hNe] at hN
    have HN := hide hNe
    have HPS := hide hps
    clear hNe hps HP
    have HK : Hid (Kept bb (bb + 1) N ps w wA 0 (fun _ => 0) (fun _ => 0) (.slice none 0 0)) :=
      ⟨HA1.out, by omega, fun f hf _ => HA2.out f hf, HA2.out 5 (by omega), HA3.out, World.ownsRow_nil _ _ _ _, fun j hj => by omega, fun i' j' hi' => by omega⟩
    clear HA1 HA2 HA3
    go_loopw [6] (fun x wr => ∃ (i : Nat) (b c : Nat → Nat) (V : Value), i ≤ 2 ∧ x = .int .i64 i ∧ Hid (Kept bb (bb + 1) N ps w wr i b c V)) (fun x _ => 2 - (intOf x).toNat)
    case atStart => exact ⟨0, _, _, _, by omega, rfl, HK⟩
    case round =>
      clear HK
      obtain ⟨i, b, c, V, hi, rfl, HK⟩ := hrel
      by_cases hlt : i < 2
      · have CS := hide (share_any t a len cap zs wr HL.out (HR.out.below HK.out.bel (Nat.le_refl _)))
        go_wp2_with fail
        refine CS.out.mono ?_
        rintro _ w2 ⟨x2, n2, cx2, rfl, hn2', _, ho2, hb2⟩
        have hn2 : n2 = N := hn2'.trans HN.out.symm
        subst hn2
        rw [← HPS.out] at ho2
        obtain ⟨g2, c2, e2, hg2, _⟩ := own_some ho2 (by omega)
        simp only [Value.slice.injEq, true_and] at e2
        obtain ⟨rfl, rfl⟩ := e2
        have hsz := HK.out.size
        have HK2 := hide (HK.out.below (by omega) hb2)
        have HO2 : Hid (w2.ownsRow (bb + 1) 22 1 (.slice (some ⟨g2, 0, none⟩) n2 cx2) n2 ps) := own_base ho2 hsz
        have HF : Hid (∀ j, j < i → b j ≠ g2) := fun j hj => by
          have := ((HK.out.own j hj).lt (b j) rfl).2
          omega
        have CP := hide (putMoney_some bb (bb + 1) i V _ (some ⟨g2, 0, none⟩) n2 cx2 w2 (by omega) (by omega) HK2.out.size HK2.out.cell HK2.out.frz (by omega) HK2.out.cont)
        clear CS ho2 hb2 hn2' hg2
        rw [hse]
        go_wp2_with fail
        refine CP.out.mono ?_
        rintro _ w3 ⟨rfl, g, cp, W1, hw3, hown, row, hrow, hgr⟩
        have HK3 := hide (HK2.out.next (by omega) hwb HO2.out HF.out hown hrow hgr)
        rw [← hw3] at HK3
        clear hw3 hown hgr CP HK HK2
        go_wp2_with fail
        go_roundw
        case rel => exact ⟨i + 1, _, _, _, by omega, by go_num, HK3⟩
        case measure => simp [intOf]; omega
      · have hie : i = 2 := by omega
        subst hie
        obtain ⟨g, cm, hV, _⟩ := own_some HK.out.cont (by omega)
        subst hV
        have hsz := HK.out.size
        have CA := hide (apart_Money bb (bb + 1) wr (by omega) HK.out.empty (apartMoney_some bb (bb + 1) g cm 2 b (fun _ => N) c (fun _ => ps) wr (by omega) (by omega) (fun j _ => ⟨by omega, by omega⟩) HK.out.dis HK.out.cell ⟨Below.refl _ _, HK.out.cont, HK.out.own⟩))
        go_wp2_with fail
        refine CA.out.mono ?_
        rintro _ w4 ⟨rfl, hb4⟩
        go_wp2_with fail
        go_ret
        exact ⟨rfl, HK.out.bel.trans (hb4.mono (by omega))⟩
  · have HZ := hide (shareErr_not hse)
    go_loopw [6] (fun x wr => ∃ (i : Nat), i ≤ 2 ∧ x = .int .i64 i ∧ Hid (Below wA.heap.size wA wr)) (fun x _ => 2 - (intOf x).toNat)
    case atStart => exact ⟨0, by omega, rfl, Below.refl _ _⟩
    case round =>
      obtain ⟨i, hi, rfl, HK⟩ := hrel
      have HW : Hid (Below w.heap.size w wr) := HA1.out.trans (HK.out.mono HA1.out.size)
      by_cases hlt : i < 2
      · have CS := hide (share_any t a len cap zs wr HL.out (HR.out.below HW.out (Nat.le_refl _)))
        clear HA1 HA2 HA3
        go_wp2_with fail
        refine CS.out.mono ?_
        rintro _ w2 ⟨x2, n2, cx2, rfl, hn2', _, _, hb2⟩
        have hn2 : n2 = 0 := hn2'.trans HZ.out
        clear hn2'
        subst hn2
        have HB2 := hide hb2
        clear hb2 CS
        go_wp2_with fail
        refine (putMoney_nil bb none 0 w2).mono ?_
        rintro _ w3 ⟨rfl, hww⟩
        subst w3
        go_wp2_with fail
        go_roundw
        case rel => exact ⟨i + 1, by omega, by go_num, HK.out.trans (HB2.out.mono HK.out.size)⟩
        case measure => simp [intOf]; omega
      · have hall : ∀ f, f < 24 → wr.cell? ⟨bb, f, none⟩ = some (.slice none 0 0) := fun f hf => (HK.out.cell (p := ⟨bb, f, none⟩) (by simp; omega)).trans (HA2.out f hf)
        have CA := hide (apart_Money bb (bb + 1) wr (by omega) (fun f hf _ => hall f hf) ((nilMoney bb wr (hall 5 (by omega))).mono (fun e w' h => ⟨h.1, by rw [h.2]; exact Below.refl _ _⟩)))
        clear hall
        go_wp2_with fail
        refine CA.out.mono ?_
        rintro _ w4 ⟨rfl, hb4⟩
        go_wp2_with fail
        go_ret
        exact ⟨rfl, HW.out.trans (hb4.mono (by omega))⟩

end Go.Proofs.YthpbadnedhjncabGreatDoor
