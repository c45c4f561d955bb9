/- What the book holds, two kinds of lists; a list put to it. -/
import Derived.Test.YtlllgndbcagkgabApartS
import Derived.Test.YtlllgndbcagkgabApart
namespace Go.Proofs.Ytlllgndbcagkgab
open Go.RowKit

theorem putT_nil (bb : Nat) (x : Option Addr) (cx : Nat) (w : World) : Calls Try.prog 7 #[.pointer (some ⟨bb, 0, none⟩), .slice x 0 cx] w fun e w' => e = .returned (.tuple #[]) ∧ w' = w := by
  go_enter Try.func7, Try.ntmps7
  go_wp2_with fail
  go_end0
  exact ⟨rfl, rfl⟩

set_option maxRecDepth 100000 in
set_option maxHeartbeats 800000 in
theorem putT_some (bb B m : Nat) (V : Value) (xs : List Value) (x : Option Addr) (n cx : Nat) (w : World) (hn : 1 ≤ n) (hm : m ≤ 1000000) (hB : B ≤ w.heap.size) (hV : w.cell? ⟨bb, 13, none⟩ = some V) (hf : w.frozen? ⟨bb, 13, none⟩ = false) (hbb : bb < B)
    (ho : w.ownsRow B 49 1 V m xs) : Calls Try.prog 7 #[.pointer (some ⟨bb, 0, none⟩), .slice x n cx] w fun e w' => e = .returned (.tuple #[]) ∧
      ∃ g cap W1, w' = W1.setCell ⟨bb, 13, none⟩ (.slice (some ⟨g, 0, none⟩) (m + 1) cap) ∧ W1.ownsRow B 49 1 (.slice (some ⟨g, 0, none⟩) (m + 1) cap) (m + 1) (xs ++ [.slice x n cx]) ∧ ∃ row, (row = none ∨ row = V.ownBlock) ∧ w.grownBy W1 row := by
  obtain ⟨iL, hiL, zL0, zL1, zL2⟩ := info_parts infoToks
  have HO := hide ho
  clear ho
  have hbl : bb < w.heap.size := by omega
  go_enter Try.func7, Try.ntmps7
  go_wp2_with (at_builtin; go_must (refine wpList_append_two _ rfl _ _ 36 rfl B 49 iL (.slice none 0 0) 1 24 Try.underlying36 hiL zL0 zL1 zL2 rfl (by decide) _ m xs rfl (HO.out.alloc _) ⟨w.heap.size, 0, none⟩ 1 [.slice x n cx] rfl rfl (cell_one_new _ _ _) (by simp [Value.oneCell']) (by unfold maxLen; omega) (by omega) (by simp; omega) ?_))
  intro g cap W1 hown hg
  obtain ⟨row, hrow, hgr⟩ : ∃ row, (row = none ∨ row = V.ownBlock) ∧ w.grownBy W1 row := by
    have ha : ∀ row, w.grownBy (w.alloc (.cells #[.slice x n cx] 49)) row := fun row => ⟨rfl, rfl, rfl, by simp, fun k hk _ => Go.heap_alloc_old w _ hk⟩
    rcases hg with ⟨e1, h1⟩ | ⟨_, h1⟩
    · exact ⟨some g, .inr e1.symm, (ha _).trans h1⟩
    · exact ⟨none, .inl rfl, (ha _).trans h1⟩
  have hne : some bb ≠ row := by
    rcases hrow with rfl | rfl
    · simp
    · intro e1
      have := (HO.out.lt bb e1.symm).1
      omega
  have hcW : W1.cell? ⟨bb, 13, none⟩ = some V := hgr.cell hV hne
  have hfW : W1.frozen? ⟨bb, 13, none⟩ = false := (hgr.frozen_far ⟨bb, 13, none⟩ hbl hne).trans hf
  have HG := hide hgr
  have HW := hide hown
  clear hgr hown hg
  go_wp2_with fail
  go_end0
  exact ⟨rfl, g, cap, W1, rfl, HW.out, row, hrow, HG.out⟩

theorem putS_nil (bb : Nat) (x : Option Addr) (cx : Nat) (w : World) : Calls Try.prog 8 #[.pointer (some ⟨bb, 0, none⟩), .slice x 0 cx] w fun e w' => e = .returned (.tuple #[]) ∧ w' = w := by
  go_enter Try.func8, Try.ntmps8
  go_wp2_with fail
  go_end0
  exact ⟨rfl, rfl⟩

set_option maxRecDepth 100000 in
set_option maxHeartbeats 800000 in
theorem putS_some (bb B m : Nat) (V : Value) (xs : List Value) (x : Option Addr) (n cx : Nat) (w : World) (hn : 1 ≤ n) (hm : m ≤ 1000000) (hB : B ≤ w.heap.size) (hV : w.cell? ⟨bb, 2, none⟩ = some V) (hf : w.frozen? ⟨bb, 2, none⟩ = false) (hbb : bb < B)
    (ho : w.ownsRow B 53 1 V m xs) : Calls Try.prog 8 #[.pointer (some ⟨bb, 0, none⟩), .slice x n cx] w fun e w' => e = .returned (.tuple #[]) ∧
      ∃ g cap W1, w' = W1.setCell ⟨bb, 2, none⟩ (.slice (some ⟨g, 0, none⟩) (m + 1) cap) ∧ W1.ownsRow B 53 1 (.slice (some ⟨g, 0, none⟩) (m + 1) cap) (m + 1) (xs ++ [.slice x n cx]) ∧ ∃ row, (row = none ∨ row = V.ownBlock) ∧ w.grownBy W1 row := by
  obtain ⟨iL, hiL, zL0, zL1, zL2⟩ := info_parts infoStrs
  have HO := hide ho
  clear ho
  have hbl : bb < w.heap.size := by omega
  go_enter Try.func8, Try.ntmps8
  go_wp2_with (at_builtin; go_must (refine wpList_append_two _ rfl _ _ 25 rfl B 53 iL (.slice none 0 0) 1 24 Try.underlying25 hiL zL0 zL1 zL2 rfl (by decide) _ m xs rfl (HO.out.alloc _) ⟨w.heap.size, 0, none⟩ 1 [.slice x n cx] rfl rfl (cell_one_new _ _ _) (by simp [Value.oneCell']) (by unfold maxLen; omega) (by omega) (by simp; omega) ?_))
  intro g cap W1 hown hg
  obtain ⟨row, hrow, hgr⟩ : ∃ row, (row = none ∨ row = V.ownBlock) ∧ w.grownBy W1 row := by
    have ha : ∀ row, w.grownBy (w.alloc (.cells #[.slice x n cx] 53)) row := fun row => ⟨rfl, rfl, rfl, by simp, fun k hk _ => Go.heap_alloc_old w _ hk⟩
    rcases hg with ⟨e1, h1⟩ | ⟨_, h1⟩
    · exact ⟨some g, .inr e1.symm, (ha _).trans h1⟩
    · exact ⟨none, .inl rfl, (ha _).trans h1⟩
  have hne : some bb ≠ row := by
    rcases hrow with rfl | rfl
    · simp
    · intro e1
      have := (HO.out.lt bb e1.symm).1
      omega
  have hcW : W1.cell? ⟨bb, 2, none⟩ = some V := hgr.cell hV hne
  have hfW : W1.frozen? ⟨bb, 2, none⟩ = false := (hgr.frozen_far ⟨bb, 2, none⟩ hbl hne).trans hf
  have HG := hide hgr
  have HW := hide hown
  clear hgr hown hg
  go_wp2_with fail
  go_end0
  exact ⟨rfl, g, cap, W1, rfl, HW.out, row, hrow, HG.out⟩

theorem own_apart2 {w : World} {B B' e1 e2 s1 s2 n m : Nat} {u v : Value} {xs ys : List Value} (h1 : w.ownsRow B e1 s1 u n xs) (h2 : w.ownsRow B' e2 s2 v m ys) (hne : e1 ≠ e2) : v.ownBlock = none ∨ v.ownBlock ≠ u.ownBlock := by
  cases hv : v.ownBlock with
  | none => exact .inl rfl
  | some g =>
    refine .inr (fun e => ?_)
    obtain ⟨c, fz, hc⟩ := Go.Lib.ownsRow_kind h2 g hv
    obtain ⟨c', fz', hc'⟩ := Go.Lib.ownsRow_kind h1 g e.symm
    rw [hc] at hc'
    simp at hc'
    exact hne hc'.2.1.symm

/-- What the book holds of one kind: r rows, alike, apart from one another. -/
structure KeptOne (F e sz f bb B N : Nat) (ps : List Value) (wr : World) (r : Nat) (b c : Nat → Nat) (V : Value) : Prop where
  cell : wr.cell? ⟨bb, F, none⟩ = some V
  frz : wr.frozen? ⟨bb, F, none⟩ = false
  cont : wr.ownsRow B f 1 V r ((List.range r).map (rowV b (fun _ => N) c))
  own : ∀ j, j < r → wr.ownsRow B e sz (rowV b (fun _ => N) c j) N ps
  dis : ∀ i' j', i' < r → j' < r → i' ≠ j' → b i' ≠ b j'
  nil : r = 0 → V = .slice none 0 0

section
variable {F e sz f bb N r : Nat} {ps : List Value} {wr w2 W1 : World} {b c : Nat → Nat} {V : Value}

theorem KeptOne.below (h : KeptOne F e sz f bb (bb + 1) N ps wr r b c V) (hbl : bb < wr.heap.size) (hb : Below wr.heap.size wr w2) : KeptOne F e sz f bb (bb + 1) N ps w2 r b c V :=
  ⟨(hb.cell (p := ⟨bb, F, none⟩) hbl).trans h.cell, (hb.frozen (p := ⟨bb, F, none⟩) hbl).trans h.frz, own_below' h.cont hb (Nat.le_refl _), fun j hj => own_below' (h.own j hj) hb (Nat.le_refl _), h.dis, h.nil⟩

theorem KeptOne.other (h : KeptOne F e sz f bb (bb + 1) N ps wr r b c V) (hbl : bb < wr.heap.size) {F' : Nat} (hF : F ≠ F') {f' s' n' : Nat} {V' : Value} {xs' : List Value} (ho : wr.ownsRow (bb + 1) f' s' V' n' xs') (hfe : f' ≠ e) (hff : f' ≠ f)
    {row : Option Nat} (hrow : row = none ∨ row = V'.ownBlock) (hgr : wr.grownBy W1 row) (U : Value) : KeptOne F e sz f bb (bb + 1) N ps (W1.setCell ⟨bb, F', none⟩ U) r b c V := by
  have hrB : ∀ k, row = some k → bb + 1 ≤ k := fun k hk => by
    rcases hrow with rfl | rfl
    · cases hk
    · exact (ho.lt k hk).1
  have hne : some bb ≠ row := fun e1 => by have := hrB bb e1.symm; omega
  have kind : ∀ {t s : Nat} {v : Value} {k : Nat} {xs : List Value}, f' ≠ t → wr.ownsRow (bb + 1) t s v k xs → v.ownBlock = none ∨ v.ownBlock ≠ row := fun {t s v k xs} hft hv => by
    cases hvb : v.ownBlock with
    | none => exact .inl rfl
    | some z =>
      refine .inr ?_
      rcases hrow with rfl | rfl
      · simp
      · rcases own_apart ho hv hft with h1 | h1
        · rw [hvb] at h1; cases h1
        · rw [← hvb]; exact h1
  refine ⟨?_, ?_, ownsRow_setCell_below (h.cont.kept hgr (kind hff h.cont)) (by simp) _, fun j hj => ownsRow_setCell_below ((h.own j hj).kept hgr (kind hfe (h.own j hj))) (by simp) _, h.dis, h.nil⟩
  · rw [World.cell?_setCell_other _ _ _ _ (by simp)]
    exact hgr.cell h.cell hne
  · have := (hgr.frozen_far ⟨bb, F, none⟩ hbl hne).trans h.frz
    simpa using this

theorem KeptOne.next (h : KeptOne F e sz f bb (bb + 1) N ps wr r b c V) (hbl : bb < wr.heap.size) (hef : f ≠ e) {g2 c2 g cap : Nat} (hnew : wr.ownsRow (bb + 1) e sz (.slice (some ⟨g2, 0, none⟩) N c2) N ps) (hfar : ∀ j, j < r → b j ≠ g2)
    (hown : W1.ownsRow (bb + 1) f 1 (.slice (some ⟨g, 0, none⟩) (r + 1) cap) (r + 1) ((List.range r).map (rowV b (fun _ => N) c) ++ [.slice (some ⟨g2, 0, none⟩) N c2])) {row : Option Nat} (hrow : row = none ∨ row = V.ownBlock) (hgr : wr.grownBy W1 row) :
    KeptOne F e sz f bb (bb + 1) N ps (W1.setCell ⟨bb, F, none⟩ (.slice (some ⟨g, 0, none⟩) (r + 1) cap)) (r + 1) (fun j => if j = r then g2 else b j) (fun j => if j = r then c2 else c j) (.slice (some ⟨g, 0, none⟩) (r + 1) cap) := by
  have hrB : ∀ k, row = some k → bb + 1 ≤ k := fun k hk => by
    rcases hrow with rfl | rfl
    · cases hk
    · exact (h.cont.lt k hk).1
  have hne : some bb ≠ row := fun e1 => by have := hrB bb e1.symm; omega
  have kind : ∀ {v : Value} {k : Nat} {xs : List Value}, wr.ownsRow (bb + 1) e sz v k xs → v.ownBlock = none ∨ v.ownBlock ≠ row := fun {v k xs} hv => by
    cases hvb : v.ownBlock with
    | none => exact .inl rfl
    | some z =>
      refine .inr ?_
      rcases hrow with rfl | rfl
      · simp
      · rcases own_apart h.cont hv hef with h1 | h1
        · rw [hvb] at h1; cases h1
        · rw [← hvb]; exact h1
  have hcW : W1.cell? ⟨bb, F, none⟩ = some V := hgr.cell h.cell hne
  refine ⟨World.cell?_setCell_same _ _ _ hcW, ?_, ?_, fun j hj => ?_, fun i' j' hi' hj' hij => ?_, fun h0 => by omega⟩
  · have := (hgr.frozen_far ⟨bb, F, none⟩ hbl hne).trans h.frz
    simpa using this
  · refine ownsRow_setCell_below ?_ (by simp) _
    have e1 : (List.range (r + 1)).map (rowV (fun j => if j = r then g2 else b j) (fun _ => N) (fun j => if j = r then c2 else c j)) = (List.range r).map (rowV b (fun _ => N) c) ++ [.slice (some ⟨g2, 0, none⟩) N c2] := by
      rw [List.range_succ, List.map_append]
      congr 1
      · apply List.map_congr_left
        intro j hj
        have hlt : j < r := by simpa using hj
        simp [rowV, Nat.ne_of_lt hlt]
      · simp [rowV]
    rw [e1]
    exact hown
  · refine ownsRow_setCell_below ?_ (by simp) _
    by_cases e2 : j = r
    · subst e2
      simp only [rowV, if_pos]
      exact hnew.kept hgr (kind hnew)
    · simp only [rowV, if_neg e2]
      exact (h.own j (by omega)).kept hgr (kind (h.own j (by omega)))
  · by_cases e1 : i' = r
    · have e2 : j' ≠ r := fun e => hij (e1.trans e.symm)
      simp only [if_pos e1, if_neg e2]
      exact Ne.symm (hfar j' (by omega))
    · by_cases e2 : j' = r
      · simp only [if_neg e1, if_pos e2]
        exact hfar i' (by omega)
      · simp only [if_neg e1, if_neg e2]
        exact h.dis i' j' (by omega) (by omega) hij

end

/-- Behind i asks: as many rows, if they hold anything at all. -/
def KT (F e sz f bb N : Nat) (ps : List Value) (i Z : Nat) (wr : World) : Prop := ∃ r b c V, KeptOne F e sz f bb (bb + 1) N ps wr r b c V ∧ (r = if N = 0 then 0 else i) ∧ ∀ j, j < r → b j < Z

theorem KT.below {F e sz f bb N i Z : Nat} {ps : List Value} {wr w2 : World} (h : KT F e sz f bb N ps i Z wr) (hbl : bb < wr.heap.size) (hb : Below wr.heap.size wr w2) : KT F e sz f bb N ps i Z w2 := by
  obtain ⟨r, b, c, V, h1, h2, h3⟩ := h
  exact ⟨r, b, c, V, h1.below hbl hb, h2, h3⟩

theorem KT.now {F e sz f bb N i Z : Nat} {ps : List Value} {wr : World} (h : KT F e sz f bb N ps i Z wr) : KT F e sz f bb N ps i wr.heap.size wr := by
  obtain ⟨r, b, c, V, h1, h2, h3⟩ := h
  exact ⟨r, b, c, V, h1, h2, fun j hj => ((h1.own j hj).lt (b j) rfl).2⟩

theorem putT_any {bb N i Z ZO NO iO FO eO sO fO : Nat} {ps pO : List Value} {w : World} (hi : i ≤ 1000) (hK : KT 13 64 3 49 bb N ps i Z w) (hO : KT FO eO sO fO bb NO pO iO ZO w) (hF : FO ≠ 13) (he : 49 ≠ eO) (hfO : 49 ≠ fO) (hE : Empty2 bb w) (hZ : bb + 1 ≤ Z) (hZs : Z ≤ w.heap.size) (v : Value) (ho : w.ownsRow Z 64 3 v N ps) :
    Calls Try.prog 7 #[.pointer (some ⟨bb, 0, none⟩), v] w fun e w' => e = .returned (.tuple #[]) ∧ KT 13 64 3 49 bb N ps (i + 1) w'.heap.size w' ∧ KT FO eO sO fO bb NO pO iO ZO w' ∧ Empty2 bb w' ∧ Below bb w w' ∧ (∀ (B t s : Nat) (v : Value) (n : Nat) (xs : List Value), bb + 1 ≤ B → t ≠ 49 → w.ownsRow B t s v n xs → w'.ownsRow B t s v n xs) := by
  by_cases hN : N = 0
  · obtain ⟨x, cx, rfl⟩ : ∃ x cx, v = .slice x 0 cx := by
      rcases ho.2 with ⟨e1, _⟩ | ⟨g, cap, cur, e1, _⟩
      · exact ⟨none, 0, e1⟩
      · exact ⟨_, cap, by rw [e1, hN]⟩
    refine (putT_nil bb x cx w).mono ?_
    rintro e w' ⟨rfl, rfl⟩
    obtain ⟨r, b, c, V, h1, h2, h3⟩ := hK
    refine ⟨rfl, ⟨r, b, c, V, h1, ?_, fun j hj => Nat.lt_of_lt_of_le (h3 j hj) hZs⟩, hO, hE, Below.refl _ _, fun _ _ _ _ _ _ _ _ h => h⟩
    rw [h2, if_pos hN, if_pos hN]
  · obtain ⟨r, b, c, V, h1, h2, h3⟩ := hK
    rw [if_neg hN] at h2
    subst h2
    obtain ⟨g2, c2, rfl, hg2, _⟩ := own_some ho (by omega) (by decide)
    refine (putT_some bb (bb + 1) r V _ (some ⟨g2, 0, none⟩) N c2 w (by omega) (by omega) (by omega) h1.cell h1.frz (by omega) h1.cont).mono ?_
    rintro e w' ⟨rfl, g, cp, W1, rfl, hown, row, hrow, hgr⟩
    have hbl : bb < w.heap.size := by omega
    have hrB : ∀ k, row = some k → bb + 1 ≤ k := fun k hk => by
      rcases hrow with rfl | rfl
      · cases hk
      · exact (h1.cont.lt k hk).1
    have hne : some bb ≠ row := fun e1 => by have := hrB bb e1.symm; omega
    have hn := h1.next hbl (by decide) (own_base3 ho hZ) (fun j hj => by have := h3 j hj; omega) hown hrow hgr
    refine ⟨rfl, ⟨r + 1, _, _, _, hn, by rw [if_neg hN], fun j hj => ((hn.own j hj).lt _ rfl).2⟩, ?_, fun f hf ha hb => ?_, ?_, fun B t s v n xs hB ht hv => ?_⟩
    · obtain ⟨r', b', c', V', k1, k2, k3⟩ := hO
      exact ⟨r', b', c', V', k1.other hbl hF h1.cont he hfO hrow hgr _, k2, k3⟩
    · rw [World.cell?_setCell_other _ _ _ _ (by simp; try omega)]
      exact hgr.cell (hE f hf ha hb) hne
    · refine ⟨hgr.os, hgr.tape, hgr.output, by simpa using hgr.size, fun k hk => ?_⟩
      rw [setCell_far _ _ _ _ (by simp; omega)]
      exact hgr.block k (by omega) (fun e1 => by have := hrB k e1.symm; omega)
    · refine ownsRow_setCell_below (hv.kept hgr ?_) (by simp; omega) _
      cases hvb : v.ownBlock with
      | none => exact .inl rfl
      | some z =>
        refine .inr ?_
        rcases hrow with rfl | rfl
        · simp
        · rcases own_apart2 h1.cont hv (Ne.symm ht) with h2 | h2
          · rw [hvb] at h2; cases h2
          · rw [← hvb]; exact h2

theorem putS_any {bb N i Z ZO NO iO FO eO sO fO : Nat} {ps pO : List Value} {w : World} (hi : i ≤ 1000) (hK : KT 2 9 1 53 bb N ps i Z w) (hO : KT FO eO sO fO bb NO pO iO ZO w) (hF : FO ≠ 2) (he : 53 ≠ eO) (hfO : 53 ≠ fO) (hE : Empty2 bb w) (hZ : bb + 1 ≤ Z) (hZs : Z ≤ w.heap.size) (v : Value) (ho : w.ownsRow Z 9 1 v N ps) :
    Calls Try.prog 8 #[.pointer (some ⟨bb, 0, none⟩), v] w fun e w' => e = .returned (.tuple #[]) ∧ KT 2 9 1 53 bb N ps (i + 1) w'.heap.size w' ∧ KT FO eO sO fO bb NO pO iO ZO w' ∧ Empty2 bb w' ∧ Below bb w w' ∧ (∀ (B t s : Nat) (v : Value) (n : Nat) (xs : List Value), bb + 1 ≤ B → t ≠ 53 → w.ownsRow B t s v n xs → w'.ownsRow B t s v n xs) := by
  by_cases hN : N = 0
  · obtain ⟨x, cx, rfl⟩ : ∃ x cx, v = .slice x 0 cx := by
      rcases ho.2 with ⟨e1, _⟩ | ⟨g, cap, cur, e1, _⟩
      · exact ⟨none, 0, e1⟩
      · exact ⟨_, cap, by rw [e1, hN]⟩
    refine (putS_nil bb x cx w).mono ?_
    rintro e w' ⟨rfl, rfl⟩
    obtain ⟨r, b, c, V, h1, h2, h3⟩ := hK
    refine ⟨rfl, ⟨r, b, c, V, h1, ?_, fun j hj => Nat.lt_of_lt_of_le (h3 j hj) hZs⟩, hO, hE, Below.refl _ _, fun _ _ _ _ _ _ _ _ h => h⟩
    rw [h2, if_pos hN, if_pos hN]
  · obtain ⟨r, b, c, V, h1, h2, h3⟩ := hK
    rw [if_neg hN] at h2
    subst h2
    obtain ⟨g2, c2, rfl, hg2, _⟩ := own_some ho (by omega) (by decide)
    refine (putS_some bb (bb + 1) r V _ (some ⟨g2, 0, none⟩) N c2 w (by omega) (by omega) (by omega) h1.cell h1.frz (by omega) h1.cont).mono ?_
    rintro e w' ⟨rfl, g, cp, W1, rfl, hown, row, hrow, hgr⟩
    have hbl : bb < w.heap.size := by omega
    have hrB : ∀ k, row = some k → bb + 1 ≤ k := fun k hk => by
      rcases hrow with rfl | rfl
      · cases hk
      · exact (h1.cont.lt k hk).1
    have hne : some bb ≠ row := fun e1 => by have := hrB bb e1.symm; omega
    have hn := h1.next hbl (by decide) (own_base3 ho hZ) (fun j hj => by have := h3 j hj; omega) hown hrow hgr
    refine ⟨rfl, ⟨r + 1, _, _, _, hn, by rw [if_neg hN], fun j hj => ((hn.own j hj).lt _ rfl).2⟩, ?_, fun f hf ha hb => ?_, ?_, fun B t s v n xs hB ht hv => ?_⟩
    · obtain ⟨r', b', c', V', k1, k2, k3⟩ := hO
      exact ⟨r', b', c', V', k1.other hbl hF h1.cont he hfO hrow hgr _, k2, k3⟩
    · rw [World.cell?_setCell_other _ _ _ _ (by simp; try omega)]
      exact hgr.cell (hE f hf ha hb) hne
    · refine ⟨hgr.os, hgr.tape, hgr.output, by simpa using hgr.size, fun k hk => ?_⟩
      rw [setCell_far _ _ _ _ (by simp; omega)]
      exact hgr.block k (by omega) (fun e1 => by have := hrB k e1.symm; omega)
    · refine ownsRow_setCell_below (hv.kept hgr ?_) (by simp; omega) _
      cases hvb : v.ownBlock with
      | none => exact .inl rfl
      | some z =>
        refine .inr ?_
        rcases hrow with rfl | rfl
        · simp
        · rcases own_apart2 h1.cont hv (Ne.symm ht) with h2 | h2
          · rw [hvb] at h2; cases h2
          · rw [← hvb]; exact h2

end Go.Proofs.Ytlllgndbcagkgab
