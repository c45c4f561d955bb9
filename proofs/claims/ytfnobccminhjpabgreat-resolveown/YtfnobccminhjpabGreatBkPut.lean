/- What the book holds of a kind: rows, apart from one another; a row put to it. -/
import Derived.Test.YtfnobccminhjpabGreatBkApI
import Derived.Test.YtfnobccminhjpabGreatBkApI
import Derived.Test.YtfnobccminhjpabGreatBkApI
import Derived.Test.YtfnobccminhjpabGreatBkNil
namespace Go.Proofs.YtfnobccminhjpabGreat
open Go.RowKit

abbrev Rw := Nat × Nat × Nat
def rowT (r : Rw) : Value := .slice (some ⟨r.1, 0, none⟩) r.2.1 r.2.2
structure KR (F e f M bb Z : Nat) (wr : World) (rs : List Rw) (V : Value) : Prop where
  cell : wr.cell? ⟨bb, F, none⟩ = some V
  frz : wr.frozen? ⟨bb, F, none⟩ = false
  cont : wr.ownsRow (bb + 1) f 1 V rs.length (rs.map rowT)
  own : ∀ r ∈ rs, ∃ xs, wr.ownsRow (bb + 1) e 1 (rowT r) r.2.1 xs
  dis : rs.Pairwise (fun r r' => r.1 ≠ r'.1)
  pos : ∀ r ∈ rs, 1 ≤ r.2.1 ∧ r.2.1 ≤ M
  low : ∀ r ∈ rs, r.1 < Z
  nil : rs = [] → V = .slice none 0 0
/-- What a put leaves as it was. -/
structure Pf (F f bb : Nat) (w w' : World) : Prop where
  bel : Below bb w w'
  row : ∀ (B t s : Nat) (v : Value) (n : Nat) (xs : List Value), bb + 1 ≤ B → t ≠ f → w.ownsRow B t s v n xs → w'.ownsRow B t s v n xs
  cell : ∀ F', F' ≠ F → ∀ u, w.cell? ⟨bb, F', none⟩ = some u → w'.cell? ⟨bb, F', none⟩ = some u
  frz : ∀ F', w'.frozen? ⟨bb, F', none⟩ = w.frozen? ⟨bb, F', none⟩
  blk : ∀ k cs t fz, w.heap[k]? = some (.cells cs t fz) → t ≠ f → k ≠ bb → w'.heap[k]? = w.heap[k]?
  size : w.heap.size ≤ w'.heap.size
theorem Pf.refl (F f bb : Nat) (w : World) : Pf F f bb w w := ⟨Below.refl _ _, fun _ _ _ _ _ _ _ _ h => h, fun _ _ _ h => h, fun _ => rfl, fun _ _ _ _ _ _ _ => rfl, Nat.le_refl _⟩

section
variable {F e f M bb Z : Nat} {wr w2 W1 : World} {rs : List Rw} {V : Value}
theorem KR.below (h : KR F e f M bb Z wr rs V) (hbl : bb < wr.heap.size) (hb : Below wr.heap.size wr w2) : KR F e f M bb Z w2 rs V :=
  ⟨(hb.cell (p := ⟨bb, F, none⟩) hbl).trans h.cell, (hb.frozen (p := ⟨bb, F, none⟩) hbl).trans h.frz, own_below' h.cont hb (Nat.le_refl _), fun r hr => by obtain ⟨xs, hx⟩ := h.own r hr; exact ⟨xs, own_below' hx hb (Nat.le_refl _)⟩, h.dis, h.pos, h.low, h.nil⟩
theorem KR.up {Z' : Nat} (h : KR F e f M bb Z wr rs V) (hz : Z ≤ Z') : KR F e f M bb Z' wr rs V := ⟨h.cell, h.frz, h.cont, h.own, h.dis, h.pos, fun r hr => Nat.lt_of_lt_of_le (h.low r hr) hz, h.nil⟩
theorem KR.now (h : KR F e f M bb Z wr rs V) : KR F e f M bb wr.heap.size wr rs V := ⟨h.cell, h.frz, h.cont, h.own, h.dis, h.pos, fun r hr => by obtain ⟨xs, hx⟩ := h.own r hr; exact (hx.lt r.1 rfl).2, h.nil⟩
theorem KR.other {F' f' : Nat} (h : KR F e f M bb Z wr rs V) (hp : Pf F' f' bb wr w2) (hF : F ≠ F') (he : e ≠ f') (hf : f ≠ f') : KR F e f M bb Z w2 rs V :=
  ⟨hp.cell F hF _ h.cell, (hp.frz F).trans h.frz, hp.row _ _ _ _ _ _ (Nat.le_refl _) hf h.cont, fun r hr => by obtain ⟨xs, hx⟩ := h.own r hr; exact ⟨xs, hp.row _ _ _ _ _ _ (Nat.le_refl _) he hx⟩, h.dis, h.pos, h.low, h.nil⟩
theorem Empty3.other {F' f' : Nat} (h : Empty3 bb wr) (hp : Pf F' f' bb wr w2) (hF : F' = 1 ∨ F' = 2 ∨ F' = 15) : Empty3 bb w2 := fun g hg h1 h2 h3 => hp.cell g (by omega) _ (h g hg h1 h2 h3)
theorem KR.next (h : KR F e f M bb Z wr rs V) (hbl : bb < wr.heap.size) (hef : f ≠ e) {g2 c2 N Z1 g cap Z2 : Nat} {ps : List Value} (hnew : wr.ownsRow Z1 e 1 (.slice (some ⟨g2, 0, none⟩) N c2) N ps) (hZ : Z ≤ Z1) (hb1 : bb + 1 ≤ Z1) (hN : 1 ≤ N ∧ N ≤ M) (hZ2 : Z ≤ Z2) (hg2 : g2 < Z2)
    (hown : W1.ownsRow (bb + 1) f 1 (.slice (some ⟨g, 0, none⟩) (rs.length + 1) cap) (rs.length + 1) (rs.map rowT ++ [.slice (some ⟨g2, 0, none⟩) N c2])) {row : Option Nat} (hrow : row = none ∨ row = V.ownBlock) (hgr : wr.grownBy W1 row) :
    KR F e f M bb Z2 (W1.setCell ⟨bb, F, none⟩ (.slice (some ⟨g, 0, none⟩) (rs.length + 1) cap)) (rs ++ [(g2, N, c2)]) (.slice (some ⟨g, 0, none⟩) (rs.length + 1) cap) ∧ Pf F f bb wr (W1.setCell ⟨bb, F, none⟩ (.slice (some ⟨g, 0, none⟩) (rs.length + 1) cap)) := by
  have hrB : ∀ k, row = some k → bb + 1 ≤ k := fun k hk => by
    rcases hrow with rfl | rfl
    · cases hk
    · exact (h.cont.lt k hk).1
  have hne : some bb ≠ row := fun e1 => by have := hrB bb e1.symm; omega
  have kind : ∀ {B t s : Nat} {v : Value} {k : Nat} {xs : List Value}, t ≠ f → wr.ownsRow B t s v k xs → v.ownBlock = none ∨ v.ownBlock ≠ row := fun {B t s v k xs} ht hv => by
    cases hvb : v.ownBlock with
    | none => exact .inl rfl
    | some z =>
      refine .inr ?_
      rcases hrow with rfl | rfl
      · simp
      · intro e1
        obtain ⟨c, fz, hc⟩ := Go.Lib.ownsRow_kind hv z hvb
        obtain ⟨c', fz', hc'⟩ := Go.Lib.ownsRow_kind h.cont z e1.symm
        rw [hc] at hc'
        simp at hc'
        exact ht hc'.2.1
  have stay : ∀ (B t s : Nat) (v : Value) (n : Nat) (xs : List Value), bb + 1 ≤ B → t ≠ f → wr.ownsRow B t s v n xs → (W1.setCell ⟨bb, F, none⟩ (.slice (some ⟨g, 0, none⟩) (rs.length + 1) cap)).ownsRow B t s v n xs := fun B t s v n xs hB ht hv => ownsRow_setCell_below (hv.kept hgr (kind ht hv)) (by simp; omega) _
  have hcW : W1.cell? ⟨bb, F, none⟩ = some V := hgr.cell h.cell hne
  have hlen : (rs ++ [(g2, N, c2)]).length = rs.length + 1 := by simp
  refine ⟨⟨World.cell?_setCell_same _ _ _ hcW, ?_, ?_, ?_, ?_, ?_, ?_, fun h0 => by simp at h0⟩, ⟨?_, stay, ?_, ?_, ?_, by simpa using hgr.size⟩⟩
  · have := (hgr.frozen_far ⟨bb, F, none⟩ hbl hne).trans h.frz
    simpa using this
  · refine ownsRow_setCell_below ?_ (by simp) _
    rw [hlen, List.map_append]
    exact hown
  · intro r hr
    rcases List.mem_append.1 hr with hr | hr
    · obtain ⟨xs, hx⟩ := h.own r hr
      exact ⟨xs, stay _ _ _ _ _ _ (Nat.le_refl _) (Ne.symm hef) hx⟩
    · have hr' : r = (g2, N, c2) := by simpa using hr
      subst hr'
      exact ⟨ps, stay _ _ _ _ _ _ (Nat.le_refl _) (Ne.symm hef) (own_base3 hnew hb1)⟩
  · refine List.pairwise_append.2 ⟨h.dis, List.pairwise_singleton _ _, fun r hr r' hr' => ?_⟩
    have e1 : r' = (g2, N, c2) := by simpa using hr'
    subst e1
    have h1 := h.low r hr
    have h2 := (hnew.lt g2 rfl).1
    show r.1 ≠ g2
    omega
  · intro r hr
    rcases List.mem_append.1 hr with hr | hr
    · exact h.pos r hr
    · have hr' : r = (g2, N, c2) := by simpa using hr
      subst hr'
      exact hN
  · intro r hr
    rcases List.mem_append.1 hr with hr | hr
    · exact Nat.lt_of_lt_of_le (h.low r hr) hZ2
    · have hr' : r = (g2, N, c2) := by simpa using hr
      subst hr'
      exact hg2
  · refine ⟨hgr.os, hgr.tape, hgr.output, by simpa using hgr.size, fun k hk => ?_⟩
    rw [setCell_far _ _ _ _ (by simp; omega)]
    exact hgr.block k (by omega) (fun e1 => by have := hrB k e1.symm; omega)
  · intro F' hF u hu
    rw [World.cell?_setCell_other _ _ _ _ (by simp)]
    exact hgr.cell hu hne
  · intro F'
    have := hgr.frozen_far ⟨bb, F', none⟩ hbl hne
    simpa using this
  · intro k cs t fz hk ht hkb
    rw [setCell_far _ _ _ _ hkb]
    refine hgr.block k (Array.getElem?_eq_some_iff.1 hk).1 fun e1 => ?_
    rcases hrow with rfl | rfl
    · cases e1
    · obtain ⟨c, fz', hc⟩ := Go.Lib.ownsRow_kind h.cont k e1.symm
      rw [hk] at hc
      simp at hc
      exact ht hc.2.1
end

theorem bookS_nil (bb : Nat) (x : Option Addr) (cx : Nat) (w : World) : Calls Tryz.prog 7 #[.pointer (some ⟨bb, 0, none⟩), .slice x 0 cx] w fun e w' => e = .returned (.tuple #[]) ∧ w' = w := by
  go_enter Tryz.func7, Tryz.ntmps7
  go_wp2_with fail
  go_end0
  exact ⟨rfl, rfl⟩
set_option maxRecDepth 100000 in
set_option maxHeartbeats 800000 in
theorem bookS_some (bb B m : Nat) (V : Value) (xs : List Value) (x : Option Addr) (n cx : Nat) (w : World) (hn : 1 ≤ n) (hm : m ≤ 1000000) (hB : B ≤ w.heap.size) (hV : w.cell? ⟨bb, 2, none⟩ = some V) (hf : w.frozen? ⟨bb, 2, none⟩ = false) (hbb : bb < B)
    (ho : w.ownsRow B 22 1 V m xs) : Calls Tryz.prog 7 #[.pointer (some ⟨bb, 0, none⟩), .slice x n cx] w fun e w' => e = .returned (.tuple #[]) ∧
      ∃ g cap W1, w' = W1.setCell ⟨bb, 2, none⟩ (.slice (some ⟨g, 0, none⟩) (m + 1) cap) ∧ W1.ownsRow B 22 1 (.slice (some ⟨g, 0, none⟩) (m + 1) cap) (m + 1) (xs ++ [.slice x n cx]) ∧ ∃ row, (row = none ∨ row = V.ownBlock) ∧ w.grownBy W1 row := by
  obtain ⟨iL, hiL, zL0, zL1, zL2⟩ := info_parts' infoStrs
  have HO := hide ho
  clear ho
  have hbl : bb < w.heap.size := by omega
  go_enter Tryz.func7, Tryz.ntmps7
  go_wp2_with (at_builtin; go_must (refine wpList_append_two _ rfl _ _ 25 rfl B 22 iL (.slice none 0 0) 1 24 Tryz.underlying25 hiL zL0 zL1 zL2 rfl (by decide) _ m xs rfl (HO.out.alloc _) ⟨w.heap.size, 0, none⟩ 1 [.slice x n cx] rfl rfl (cell_one_new _ _ _) (by simp [Value.oneCell']) (by unfold maxLen; omega) (by omega) (by simp; omega) ?_))
  intro g cap W1 hown hg
  obtain ⟨row, hrow, hgr⟩ : ∃ row, (row = none ∨ row = V.ownBlock) ∧ w.grownBy W1 row := by
    have ha : ∀ row, w.grownBy (w.alloc (.cells #[.slice x n cx] 22)) row := fun row => ⟨rfl, rfl, rfl, by simp, fun k hk _ => Go.heap_alloc_old w _ hk⟩
    rcases hg with ⟨e1, h1⟩ | ⟨_, h1⟩
    · exact ⟨some g, .inr e1.symm, (ha _).trans h1⟩
    · exact ⟨none, .inl rfl, (ha _).trans h1⟩
  have hne : some bb ≠ row := by
    rcases hrow with rfl | rfl
    · simp
    · intro e1
      have := (HO.out.lt bb e1.symm).1
      omega
  have hcW : W1.cell? ⟨bb, 2, none⟩ = some V := hgr.cell hV hne
  have hfW : W1.frozen? ⟨bb, 2, none⟩ = false := (hgr.frozen_far ⟨bb, 2, none⟩ hbl hne).trans hf
  have HG := hide hgr
  have HW := hide hown
  clear hgr hown hg
  go_wp2_with fail
  go_end0
  exact ⟨rfl, g, cap, W1, rfl, HW.out, row, hrow, HG.out⟩
theorem bookS_any {M bb N Z Z1 Z2 : Nat} {rs : List Rw} {V : Value} {ps : List Value} {w : World} (hr : rs.length ≤ 1000) (hK : KR 2 9 22 M bb Z w rs V) (hbl : bb < w.heap.size) (hZ : Z ≤ Z1) (hb1 : bb + 1 ≤ Z1) (hZ2 : Z ≤ Z2) (v : Value) (ho : w.ownsRow Z1 9 1 v N ps) (hN : N ≤ M) (hv : ∀ g, v.ownBlock = some g → g < Z2) :
    Calls Tryz.prog 7 #[.pointer (some ⟨bb, 0, none⟩), v] w fun e w' => e = .returned (.tuple #[]) ∧ (∃ rs' V', KR 2 9 22 M bb Z2 w' rs' V' ∧ rs'.length ≤ rs.length + 1) ∧ Pf 2 22 bb w w' := by
  by_cases hN0 : N = 0
  · obtain ⟨x, cx, rfl⟩ : ∃ x cx, v = .slice x 0 cx := by
      rcases ho.2 with ⟨e1, _⟩ | ⟨g, cap, cur, e1, _⟩
      · exact ⟨none, 0, e1⟩
      · exact ⟨_, cap, by rw [e1, hN0]⟩
    refine (bookS_nil bb x cx w).mono ?_
    rintro e w' ⟨rfl, rfl⟩
    exact ⟨rfl, ⟨rs, V, hK.up hZ2, Nat.le_succ _⟩, Pf.refl _ _ _ _⟩
  · obtain ⟨g2, c2, rfl, hg2, _⟩ := own_some ho (by omega) (by decide)
    refine (bookS_some bb (bb + 1) rs.length V _ (some ⟨g2, 0, none⟩) N c2 w (by omega) (by omega) (by omega) hK.cell hK.frz (by omega) hK.cont).mono ?_
    rintro e w' ⟨rfl, g, cp, W1, rfl, hown, row, hrow, hgr⟩
    obtain ⟨h1, h2⟩ := hK.next hbl (by decide) ho hZ hb1 ⟨by omega, hN⟩ hZ2 (hv g2 rfl) hown hrow hgr
    exact ⟨rfl, ⟨_, _, h1, by simp⟩, h2⟩

theorem bookI_nil (bb : Nat) (x : Option Addr) (cx : Nat) (w : World) : Calls Tryz.prog 8 #[.pointer (some ⟨bb, 0, none⟩), .slice x 0 cx] w fun e w' => e = .returned (.tuple #[]) ∧ w' = w := by
  go_enter Tryz.func8, Tryz.ntmps8
  go_wp2_with fail
  go_end0
  exact ⟨rfl, rfl⟩
set_option maxRecDepth 100000 in
set_option maxHeartbeats 800000 in
theorem bookI_some (bb B m : Nat) (V : Value) (xs : List Value) (x : Option Addr) (n cx : Nat) (w : World) (hn : 1 ≤ n) (hm : m ≤ 1000000) (hB : B ≤ w.heap.size) (hV : w.cell? ⟨bb, 1, none⟩ = some V) (hf : w.frozen? ⟨bb, 1, none⟩ = false) (hbb : bb < B)
    (ho : w.ownsRow B 61 1 V m xs) : Calls Tryz.prog 8 #[.pointer (some ⟨bb, 0, none⟩), .slice x n cx] w fun e w' => e = .returned (.tuple #[]) ∧
      ∃ g cap W1, w' = W1.setCell ⟨bb, 1, none⟩ (.slice (some ⟨g, 0, none⟩) (m + 1) cap) ∧ W1.ownsRow B 61 1 (.slice (some ⟨g, 0, none⟩) (m + 1) cap) (m + 1) (xs ++ [.slice x n cx]) ∧ ∃ row, (row = none ∨ row = V.ownBlock) ∧ w.grownBy W1 row := by
  obtain ⟨iL, hiL, zL0, zL1, zL2⟩ := info_parts' infoIntsL
  have HO := hide ho
  clear ho
  have hbl : bb < w.heap.size := by omega
  go_enter Tryz.func8, Tryz.ntmps8
  go_wp2_with (at_builtin; go_must (refine wpList_append_two _ rfl _ _ 37 rfl B 61 iL (.slice none 0 0) 1 24 Tryz.underlying37 hiL zL0 zL1 zL2 rfl (by decide) _ m xs rfl (HO.out.alloc _) ⟨w.heap.size, 0, none⟩ 1 [.slice x n cx] rfl rfl (cell_one_new _ _ _) (by simp [Value.oneCell']) (by unfold maxLen; omega) (by omega) (by simp; omega) ?_))
  intro g cap W1 hown hg
  obtain ⟨row, hrow, hgr⟩ : ∃ row, (row = none ∨ row = V.ownBlock) ∧ w.grownBy W1 row := by
    have ha : ∀ row, w.grownBy (w.alloc (.cells #[.slice x n cx] 61)) row := fun row => ⟨rfl, rfl, rfl, by simp, fun k hk _ => Go.heap_alloc_old w _ hk⟩
    rcases hg with ⟨e1, h1⟩ | ⟨_, h1⟩
    · exact ⟨some g, .inr e1.symm, (ha _).trans h1⟩
    · exact ⟨none, .inl rfl, (ha _).trans h1⟩
  have hne : some bb ≠ row := by
    rcases hrow with rfl | rfl
    · simp
    · intro e1
      have := (HO.out.lt bb e1.symm).1
      omega
  have hcW : W1.cell? ⟨bb, 1, none⟩ = some V := hgr.cell hV hne
  have hfW : W1.frozen? ⟨bb, 1, none⟩ = false := (hgr.frozen_far ⟨bb, 1, none⟩ hbl hne).trans hf
  have HG := hide hgr
  have HW := hide hown
  clear hgr hown hg
  go_wp2_with fail
  go_end0
  exact ⟨rfl, g, cap, W1, rfl, HW.out, row, hrow, HG.out⟩
theorem bookI_any {M bb N Z Z1 Z2 : Nat} {rs : List Rw} {V : Value} {ps : List Value} {w : World} (hr : rs.length ≤ 1000) (hK : KR 1 3 61 M bb Z w rs V) (hbl : bb < w.heap.size) (hZ : Z ≤ Z1) (hb1 : bb + 1 ≤ Z1) (hZ2 : Z ≤ Z2) (v : Value) (ho : w.ownsRow Z1 3 1 v N ps) (hN : N ≤ M) (hv : ∀ g, v.ownBlock = some g → g < Z2) :
    Calls Tryz.prog 8 #[.pointer (some ⟨bb, 0, none⟩), v] w fun e w' => e = .returned (.tuple #[]) ∧ (∃ rs' V', KR 1 3 61 M bb Z2 w' rs' V' ∧ rs'.length ≤ rs.length + 1) ∧ Pf 1 61 bb w w' := by
  by_cases hN0 : N = 0
  · obtain ⟨x, cx, rfl⟩ : ∃ x cx, v = .slice x 0 cx := by
      rcases ho.2 with ⟨e1, _⟩ | ⟨g, cap, cur, e1, _⟩
      · exact ⟨none, 0, e1⟩
      · exact ⟨_, cap, by rw [e1, hN0]⟩
    refine (bookI_nil bb x cx w).mono ?_
    rintro e w' ⟨rfl, rfl⟩
    exact ⟨rfl, ⟨rs, V, hK.up hZ2, Nat.le_succ _⟩, Pf.refl _ _ _ _⟩
  · obtain ⟨g2, c2, rfl, hg2, _⟩ := own_some ho (by omega) (by decide)
    refine (bookI_some bb (bb + 1) rs.length V _ (some ⟨g2, 0, none⟩) N c2 w (by omega) (by omega) (by omega) hK.cell hK.frz (by omega) hK.cont).mono ?_
    rintro e w' ⟨rfl, g, cp, W1, rfl, hown, row, hrow, hgr⟩
    obtain ⟨h1, h2⟩ := hK.next hbl (by decide) ho hZ hb1 ⟨by omega, hN⟩ hZ2 (hv g2 rfl) hown hrow hgr
    exact ⟨rfl, ⟨_, _, h1, by simp⟩, h2⟩

theorem bookK_nil (bb : Nat) (x : Option Addr) (cx : Nat) (w : World) : Calls Tryz.prog 10 #[.pointer (some ⟨bb, 0, none⟩), .slice x 0 cx] w fun e w' => e = .returned (.tuple #[]) ∧ w' = w := by
  go_enter Tryz.func10, Tryz.ntmps10
  go_wp2_with fail
  go_end0
  exact ⟨rfl, rfl⟩
set_option maxRecDepth 100000 in
set_option maxHeartbeats 800000 in
theorem bookK_some (bb B m : Nat) (V : Value) (xs : List Value) (x : Option Addr) (n cx : Nat) (w : World) (hn : 1 ≤ n) (hm : m ≤ 1000000) (hB : B ≤ w.heap.size) (hV : w.cell? ⟨bb, 15, none⟩ = some V) (hf : w.frozen? ⟨bb, 15, none⟩ = false) (hbb : bb < B)
    (ho : w.ownsRow B 75 1 V m xs) : Calls Tryz.prog 10 #[.pointer (some ⟨bb, 0, none⟩), .slice x n cx] w fun e w' => e = .returned (.tuple #[]) ∧
      ∃ g cap W1, w' = W1.setCell ⟨bb, 15, none⟩ (.slice (some ⟨g, 0, none⟩) (m + 1) cap) ∧ W1.ownsRow B 75 1 (.slice (some ⟨g, 0, none⟩) (m + 1) cap) (m + 1) (xs ++ [.slice x n cx]) ∧ ∃ row, (row = none ∨ row = V.ownBlock) ∧ w.grownBy W1 row := by
  obtain ⟨iL, hiL, zL0, zL1, zL2⟩ := info_parts' infoKindsL
  have HO := hide ho
  clear ho
  have hbl : bb < w.heap.size := by omega
  go_enter Tryz.func10, Tryz.ntmps10
  go_wp2_with (at_builtin; go_must (refine wpList_append_two _ rfl _ _ 50 rfl B 75 iL (.slice none 0 0) 1 24 Tryz.underlying50 hiL zL0 zL1 zL2 rfl (by decide) _ m xs rfl (HO.out.alloc _) ⟨w.heap.size, 0, none⟩ 1 [.slice x n cx] rfl rfl (cell_one_new _ _ _) (by simp [Value.oneCell']) (by unfold maxLen; omega) (by omega) (by simp; omega) ?_))
  intro g cap W1 hown hg
  obtain ⟨row, hrow, hgr⟩ : ∃ row, (row = none ∨ row = V.ownBlock) ∧ w.grownBy W1 row := by
    have ha : ∀ row, w.grownBy (w.alloc (.cells #[.slice x n cx] 75)) row := fun row => ⟨rfl, rfl, rfl, by simp, fun k hk _ => Go.heap_alloc_old w _ hk⟩
    rcases hg with ⟨e1, h1⟩ | ⟨_, h1⟩
    · exact ⟨some g, .inr e1.symm, (ha _).trans h1⟩
    · exact ⟨none, .inl rfl, (ha _).trans h1⟩
  have hne : some bb ≠ row := by
    rcases hrow with rfl | rfl
    · simp
    · intro e1
      have := (HO.out.lt bb e1.symm).1
      omega
  have hcW : W1.cell? ⟨bb, 15, none⟩ = some V := hgr.cell hV hne
  have hfW : W1.frozen? ⟨bb, 15, none⟩ = false := (hgr.frozen_far ⟨bb, 15, none⟩ hbl hne).trans hf
  have HG := hide hgr
  have HW := hide hown
  clear hgr hown hg
  go_wp2_with fail
  go_end0
  exact ⟨rfl, g, cap, W1, rfl, HW.out, row, hrow, HG.out⟩
theorem bookK_any {M bb N Z Z1 Z2 : Nat} {rs : List Rw} {V : Value} {ps : List Value} {w : World} (hr : rs.length ≤ 1000) (hK : KR 15 112 75 M bb Z w rs V) (hbl : bb < w.heap.size) (hZ : Z ≤ Z1) (hb1 : bb + 1 ≤ Z1) (hZ2 : Z ≤ Z2) (v : Value) (ho : w.ownsRow Z1 112 1 v N ps) (hN : N ≤ M) (hv : ∀ g, v.ownBlock = some g → g < Z2) :
    Calls Tryz.prog 10 #[.pointer (some ⟨bb, 0, none⟩), v] w fun e w' => e = .returned (.tuple #[]) ∧ (∃ rs' V', KR 15 112 75 M bb Z2 w' rs' V' ∧ rs'.length ≤ rs.length + 1) ∧ Pf 15 75 bb w w' := by
  by_cases hN0 : N = 0
  · obtain ⟨x, cx, rfl⟩ : ∃ x cx, v = .slice x 0 cx := by
      rcases ho.2 with ⟨e1, _⟩ | ⟨g, cap, cur, e1, _⟩
      · exact ⟨none, 0, e1⟩
      · exact ⟨_, cap, by rw [e1, hN0]⟩
    refine (bookK_nil bb x cx w).mono ?_
    rintro e w' ⟨rfl, rfl⟩
    exact ⟨rfl, ⟨rs, V, hK.up hZ2, Nat.le_succ _⟩, Pf.refl _ _ _ _⟩
  · obtain ⟨g2, c2, rfl, hg2, _⟩ := own_some ho (by omega) (by decide)
    refine (bookK_some bb (bb + 1) rs.length V _ (some ⟨g2, 0, none⟩) N c2 w (by omega) (by omega) (by omega) hK.cell hK.frz (by omega) hK.cont).mono ?_
    rintro e w' ⟨rfl, g, cp, W1, rfl, hown, row, hrow, hgr⟩
    obtain ⟨h1, h2⟩ := hK.next hbl (by decide) ho hZ hb1 ⟨by omega, hN⟩ hZ2 (hv g2 rfl) hown hrow hgr
    exact ⟨rfl, ⟨_, _, h1, by simp⟩, h2⟩

/-- The rows as Marking wants them. -/
theorem KR.rows {F e f M bb Z : Nat} {w : World} {rs : List Rw} {V : Value} (h : KR F e f M bb Z w rs V) :
    (rs = [] ∧ w.cell? ⟨bb, F, none⟩ = some (.slice none 0 0)) ∨
    (1 ≤ rs.length ∧ ∃ b n c g cm ys, w.cell? ⟨bb, F, none⟩ = some (.slice (some ⟨g, 0, none⟩) rs.length cm) ∧ (∀ i j, i < rs.length → j < rs.length → i ≠ j → b i ≠ b j) ∧ (∀ j, j < rs.length → 1 ≤ n j ∧ n j ≤ M) ∧ Marking (bb + 1) e 1 f g cm rs.length b n c w w ys) := by
  by_cases h0 : rs = []
  · exact .inl ⟨h0, by rw [h.cell, h.nil h0]⟩
  · right
    have hl : 1 ≤ rs.length := by
      cases rs with
      | nil => exact absurd rfl h0
      | cons a l => simp
    obtain ⟨g, cm, hV, _⟩ := own_some h.cont hl (by decide)
    have hch : ∀ j, ∃ xs, j < rs.length → w.ownsRow (bb + 1) e 1 (rowT (rs.getD j (0, 0, 0))) (rs.getD j (0, 0, 0)).2.1 xs := by
      intro j
      by_cases hj : j < rs.length
      · obtain ⟨xs, hx⟩ := h.own (rs.getD j (0, 0, 0)) (by rw [List.getD_eq_getElem?_getD, List.getElem?_eq_getElem hj]; exact List.getElem_mem hj)
        exact ⟨xs, fun _ => hx⟩
      · exact ⟨[], fun hh => absurd hh hj⟩
    refine ⟨hl, fun j => (rs.getD j (0, 0, 0)).1, fun j => (rs.getD j (0, 0, 0)).2.1, fun j => (rs.getD j (0, 0, 0)).2.2, g, cm, fun j => Classical.choose (hch j), by rw [h.cell, hV], ?_, ?_, ⟨Below.refl _ _, ?_, fun j hj => Classical.choose_spec (hch j) hj, fun _ _ _ => rfl⟩⟩
    · intro i j hi hj hij
      simp only [List.getD_eq_getElem?_getD, List.getElem?_eq_getElem hi, List.getElem?_eq_getElem hj, Option.getD_some]
      rcases Nat.lt_or_gt_of_ne hij with hlt | hgt
      · exact List.pairwise_iff_getElem.1 h.dis i j hi hj hlt
      · exact Ne.symm (List.pairwise_iff_getElem.1 h.dis j i hj hi hgt)
    · intro j hj
      simp only [List.getD_eq_getElem?_getD, List.getElem?_eq_getElem hj, Option.getD_some]
      exact h.pos _ (List.getElem_mem hj)
    · have e1 : (List.range rs.length).map (rowV (fun j => (rs.getD j (0, 0, 0)).1) (fun j => (rs.getD j (0, 0, 0)).2.1) (fun j => (rs.getD j (0, 0, 0)).2.2)) = rs.map rowT := by
        apply List.ext_getElem (by simp)
        intro j h1 h2
        have hj : j < rs.length := by simpa using h1
        simp [rowV, rowT, List.getD_eq_getElem?_getD, hj]
      rw [e1, ← hV]
      exact h.cont
/-- A kind whose rows another's marking left. -/
theorem KR.marked {F e f M bb Z e1 f1 g1 cm1 m1 : Nat} {w w' : World} {rs : List Rw} {V : Value} {b n c : Nat → Nat} {ys : Nat → List Value} (h : KR F e f M bb Z w rs V) (hM : Marking (bb + 1) e1 1 f1 g1 cm1 m1 b n c w w ys) (hb : Below (bb + 1) w w') (hk : ∀ k, k < w.heap.size → (∀ j, j < m1 → k ≠ b j) → w'.heap[k]? = w.heap[k]?) (he : e ≠ e1) (hf : f ≠ e1) : KR F e f M bb Z w' rs V := by
  have same : ∀ {t s : Nat} {v : Value} {n : Nat} {xs : List Value}, t ≠ e1 → w.ownsRow (bb + 1) t s v n xs → w'.ownsRow (bb + 1) t s v n xs := fun {t s v n xs} ht hv =>
    own_same hv fun k hk' => hk k (hv.lt k hk').2 fun j hj e2 => by
      rcases own_apart (hM.own j hj) hv (Ne.symm ht) with h2 | h2
      · rw [hk'] at h2; cases h2
      · exact h2 (by rw [hk', e2]; rfl)
  exact ⟨(hb.cell (p := ⟨bb, F, none⟩) (by simp)).trans h.cell, (hb.frozen (p := ⟨bb, F, none⟩) (by simp)).trans h.frz, same hf h.cont, fun r hr => by obtain ⟨xs, hx⟩ := h.own r hr; exact ⟨xs, same he hx⟩, h.dis, h.pos, h.low, h.nil⟩

theorem apart_all {bb Z1 Z2 Z3 : Nat} {w : World} {r1 r2 r3 : List Rw} {V1 V2 V3 : Value} (hE : Empty3 bb w) (h1 : KR 1 3 61 6000000000000 bb Z1 w r1 V1) (h2 : KR 2 9 22 1000000 bb Z2 w r2 V2) (h3 : KR 15 112 75 6000000000000 bb Z3 w r3 V3) (l1 : r1.length ≤ 1000000) (l2 : r2.length ≤ 1000000) (l3 : r3.length ≤ 1000000) :
    Calls Tryz.prog 13 #[.pointer (some ⟨bb, 0, none⟩)] w fun e w' => e = .returned (.bool true) ∧ Below (bb + 1) w w' := by
  refine apart_three bb (bb + 1) w (fun w1 => KR 2 9 22 1000000 bb Z2 w1 r2 V2 ∧ KR 15 112 75 6000000000000 bb Z3 w1 r3 V3) (fun w1 => KR 15 112 75 6000000000000 bb Z3 w1 r3 V3) (by omega) hE ?_ ?_ ?_
  · rcases h1.rows with ⟨_, hc⟩ | ⟨h0, b, n, c, g, cm, ys, hc, hd, hp, hM⟩
    · refine (nilInts bb w hc).mono ?_
      rintro e w' ⟨rfl, rfl⟩
      exact ⟨rfl, Below.refl _ _, h2, h3⟩
    · refine (apartInts_some bb (bb + 1) g cm r1.length b n c ys w h0 l1 hp hd hc hM).mono ?_
      rintro e w' ⟨rfl, hb, hk⟩
      exact ⟨rfl, hb, h2.marked hM hb hk (by decide) (by decide), h3.marked hM hb hk (by decide) (by decide)⟩
  · rintro w1 ⟨k2, k3⟩
    rcases k2.rows with ⟨_, hc⟩ | ⟨h0, b, n, c, g, cm, ys, hc, hd, hp, hM⟩
    · refine (nilStrings bb w1 hc).mono ?_
      rintro e w' ⟨rfl, rfl⟩
      exact ⟨rfl, Below.refl _ _, k3⟩
    · refine (apartStrings_some bb (bb + 1) g cm r2.length b n c ys w1 h0 l2 hp hd hc hM).mono ?_
      rintro e w' ⟨rfl, hb, hk⟩
      exact ⟨rfl, hb, k3.marked hM hb hk (by decide) (by decide)⟩
  · intro w1 k3
    rcases k3.rows with ⟨_, hc⟩ | ⟨h0, b, n, c, g, cm, ys, hc, hd, hp, hM⟩
    · refine (nilKinds bb w1 hc).mono ?_
      rintro e w' ⟨rfl, rfl⟩
      exact ⟨rfl, Below.refl _ _⟩
    · refine (apartKinds_some bb (bb + 1) g cm r3.length b n c ys w1 h0 l3 hp hd hc hM).mono ?_
      rintro e w' ⟨rfl, hb, _⟩
      exact ⟨rfl, hb⟩
end Go.Proofs.YtfnobccminhjpabGreat
