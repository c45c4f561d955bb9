/- The law's 'mark': it writes over a statute's lists, and nothing else. -/
import Derived.Test.YthnjmfkiohgkkaaGreatDoorSpacedForm
import Derived.Test.YthnjmfkiohgkkaaGreatDoorSameAll
import Derived.Test.YthnjmfkiohgkkaaGreatDoorCopy6
namespace Go.Proofs.YthnjmfkiohgkkaaGreatDoor.Sy
open Go.RowKit

/-- What may come into a cell: the same kind of thing; of a list, the same or none. -/
inductive Alike : Value → Value → Prop where
  | refl (u : Value) : Alike u u
  | nil (a : Option Addr) (n c : Nat) : Alike (.slice a n c) (.slice none 0 0)
  | str (s s' : ByteArray) : Alike (.string s) (.string s')
  | int (k : IntKind) (n n' : Int) : Alike (.int k n) (.int k n')
  | bool (b b' : Bool) : Alike (.bool b) (.bool b')
theorem Alike.slice {a : Option Addr} {n c : Nat} {u : Value} (h : Alike (.slice a n c) u) : u = .slice a n c ∨ u = .slice none 0 0 := by
  cases h
  · exact .inl rfl
  · exact .inr rfl
theorem Alike.int' {k : IntKind} {n : Int} {u : Value} (h : Alike (.int k n) u) : ∃ m, u = .int k m := by cases h <;> exact ⟨_, rfl⟩
theorem Alike.str' {s : ByteArray} {u : Value} (h : Alike (.string s) u) : ∃ m, u = .string m := by cases h <;> exact ⟨_, rfl⟩
theorem Alike.bool' {b : Bool} {u : Value} (h : Alike (.bool b) u) : ∃ m, u = .bool m := by cases h <;> exact ⟨_, rfl⟩

/-- What mark leaves of a world: blocks below B stay; rows stay rows. -/
structure Ch (B : Nat) (w wr : World) : Prop where
  bel : Below B w wr
  sh : ∀ (g : Nat) (cur : Array Value) (T : Nat), w.heap[g]? = some (.cells cur T (0, 0)) → ∃ cur' : Array Value, wr.heap[g]? = some (.cells cur' T (0, 0)) ∧ cur'.size = cur.size ∧
    ∀ (o : Nat) u, cur[o]? = some u → ∃ u', cur'[o]? = some u' ∧ Alike u u'

theorem Ch.refl (B : Nat) (w : World) : Ch B w w := ⟨Below.refl _ _, fun _ cur _ h => ⟨cur, h, rfl, fun _ u h => ⟨u, h, .refl u⟩⟩⟩

theorem Ch.set {B : Nat} {w wr : World} (h : Ch B w wr) {g T : Nat} {cur : Array Value} (hg : w.heap[g]? = some (.cells cur T (0, 0))) (hB : B ≤ g) (o : Nat) (x u : Value) (hu : cur[o]? = some u) (hx : Alike u x) :
    Ch B w (wr.setCell ⟨g, o, none⟩ x) := by
  refine ⟨below_set h.bel hB o x, fun g' cur' T' h' => ?_⟩
  obtain ⟨c2, e1, e2, e3⟩ := h.sh g' cur' T' h'
  by_cases he : g' = g
  · subst he
    rw [hg] at h'
    cases h'
    refine ⟨_, loc_set (i := o) (v := x) e1, by simpa using e2, fun o' u' ho => ?_⟩
    rw [Array.getElem?_setIfInBounds]
    split
    · next heq =>
      subst heq
      have hlt : o < c2.size := by rw [e2]; exact (Array.getElem?_eq_some_iff.1 ho).1
      rw [if_pos hlt]
      rw [hu] at ho
      cases ho
      exact ⟨x, rfl, hx⟩
    · exact e3 o' u' ho
  · exact ⟨c2, loc_other e1 he, e2, e3⟩

theorem Ch.alloc {B : Nat} {w wr : World} (h : Ch B w wr) (hB : B ≤ w.heap.size) (o : Obj) : Ch B w (wr.alloc o) := by
  refine ⟨h.bel.alloc (Nat.le_trans hB h.bel.size) o, fun g cur T hg => ?_⟩
  obtain ⟨c2, e1, e2, e3⟩ := h.sh g cur T hg
  exact ⟨c2, by rw [Go.heap_alloc_old _ _ (loc_lt e1)]; exact e1, e2, e3⟩

theorem Ch.cell {B : Nat} {w wr : World} (h : Ch B w wr) {g T o : Nat} {cur : Array Value} (hg : w.heap[g]? = some (.cells cur T (0, 0))) {u : Value} (hu : cur[o]? = some u) :
    ∃ u', wr.cell? ⟨g, o, none⟩ = some u' ∧ (∀ i, wr.frozen? ⟨g, i, none⟩ = false) ∧ Alike u u' := by
  obtain ⟨c2, e1, e2, e3⟩ := h.sh g cur T hg
  obtain ⟨u', h1, h2⟩ := e3 o u hu
  exact ⟨u', by rw [cell_of_row wr g o c2 T (0, 0) e1]; exact h1, fun i => frozen_of_row wr g i c2 T e1, h2⟩

/-- A row of the statute, at one of its things. -/
theorem Rows.put {α : Type} {Z : Nat → Prop} {e k : Nat} {c : World → α → List Value → Prop} {w : World} {l : List α} {v : Value} (h : Rows Z e k c w l v) {i : Nat} (hi : i < l.length) :
    ∃ t g cap cur ys, l[i]? = some t ∧ v = .slice (some ⟨g, 0, none⟩) l.length cap ∧ Z g ∧ w.heap[g]? = some (.cells cur e (0, 0)) ∧ c w t ys ∧ ∀ (j : Nat) u, ys[j]? = some u → cur[i * k + j]? = some u := by
  obtain ⟨t, ht⟩ : ∃ t, l[i]? = some t := ⟨l[i], by simp [hi]⟩
  obtain ⟨g, cap, ys, e1, hz, hc, hcell⟩ := h.at ht
  obtain ⟨cur, hg⟩ := h.own g (by rw [e1]; rfl)
  exact ⟨t, g, cap, cur, ys, ht, e1, hz, hg, hc, fun j u hu => by rw [← cell_of_row w g (i * k + j) cur e (0, 0) hg]; exact hcell j u hu⟩

/-- .. and beside it the box that holds the statute. -/
structure Mk (B : Nat) (w : World) (bx : Obj) (wr : World) : Prop where
  ch : Ch B w wr
  box : wr.heap[w.heap.size]? = some bx

theorem Mk.set {B : Nat} {w wr : World} {bx : Obj} (h : Mk B w bx wr) {g T : Nat} {cur : Array Value} (hg : w.heap[g]? = some (.cells cur T (0, 0))) (hB : B ≤ g) (o : Nat) (x u : Value) (hu : cur[o]? = some u) (hx : Alike u x) :
    Mk B w bx (wr.setCell ⟨g, o, none⟩ x) :=
  ⟨h.ch.set hg hB o x u hu hx, loc_other h.box (Nat.ne_of_gt (loc_lt hg))⟩
theorem Mk.alloc {B : Nat} {w wr : World} {bx : Obj} (h : Mk B w bx wr) (hB : B ≤ w.heap.size) (o : Obj) : Mk B w bx (wr.alloc o) :=
  ⟨h.ch.alloc hB o, by rw [Go.heap_alloc_old _ _ (loc_lt h.box)]; exact h.box⟩
theorem Mk.cell {B : Nat} {w wr : World} {bx : Obj} (h : Mk B w bx wr) {g T o : Nat} {cur : Array Value} (hg : w.heap[g]? = some (.cells cur T (0, 0))) {u : Value} (hu : cur[o]? = some u) :
    ∃ u', wr.cell? ⟨g, o, none⟩ = some u' ∧ (∀ i, wr.frozen? ⟨g, i, none⟩ = false) ∧ Alike u u' := h.ch.cell hg hu
theorem alike_nil {α : Type} {Z : Nat → Prop} {e k : Nat} {c : World → α → List Value → Prop} {w : World} {l : List α} {v : Value} (h : Rows Z e k c w l v) : Alike v (.slice none 0 0) := by
  obtain ⟨a, n, rfl⟩ := rows_form h
  exact .nil _ _ _
/-- A list that lies in a cell: as it was, or gone. -/
theorem Mk.rows {α : Type} {B : Nat} {w wr : World} {bx : Obj} (h : Mk B w bx wr) {gp T o : Nat} {cur : Array Value} (hg : w.heap[gp]? = some (.cells cur T (0, 0))) {Z : Nat → Prop} {e k : Nat} {c : World → α → List Value → Prop} {l : List α} {v : Value}
    (hu : cur[o]? = some v) (hr : Rows Z e k c w l v) :
    ∃ a n cp, wr.cell? ⟨gp, o, none⟩ = some (.slice a n cp) ∧ n ≤ l.length ∧ ∀ i, i < n → ∃ t g cur' ys, a = some ⟨g, 0, none⟩ ∧ Z g ∧ w.heap[g]? = some (.cells cur' e (0, 0)) ∧ c w t ys ∧ l[i]? = some t ∧ ∀ (j : Nat) u, ys[j]? = some u → cur'[i * k + j]? = some u := by
  obtain ⟨u', e1, _, e3⟩ := h.cell hg hu
  obtain ⟨a, cp, rfl⟩ := rows_form hr
  rcases e3.slice with rfl | rfl
  · refine ⟨a, _, cp, e1, Nat.le_refl _, fun i hi => ?_⟩
    obtain ⟨t, g, cap, cur', ys, ht, ev, hz, hg', hc, hcell⟩ := hr.put hi
    cases ev
    exact ⟨t, g, cur', ys, rfl, hz, hg', hc, ht, hcell⟩
  · exact ⟨none, 0, 0, e1, Nat.zero_le _, fun i hi => by omega⟩
theorem box0 {w : World} {q T : Nat} {v0 v1 v2 v3 v4 v5 v6 v7 v8 : Value} (h : w.heap[q]? = some (.cells #[v0, v1, v2, v3, v4, v5, v6, v7, v8] T (0, 0))) : w.cell? ⟨q, 0, none⟩ = some v0 := cell_of_row w q 0 _ T _ h
theorem box1 {w : World} {q T : Nat} {v0 v1 v2 v3 v4 v5 v6 v7 v8 : Value} (h : w.heap[q]? = some (.cells #[v0, v1, v2, v3, v4, v5, v6, v7, v8] T (0, 0))) : w.cell? ⟨q, 1, none⟩ = some v1 := cell_of_row w q 1 _ T _ h
theorem box2 {w : World} {q T : Nat} {v0 v1 v2 v3 v4 v5 v6 v7 v8 : Value} (h : w.heap[q]? = some (.cells #[v0, v1, v2, v3, v4, v5, v6, v7, v8] T (0, 0))) : w.cell? ⟨q, 2, none⟩ = some v2 := cell_of_row w q 2 _ T _ h
theorem box3 {w : World} {q T : Nat} {v0 v1 v2 v3 v4 v5 v6 v7 v8 : Value} (h : w.heap[q]? = some (.cells #[v0, v1, v2, v3, v4, v5, v6, v7, v8] T (0, 0))) : w.cell? ⟨q, 3, none⟩ = some v3 := cell_of_row w q 3 _ T _ h
theorem box4 {w : World} {q T : Nat} {v0 v1 v2 v3 v4 v5 v6 v7 v8 : Value} (h : w.heap[q]? = some (.cells #[v0, v1, v2, v3, v4, v5, v6, v7, v8] T (0, 0))) : w.cell? ⟨q, 4, none⟩ = some v4 := cell_of_row w q 4 _ T _ h
theorem box5 {w : World} {q T : Nat} {v0 v1 v2 v3 v4 v5 v6 v7 v8 : Value} (h : w.heap[q]? = some (.cells #[v0, v1, v2, v3, v4, v5, v6, v7, v8] T (0, 0))) : w.cell? ⟨q, 5, none⟩ = some v5 := cell_of_row w q 5 _ T _ h
theorem box6 {w : World} {q T : Nat} {v0 v1 v2 v3 v4 v5 v6 v7 v8 : Value} (h : w.heap[q]? = some (.cells #[v0, v1, v2, v3, v4, v5, v6, v7, v8] T (0, 0))) : w.cell? ⟨q, 6, none⟩ = some v6 := cell_of_row w q 6 _ T _ h
theorem box7 {w : World} {q T : Nat} {v0 v1 v2 v3 v4 v5 v6 v7 v8 : Value} (h : w.heap[q]? = some (.cells #[v0, v1, v2, v3, v4, v5, v6, v7, v8] T (0, 0))) : w.cell? ⟨q, 7, none⟩ = some v7 := cell_of_row w q 7 _ T _ h
theorem box8 {w : World} {q T : Nat} {v0 v1 v2 v3 v4 v5 v6 v7 v8 : Value} (h : w.heap[q]? = some (.cells #[v0, v1, v2, v3, v4, v5, v6, v7, v8] T (0, 0))) : w.cell? ⟨q, 8, none⟩ = some v8 := cell_of_row w q 8 _ T _ h

set_option maxRecDepth 100000 in
set_option maxHeartbeats 6400000 in
theorem mark_any {R : Nat} {st : St9} {S : StatM} (w : World) (hS : SRep R w st S) (hs : SmallS S) (hR : R < w.heap.size) :
    Calls Tryz.prog 18 #[St9.agg st] w fun e w' => e = .returned (.tuple #[]) ∧ Below (R + 1) w w' := by
  obtain ⟨a1, c1, a2, c2, a3, c3, a4, c4, a5, c5, a6, c6, a7, c7, a8, c8, rfl⟩ := hS.form
  have HS := hide hS
  obtain ⟨bx, hbx⟩ : ∃ o : Obj, o = .cells #[.string ⟨S.title.toArray⟩, .slice a1 S.kinds.length c1, .slice a2 S.members.length c2, .slice a3 S.preds.length c3, .slice a4 S.classes.length c4, .slice a5 S.sources.length c5, .slice a6 S.rules.length c6, .slice a7 S.excepts.length c7, .slice a8 S.totals.length c8] 31 := ⟨_, rfl⟩
  have HM : Hid (Mk (R + 1) w bx (w.alloc (.cells #[.string ⟨S.title.toArray⟩, .slice a1 S.kinds.length c1, .slice a2 S.members.length c2, .slice a3 S.preds.length c3, .slice a4 S.classes.length c4, .slice a5 S.sources.length c5, .slice a6 S.rules.length c6, .slice a7 S.excepts.length c7, .slice a8 S.totals.length c8] 31))) := hide ⟨(Ch.refl _ _).alloc hR _, by rw [hbx]; exact heap_alloc_new w _⟩
  clear hS
  simp only [St9.agg]
  go_enter Tryz.func18, Tryz.ntmps18
  go_wp2_with fail
  go_loopw [2] (fun x wr => ∃ i : Nat, i ≤ 1000000000 ∧ x = .int .i64 i ∧ Hid (Mk (R + 1) w bx wr)) (fun x _ => S.kinds.length - (intOf x).toNat)
  case atStart => exact ⟨0, by omega, rfl, HM⟩
  case round =>
    clear HM
    obtain ⟨i, hli, rfl, HM⟩ := hrel
    have hN := HS.out.kinds
    have hL := hs.kinds
    by_cases hlt : i < S.kinds.length
    · obtain ⟨t, gg, cap, cur, ys, _, ev, hz, hgg, hy, hcg⟩ := hN.put hlt
      cases ev
      cases hy
      have hBg : R + 1 ≤ gg := hz
      have eg0 := hcg 0 _ rfl
      rw [Nat.mul_one, Nat.add_zero] at eg0
      obtain ⟨qw0, qc0, qf, _⟩ := HM.out.cell hgg eg0
      have HM2 := hide (Mk.set (HM.out) hgg hBg (i) (.string ⟨#[109, 97, 114, 107, 101, 100]⟩) _ (eg0) (.str _ _))
      clear eg0
      have z1 := box1 (HM.out.box.trans (congrArg some hbx))
      clear hN hcg
      go_wp2_with fail
      go_roundw
      case rel => exact ⟨i + 1, by omega, by go_num, HM2⟩
      case measure => simp [intOf]; omega
    · clear hN
      have z1 := box1 (HM.out.box.trans (congrArg some hbx))
      go_wp2_with fail
      go_loopw [3] (fun x wr => ∃ i : Nat, i ≤ 1000000000 ∧ x = .int .i64 i ∧ Hid (Mk (R + 1) w bx wr)) (fun x _ => S.members.length - (intOf x).toNat)
      case atStart => exact ⟨0, by omega, rfl, HM⟩
      case round =>
        clear HM
        obtain ⟨i, hli, rfl, HM⟩ := hrel
        have hN := HS.out.members
        have hL := hs.members
        by_cases hlt : i < S.members.length
        · obtain ⟨t, gg, cap, cur, ys, _, ev, hz, hgg, hy, hcg⟩ := hN.put hlt
          cases ev
          cases hy
          have hBg : R + 1 ≤ gg := hz.1
          have eg0 := hcg 0 _ rfl
          rw [Nat.add_zero] at eg0
          obtain ⟨qw0, qc0, qf, _⟩ := HM.out.cell hgg eg0
          have eg1 := hcg 1 _ rfl
          obtain ⟨qw1, qc1, _, _⟩ := HM.out.cell hgg eg1
          have HM2 := hide (Mk.set (Mk.set (HM.out) hgg hBg (i * 2) (.string ⟨#[]⟩) _ (eg0) (.str _ _)) hgg hBg (i * 2 + 1) (.string ⟨#[]⟩) _ (eg1) (.str _ _))
          clear eg0 eg1
          have z2 := box2 (HM.out.box.trans (congrArg some hbx))
          clear hN hcg
          go_wp2_with fail
          go_roundw
          case rel => exact ⟨i + 1, by omega, by go_num, HM2⟩
          case measure => simp [intOf]; omega
        · clear hN
          have z2 := box2 (HM.out.box.trans (congrArg some hbx))
          go_wp2_with fail
          go_loopw [4] (fun x wr => ∃ i : Nat, i ≤ 1000000000 ∧ x = .int .i64 i ∧ Hid (Mk (R + 1) w bx wr)) (fun x _ => S.preds.length - (intOf x).toNat)
          case atStart => exact ⟨0, by omega, rfl, HM⟩
          case round =>
            clear HM
            obtain ⟨i, hli, rfl, HM⟩ := hrel
            have hN := HS.out.preds
            have hL := hs.preds
            by_cases hlt : i < S.preds.length
            · obtain ⟨t, gg, cap, cur, ys, htm, ev, hz, hgg, ⟨kv, vv, rfl, hk1, hk2⟩, hcg⟩ := hN.put hlt
              cases ev
              have hBg : R + 1 ≤ gg := hz.1
              have hit := hs.preds' t (List.mem_of_getElem? htm)
              have hAu := hcg 2 _ rfl
              have hVu := hcg 3 _ rfl
              have z3 := box3 (HM.out.box.trans (congrArg some hbx))
              obtain ⟨_, q2c, qf, _⟩ := HM.out.cell hgg hAu
              clear hN htm
              go_wp2_with fail
              go_loopw [5] (fun x wr => ∃ k : Nat, k ≤ 1000000000 ∧ x = .int .i64 k ∧ Hid (Mk (R + 1) w bx wr)) (fun x _ => t.kinds.length - (intOf x).toNat)
              case atStart => exact ⟨0, by omega, rfl, HM⟩
              case round =>
                clear HM
                obtain ⟨k, hlk, rfl, HM⟩ := hrel
                obtain ⟨aA, nA, xA, hlA, hnA, hrA⟩ := HM.out.rows hgg hAu hk1
                by_cases hltA : k < nA
                · obtain ⟨tA, gA, curA, ysA, rfl, hzA, hgA, hyA, _, hcA⟩ := hrA k hltA
                  cases hyA
                  have hBA : R + 1 ≤ gA := hzA.1
                  have eA0 := hcA 0 _ rfl
                  rw [Nat.mul_one, Nat.add_zero] at eA0
                  obtain ⟨pAw0, pAc0, pAf, _⟩ := HM.out.cell hgA eA0
                  have HM2 := hide (Mk.set (HM.out) hgA hBA (k) (.string ⟨#[109, 97, 114, 107, 101, 100]⟩) _ (eA0) (.str _ _))
                  clear eA0
                  have z3 := box3 (HM.out.box.trans (congrArg some hbx))
                  clear hrA hcA
                  go_wp2_with fail
                  go_roundw
                  case rel => exact ⟨k + 1, by omega, by go_num, HM2⟩
                  case measure => simp [intOf]; omega
                · have z3 := box3 (HM.out.box.trans (congrArg some hbx))
                  clear hrA
                  go_wp2_with fail
                  clear hlA hnA hltA
                  go_loopw [6] (fun x wr => ∃ k : Nat, k ≤ 1000000000 ∧ x = .int .i64 k ∧ Hid (Mk (R + 1) w bx wr)) (fun x _ => t.values.length - (intOf x).toNat)
                  case atStart => exact ⟨0, by omega, rfl, HM⟩
                  case round =>
                    clear HM
                    obtain ⟨k, hlk, rfl, HM⟩ := hrel
                    obtain ⟨aV, nV, xV, hlV, hnV, hrV⟩ := HM.out.rows hgg hVu hk2
                    by_cases hltV : k < nV
                    · obtain ⟨tV, gV, curV, ysV, rfl, hzV, hgV, hyV, _, hcV⟩ := hrV k hltV
                      cases hyV
                      have hBV : R + 1 ≤ gV := hzV.1
                      have eV0 := hcV 0 _ rfl
                      rw [Nat.mul_one, Nat.add_zero] at eV0
                      obtain ⟨pVw0, pVc0, pVf, _⟩ := HM.out.cell hgV eV0
                      have HM2 := hide (Mk.set (HM.out) hgV hBV (k) (.int .i64 (-7)) _ (eV0) (.int _ _ _))
                      clear eV0
                      have z3 := box3 (HM.out.box.trans (congrArg some hbx))
                      clear hrV hcV
                      go_wp2_with fail
                      go_roundw
                      case rel => exact ⟨k + 1, by omega, by go_num, HM2⟩
                      case measure => simp [intOf]; omega
                    · have eg0 := hcg 0 _ rfl
                      rw [Nat.add_zero] at eg0
                      obtain ⟨qw0, qc0, qf, _⟩ := HM.out.cell hgg eg0
                      have eg1 := hcg 1 _ rfl
                      obtain ⟨qw1, qc1, _, _⟩ := HM.out.cell hgg eg1
                      have eg2 := hcg 2 _ rfl
                      obtain ⟨qw2, qc2, _, _⟩ := HM.out.cell hgg eg2
                      have eg3 := hcg 3 _ rfl
                      obtain ⟨qw3, qc3, _, _⟩ := HM.out.cell hgg eg3
                      have HM2 := hide (Mk.set (Mk.set (Mk.set (Mk.set (HM.out) hgg hBg (i * 4) (.string ⟨#[]⟩) _ (eg0) (.str _ _)) hgg hBg (i * 4 + 1) (.int .i64 0) _ (eg1) (.int _ _ _)) hgg hBg (i * 4 + 2) (.slice none 0 0) _ (eg2) (alike_nil hk1)) hgg hBg (i * 4 + 3) (.slice none 0 0) _ (eg3) (alike_nil hk2))
                      clear eg0 eg1 eg2 eg3
                      have z3 := box3 (HM.out.box.trans (congrArg some hbx))
                      clear hrV
                      go_wp2_with fail
                      clear hlV hnV hltV
                      go_roundw
                      case rel => exact ⟨i + 1, by omega, by go_num, HM2⟩
                      case measure => simp [intOf]; omega
            · clear hN
              have z3 := box3 (HM.out.box.trans (congrArg some hbx))
              go_wp2_with fail
              go_loopw [7] (fun x wr => ∃ i : Nat, i ≤ 1000000000 ∧ x = .int .i64 i ∧ Hid (Mk (R + 1) w bx wr)) (fun x _ => S.classes.length - (intOf x).toNat)
              case atStart => exact ⟨0, by omega, rfl, HM⟩
              case round =>
                clear HM
                obtain ⟨i, hli, rfl, HM⟩ := hrel
                have hN := HS.out.classes
                have hL := hs.classes
                by_cases hlt : i < S.classes.length
                · obtain ⟨t, gg, cap, cur, ys, htm, ev, hz, hgg, ⟨cv, rfl, hk1⟩, hcg⟩ := hN.put hlt
                  cases ev
                  have hit := hs.classes' t (List.mem_of_getElem? htm)
                  have hAu := hcg 0 _ rfl
                  rw [Nat.mul_one, Nat.add_zero] at hAu
                  have z4 := box4 (HM.out.box.trans (congrArg some hbx))
                  clear hN htm hcg
                  go_wp2_with fail
                  go_loopw [8] (fun x wr => ∃ k : Nat, k ≤ 1000000000 ∧ x = .int .i64 k ∧ Hid (Mk (R + 1) w bx wr)) (fun x _ => t.length - (intOf x).toNat)
                  case atStart => exact ⟨0, by omega, rfl, HM⟩
                  case round =>
                    clear HM
                    obtain ⟨k, hlk, rfl, HM⟩ := hrel
                    obtain ⟨aA, nA, xA, hlA, hnA, hrA⟩ := HM.out.rows hgg hAu hk1
                    by_cases hltA : k < nA
                    · obtain ⟨tA, gA, curA, ysA, rfl, hzA, hgA, hyA, _, hcA⟩ := hrA k hltA
                      cases hyA
                      have hBA : R + 1 ≤ gA := hzA.1
                      have eA0 := hcA 0 _ rfl
                      rw [Nat.mul_one, Nat.add_zero] at eA0
                      obtain ⟨pAw0, pAc0, pAf, _⟩ := HM.out.cell hgA eA0
                      have HM2 := hide (Mk.set (HM.out) hgA hBA (k) (.string ⟨#[109, 97, 114, 107, 101, 100]⟩) _ (eA0) (.str _ _))
                      clear eA0
                      have z4 := box4 (HM.out.box.trans (congrArg some hbx))
                      clear hrA hcA
                      go_wp2_with fail
                      go_roundw
                      case rel => exact ⟨k + 1, by omega, by go_num, HM2⟩
                      case measure => simp [intOf]; omega
                    · have z4 := box4 (HM.out.box.trans (congrArg some hbx))
                      clear hrA
                      go_wp2_with fail
                      clear hlA hnA hltA
                      go_roundw
                      case rel => exact ⟨i + 1, by omega, by go_num, HM⟩
                      case measure => simp [intOf]; omega
                · clear hN
                  have z4 := box4 (HM.out.box.trans (congrArg some hbx))
                  go_wp2_with fail
                  go_loopw [9] (fun x wr => ∃ i : Nat, i ≤ 1000000000 ∧ x = .int .i64 i ∧ Hid (Mk (R + 1) w bx wr)) (fun x _ => S.rules.length - (intOf x).toNat)
                  case atStart => exact ⟨0, by omega, rfl, HM⟩
                  case round =>
                    clear HM
                    obtain ⟨i, hli, rfl, HM⟩ := hrel
                    have hN := HS.out.rules
                    have hL := hs.rules
                    by_cases hlt : i < S.rules.length
                    · obtain ⟨t, gg, cap, cur, ys, htm, ev, hz, hgg, ⟨bv, hv, rfl, hk1, hk2⟩, hcg⟩ := hN.put hlt
                      cases ev
                      have hBg : R + 1 ≤ gg := hz.1
                      have hit := hs.rules' t (List.mem_of_getElem? htm)
                      have hBu := hcg 4 _ rfl
                      have z6 := box6 (HM.out.box.trans (congrArg some hbx))
                      clear hN htm
                      go_wp2_with fail
                      go_loopw [10] (fun x wr => ∃ k : Nat, k ≤ 1000000000 ∧ x = .int .i64 k ∧ Hid (Mk (R + 1) w bx wr)) (fun x _ => t.body.length - (intOf x).toNat)
                      case atStart => exact ⟨0, by omega, rfl, HM⟩
                      case round =>
                        clear HM
                        obtain ⟨k, hlk, rfl, HM⟩ := hrel
                        obtain ⟨aB, nB, xB, hlB, hnB, hrB⟩ := HM.out.rows hgg hBu hk1
                        have hitB := hit.1
                        by_cases hltB : k < nB
                        · obtain ⟨tB, gB, curB, ysB, rfl, hzB, hgB, ⟨av, lv, rv, rfl, p1, p2, p3⟩, htB, hcB⟩ := hrB k hltB
                          have hBB : R + 1 ≤ gB := hzB.1
                          have hitP := hit.2.1 tB (List.mem_of_getElem? htB)
                          obtain ⟨wB, hwB⟩ : ∃ x, x = wr := ⟨wr, rfl⟩
                          subst hwB
                          obtain ⟨_, d0, _, dk0⟩ := HM.out.cell hgB (hcB 0 _ rfl)
                          rw [Nat.add_zero] at d0
                          obtain ⟨d0v, rfl⟩ := dk0.int'
                          clear dk0
                          obtain ⟨_, d1, _, dk1⟩ := HM.out.cell hgB (hcB 1 _ rfl)
                          obtain ⟨d1v, rfl⟩ := dk1.bool'
                          clear dk1
                          obtain ⟨_, d2, _, dk2⟩ := HM.out.cell hgB (hcB 2 _ rfl)
                          obtain ⟨d2v, rfl⟩ := dk2.str'
                          clear dk2
                          obtain ⟨aA, nA, xA, d3, hnA, hrA⟩ := HM.out.rows hgB (hcB 3 _ rfl) p1
                          obtain ⟨_, d4, _, dk4⟩ := HM.out.cell hgB (hcB 4 _ rfl)
                          obtain ⟨d4v, rfl⟩ := dk4.bool'
                          clear dk4
                          obtain ⟨_, d5, _, dk5⟩ := HM.out.cell hgB (hcB 5 _ rfl)
                          obtain ⟨d5v, rfl⟩ := dk5.int'
                          clear dk5
                          obtain ⟨aL, nL, xL, d6, hnL, hrL⟩ := HM.out.rows hgB (hcB 6 _ rfl) p2
                          obtain ⟨_, d7, _, dk7⟩ := HM.out.cell hgB (hcB 7 _ rfl)
                          obtain ⟨d7v, rfl⟩ := dk7.int'
                          clear dk7
                          obtain ⟨_, d8, _, dk8⟩ := HM.out.cell hgB (hcB 8 _ rfl)
                          obtain ⟨aE, nE, xE, hE⟩ : ∃ a n c, _ = Value.slice a n c := by obtain ⟨a0, c0, e0⟩ := rows_form p3; subst e0; rcases dk8.slice with h | h <;> exact ⟨_, _, _, h⟩
                          subst hE
                          clear dk8
                          obtain ⟨_, d9, _, dk9⟩ := HM.out.cell hgB (hcB 9 _ rfl)
                          obtain ⟨d9v, rfl⟩ := dk9.str'
                          clear dk9
                          obtain ⟨_, d10, _, dk10⟩ := HM.out.cell hgB (hcB 10 _ rfl)
                          obtain ⟨d10v, rfl⟩ := dk10.str'
                          clear dk10
                          obtain ⟨curR, eR, _, eR3⟩ := HM.out.ch.sh gg cur _ hgg
                          have cR : curR[i * 11 + 4]? = some (.slice (some ⟨gB, 0, none⟩) nB xB) := by rw [← cell_of_row wB gg _ curR _ (0, 0) eR]; exact hlB
                          have NR : ∀ g cu T, w.heap[g]? = some (.cells cu T (0, 0)) → T ≠ 100 → gg ≠ g := fun g cu T h1 h2 h3 => by subst h3; rw [hgg] at h1; cases h1; exact h2 rfl
                          have HR0 : Hid ((wB.alloc (.cells #[.int .i64 d0v, .bool d1v, .string d2v, .slice aA nA xA, .bool d4v, .int .i64 d5v, .slice aL nL xL, .int .i64 d7v, .slice aE nE xE, .string d9v, .string d10v] 107)).heap[gg]? = some (.cells curR 100 (0, 0))) := hide (by rw [Go.heap_alloc_old _ _ (loc_lt eR)]; exact eR)
                          have HP0 : Hid ((wB.alloc (.cells #[.int .i64 d0v, .bool d1v, .string d2v, .slice aA nA xA, .bool d4v, .int .i64 d5v, .slice aL nL xL, .int .i64 d7v, .slice aE nE xE, .string d9v, .string d10v] 107)).heap[wB.heap.size]? = some (.cells #[.int .i64 d0v, .bool d1v, .string d2v, .slice aA nA xA, .bool d4v, .int .i64 d5v, .slice aL nL xL, .int .i64 d7v, .slice aE nE xE, .string d9v, .string d10v] 107)) := hide (heap_alloc_new wB _)
                          have hWB := HM.out.ch.bel.size
                          have z6 := box6 (HM.out.box.trans (congrArg some hbx))
                          have HMo := hide (HM.out.alloc hR (.cells #[.int .i64 d0v, .bool d1v, .string d2v, .slice aA nA xA, .bool d4v, .int .i64 d5v, .slice aL nL xL, .int .i64 d7v, .slice aE nE xE, .string d9v, .string d10v] 107))
                          clear HM
                          have HM := HMo
                          clear HMo
                          clear hrB
                          go_wp2_with fail
                          clear d0 d1 d2 d3 d4 d5 d6 d7 d8 d9 d10 hlB
                          have hlA1 := hitP.1
                          have hlL1 := hitP.2.1
                          go_loopw [12] (fun x wr => ∃ j : Nat, j ≤ 1000000000 ∧ x = .int .i64 j ∧ Hid (Mk (R + 1) w bx wr) ∧ Hid (wr.heap[gg]? = some (.cells curR 100 (0, 0))) ∧ Hid (wr.heap[wB.heap.size]? = some (.cells #[.int .i64 d0v, .bool d1v, .string d2v, .slice aA nA xA, .bool d4v, .int .i64 d5v, .slice aL nL xL, .int .i64 d7v, .slice aE nE xE, .string d9v, .string d10v] 107))) (fun x _ => nA - (intOf x).toNat)
                          case atStart => exact ⟨0, by omega, rfl, HM, HR0, HP0⟩
                          case round =>
                            clear HM
                            obtain ⟨j, hlj, rfl, HM, HR, HP⟩ := hrel
                            by_cases hltA : j < nA
                            · obtain ⟨tA, gA, curA, ysA, rfl, hzA, hgA, hyA, _, hcA⟩ := hrA j hltA
                              cases hyA
                              have hBA : R + 1 ≤ gA := hzA.1
                              have eA0 := hcA 0 _ rfl
                              rw [Nat.mul_one, Nat.add_zero] at eA0
                              obtain ⟨pAw0, pAc0, pAf, _⟩ := HM.out.cell hgA eA0
                              have HM2 := hide (Mk.set (HM.out) hgA hBA (j) (.string ⟨#[109, 97, 114, 107, 101, 100]⟩) _ (eA0) (.str _ _))
                              clear eA0
                              have gl := loc_lt hgA
                              have HR2 := hide (loc_other (p := ⟨gA, j, none⟩) (v := .string ⟨#[109, 97, 114, 107, 101, 100]⟩) (HR.out) (NR _ _ _ hgA (by decide)))
                              have HP2 := hide (loc_other (p := ⟨gA, j, none⟩) (v := .string ⟨#[109, 97, 114, 107, 101, 100]⟩) (HP.out) (show wB.heap.size ≠ gA by omega))
                              have bz := cell_of_row wr wB.heap.size 3 _ _ _ HP.out
                              clear hcA
                              go_wp2_with fail
                              go_roundw
                              case rel => exact ⟨j + 1, by omega, by go_num, HM2, HR2, HP2⟩
                              case measure => simp [intOf]; omega
                            · have bz := cell_of_row wr wB.heap.size 3 _ _ _ HP.out
                              go_wp2_with fail
                              clear bz
                              have HR0 := HR
                              have HP0 := HP
                              go_loopw [13] (fun x wr => ∃ j : Nat, j ≤ 1000000000 ∧ x = .int .i64 j ∧ Hid (Mk (R + 1) w bx wr) ∧ Hid (wr.heap[gg]? = some (.cells curR 100 (0, 0))) ∧ Hid (wr.heap[wB.heap.size]? = some (.cells #[.int .i64 d0v, .bool d1v, .string d2v, .slice aA nA xA, .bool d4v, .int .i64 d5v, .slice aL nL xL, .int .i64 d7v, .slice aE nE xE, .string d9v, .string d10v] 107))) (fun x _ => nL - (intOf x).toNat)
                              case atStart => exact ⟨0, by omega, rfl, HM, HR0, HP0⟩
                              case round =>
                                clear HM
                                obtain ⟨j, hlj, rfl, HM, HR, HP⟩ := hrel
                                by_cases hltL : j < nL
                                · obtain ⟨tL, gL, curL, ysL, rfl, hzL, hgL, hyL, _, hcL⟩ := hrL j hltL
                                  obtain ⟨lav, rfl, hlav⟩ := hyL
                                  have hBL : R + 1 ≤ gL := hzL.1
                                  have eL0 := hcL 0 _ rfl
                                  rw [Nat.add_zero] at eL0
                                  obtain ⟨pLw0, pLc0, pLf, _⟩ := HM.out.cell hgL eL0
                                  have eL1 := hcL 1 _ rfl
                                  obtain ⟨pLw1, pLc1, _, _⟩ := HM.out.cell hgL eL1
                                  have eL2 := hcL 2 _ rfl
                                  obtain ⟨pLw2, pLc2, _, _⟩ := HM.out.cell hgL eL2
                                  have eL3 := hcL 3 _ rfl
                                  obtain ⟨pLw3, pLc3, _, _⟩ := HM.out.cell hgL eL3
                                  have HM2 := hide (Mk.set (Mk.set (Mk.set (Mk.set (HM.out) hgL hBL (j * 4) (.int .i64 0) _ (eL0) (.int _ _ _)) hgL hBL (j * 4 + 1) (.string ⟨#[]⟩) _ (eL1) (.str _ _)) hgL hBL (j * 4 + 2) (.slice none 0 0) _ (eL2) (alike_nil hlav)) hgL hBL (j * 4 + 3) (.int .i64 0) _ (eL3) (.int _ _ _))
                                  clear eL0 eL1 eL2 eL3
                                  have gl := loc_lt hgL
                                  have HR2 := hide (loc_other (p := ⟨gL, j * 4 + 3, none⟩) (v := .int .i64 0) (loc_other (p := ⟨gL, j * 4 + 2, none⟩) (v := .slice none 0 0) (loc_other (p := ⟨gL, j * 4 + 1, none⟩) (v := .string ⟨#[]⟩) (loc_other (p := ⟨gL, j * 4, none⟩) (v := .int .i64 0) (HR.out) (NR _ _ _ hgL (by decide))) (NR _ _ _ hgL (by decide))) (NR _ _ _ hgL (by decide))) (NR _ _ _ hgL (by decide)))
                                  have HP2 := hide (loc_other (p := ⟨gL, j * 4 + 3, none⟩) (v := .int .i64 0) (loc_other (p := ⟨gL, j * 4 + 2, none⟩) (v := .slice none 0 0) (loc_other (p := ⟨gL, j * 4 + 1, none⟩) (v := .string ⟨#[]⟩) (loc_other (p := ⟨gL, j * 4, none⟩) (v := .int .i64 0) (HP.out) (show wB.heap.size ≠ gL by omega)) (show wB.heap.size ≠ gL by omega)) (show wB.heap.size ≠ gL by omega)) (show wB.heap.size ≠ gL by omega))
                                  have bz := cell_of_row wr wB.heap.size 6 _ _ _ HP.out
                                  clear hcL
                                  go_wp2_with fail
                                  go_roundw
                                  case rel => exact ⟨j + 1, by omega, by go_num, HM2, HR2, HP2⟩
                                  case measure => simp [intOf]; omega
                                · have eB0 := hcB 0 _ rfl
                                  rw [Nat.add_zero] at eB0
                                  obtain ⟨bw0, bc0, bf, _⟩ := HM.out.cell hgB eB0
                                  have eB1 := hcB 1 _ rfl
                                  obtain ⟨bw1, bc1, _, _⟩ := HM.out.cell hgB eB1
                                  have eB2 := hcB 2 _ rfl
                                  obtain ⟨bw2, bc2, _, _⟩ := HM.out.cell hgB eB2
                                  have eB3 := hcB 3 _ rfl
                                  obtain ⟨bw3, bc3, _, _⟩ := HM.out.cell hgB eB3
                                  have eB4 := hcB 4 _ rfl
                                  obtain ⟨bw4, bc4, _, _⟩ := HM.out.cell hgB eB4
                                  have eB5 := hcB 5 _ rfl
                                  obtain ⟨bw5, bc5, _, _⟩ := HM.out.cell hgB eB5
                                  have eB6 := hcB 6 _ rfl
                                  obtain ⟨bw6, bc6, _, _⟩ := HM.out.cell hgB eB6
                                  have eB7 := hcB 7 _ rfl
                                  obtain ⟨bw7, bc7, _, _⟩ := HM.out.cell hgB eB7
                                  have eB8 := hcB 8 _ rfl
                                  obtain ⟨bw8, bc8, _, _⟩ := HM.out.cell hgB eB8
                                  have eB9 := hcB 9 _ rfl
                                  obtain ⟨bw9, bc9, _, _⟩ := HM.out.cell hgB eB9
                                  have eB10 := hcB 10 _ rfl
                                  obtain ⟨bw10, bc10, _, _⟩ := HM.out.cell hgB eB10
                                  have HM2 := hide (Mk.set (Mk.set (Mk.set (Mk.set (Mk.set (Mk.set (Mk.set (Mk.set (Mk.set (Mk.set (Mk.set (HM.out) hgB hBB (k * 11) (.int .i64 0) _ (eB0) (.int _ _ _)) hgB hBB (k * 11 + 1) (.bool false) _ (eB1) (.bool _ _)) hgB hBB (k * 11 + 2) (.string ⟨#[]⟩) _ (eB2) (.str _ _)) hgB hBB (k * 11 + 3) (.slice none 0 0) _ (eB3) (alike_nil p1)) hgB hBB (k * 11 + 4) (.bool false) _ (eB4) (.bool _ _)) hgB hBB (k * 11 + 5) (.int .i64 0) _ (eB5) (.int _ _ _)) hgB hBB (k * 11 + 6) (.slice none 0 0) _ (eB6) (alike_nil p2)) hgB hBB (k * 11 + 7) (.int .i64 0) _ (eB7) (.int _ _ _)) hgB hBB (k * 11 + 8) (.slice none 0 0) _ (eB8) (alike_nil p3)) hgB hBB (k * 11 + 9) (.string ⟨#[]⟩) _ (eB9) (.str _ _)) hgB hBB (k * 11 + 10) (.string ⟨#[]⟩) _ (eB10) (.str _ _))
                                  clear eB0 eB1 eB2 eB3 eB4 eB5 eB6 eB7 eB8 eB9 eB10
                                  have z6 := box6 (HM.out.box.trans (congrArg some hbx))
                                  have rz := cell_of_row wr gg (i * 11 + 4) _ _ _ HR.out
                                  rw [cR] at rz
                                  have bz := cell_of_row wr wB.heap.size 6 _ _ _ HP.out
                                  go_wp2_with fail
                                  clear bz
                                  go_roundw
                                  case rel => exact ⟨k + 1, by omega, by go_num, HM2⟩
                                  case measure => simp [intOf]; omega
                        · have eg0 := hcg 0 _ rfl
                          rw [Nat.add_zero] at eg0
                          obtain ⟨qw0, qc0, qf, _⟩ := HM.out.cell hgg eg0
                          have eg1 := hcg 1 _ rfl
                          obtain ⟨qw1, qc1, _, _⟩ := HM.out.cell hgg eg1
                          have eg2 := hcg 2 _ rfl
                          obtain ⟨qw2, qc2, _, _⟩ := HM.out.cell hgg eg2
                          have eg3 := hcg 3 _ rfl
                          obtain ⟨qw3, qc3, _, _⟩ := HM.out.cell hgg eg3
                          have eg4 := hcg 4 _ rfl
                          obtain ⟨qw4, qc4, _, _⟩ := HM.out.cell hgg eg4
                          have eg5 := hcg 5 _ rfl
                          obtain ⟨qw5, qc5, _, _⟩ := HM.out.cell hgg eg5
                          have eg6 := hcg 6 _ rfl
                          obtain ⟨qw6, qc6, _, _⟩ := HM.out.cell hgg eg6
                          have eg7 := hcg 7 _ rfl
                          obtain ⟨qw7, qc7, _, _⟩ := HM.out.cell hgg eg7
                          have eg8 := hcg 8 _ rfl
                          obtain ⟨qw8, qc8, _, _⟩ := HM.out.cell hgg eg8
                          have eg9 := hcg 9 _ rfl
                          obtain ⟨qw9, qc9, _, _⟩ := HM.out.cell hgg eg9
                          have eg10 := hcg 10 _ rfl
                          obtain ⟨qw10, qc10, _, _⟩ := HM.out.cell hgg eg10
                          have HM2 := hide (Mk.set (Mk.set (Mk.set (Mk.set (Mk.set (Mk.set (Mk.set (Mk.set (Mk.set (Mk.set (Mk.set (HM.out) hgg hBg (i * 11) (.string ⟨#[]⟩) _ (eg0) (.str _ _)) hgg hBg (i * 11 + 1) (.string ⟨#[]⟩) _ (eg1) (.str _ _)) hgg hBg (i * 11 + 2) (.int .i64 0) _ (eg2) (.int _ _ _)) hgg hBg (i * 11 + 3) (.int .i64 0) _ (eg3) (.int _ _ _)) hgg hBg (i * 11 + 4) (.slice none 0 0) _ (eg4) (alike_nil hk1)) hgg hBg (i * 11 + 5) (.int .i64 0) _ (eg5) (.int _ _ _)) hgg hBg (i * 11 + 6) (.bool false) _ (eg6) (.bool _ _)) hgg hBg (i * 11 + 7) (.string ⟨#[]⟩) _ (eg7) (.str _ _)) hgg hBg (i * 11 + 8) (.slice none 0 0) _ (eg8) (alike_nil hk2)) hgg hBg (i * 11 + 9) (.bool false) _ (eg9) (.bool _ _)) hgg hBg (i * 11 + 10) (.int .i64 0) _ (eg10) (.int _ _ _))
                          clear eg0 eg1 eg2 eg3 eg4 eg5 eg6 eg7 eg8 eg9 eg10
                          have z6 := box6 (HM.out.box.trans (congrArg some hbx))
                          clear hrB
                          go_wp2_with fail
                          go_roundw
                          case rel => exact ⟨i + 1, by omega, by go_num, HM2⟩
                          case measure => simp [intOf]; omega
                    · clear hN
                      have z6 := box6 (HM.out.box.trans (congrArg some hbx))
                      go_wp2_with fail
                      go_loopw [14] (fun x wr => ∃ i : Nat, i ≤ 1000000000 ∧ x = .int .i64 i ∧ Hid (Mk (R + 1) w bx wr)) (fun x _ => S.totals.length - (intOf x).toNat)
                      case atStart => exact ⟨0, by omega, rfl, HM⟩
                      case round =>
                        clear HM
                        obtain ⟨i, hli, rfl, HM⟩ := hrel
                        have hN := HS.out.totals
                        have hL := hs.totals
                        by_cases hlt : i < S.totals.length
                        · obtain ⟨t, gg, cap, cur, ys, htm, ev, hz, hgg, ⟨pv, rfl, hk1⟩, hcg⟩ := hN.put hlt
                          cases ev
                          have hit := hs.totals' t (List.mem_of_getElem? htm)
                          have hAu := hcg 2 _ rfl
                          have z8 := box8 (HM.out.box.trans (congrArg some hbx))
                          clear hN htm hcg
                          go_wp2_with fail
                          go_loopw [15] (fun x wr => ∃ k : Nat, k ≤ 1000000000 ∧ x = .int .i64 k ∧ Hid (Mk (R + 1) w bx wr)) (fun x _ => t.preds.length - (intOf x).toNat)
                          case atStart => exact ⟨0, by omega, rfl, HM⟩
                          case round =>
                            clear HM
                            obtain ⟨k, hlk, rfl, HM⟩ := hrel
                            obtain ⟨aA, nA, xA, hlA, hnA, hrA⟩ := HM.out.rows hgg hAu hk1
                            by_cases hltA : k < nA
                            · obtain ⟨tA, gA, curA, ysA, rfl, hzA, hgA, hyA, _, hcA⟩ := hrA k hltA
                              cases hyA
                              have hBA : R + 1 ≤ gA := hzA.1
                              have eA0 := hcA 0 _ rfl
                              rw [Nat.mul_one, Nat.add_zero] at eA0
                              obtain ⟨pAw0, pAc0, pAf, _⟩ := HM.out.cell hgA eA0
                              have HM2 := hide (Mk.set (HM.out) hgA hBA (k) (.string ⟨#[109, 97, 114, 107, 101, 100]⟩) _ (eA0) (.str _ _))
                              clear eA0
                              have z8 := box8 (HM.out.box.trans (congrArg some hbx))
                              clear hrA hcA
                              go_wp2_with fail
                              go_roundw
                              case rel => exact ⟨k + 1, by omega, by go_num, HM2⟩
                              case measure => simp [intOf]; omega
                            · have z8 := box8 (HM.out.box.trans (congrArg some hbx))
                              clear hrA
                              go_wp2_with fail
                              clear hlA hnA hltA
                              go_roundw
                              case rel => exact ⟨i + 1, by omega, by go_num, HM⟩
                              case measure => simp [intOf]; omega
                        · clear hN
                          have z8 := box8 (HM.out.box.trans (congrArg some hbx))
                          go_wp2_with fail
                          go_end0
                          exact ⟨rfl, HM.out.ch.bel⟩
end Go.Proofs.YthnjmfkiohgkkaaGreatDoor.Sy
