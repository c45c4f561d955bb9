/- The scanner's two appends: a token, a remark. -/
import Derived.Test.YthnjmfkiohgkkaaGreatDoorBase
import Derived.Deep.RegionLaw
import Derived.KernelRfl
namespace Go.Proofs.YthnjmfkiohgkkaaGreatDoor
open Go.RowKit

theorem infoTok : (Tryz.prog.info? 50).map (fun i => (i.zero, i.size, i.bytes)) = some (some (.agg #[.int .i64 0, .string ⟨#[]⟩, .int .i64 0]), 3, 32) := by kernel_rfl
theorem infoStr : (Tryz.prog.info? 9).map (fun i => (i.zero, i.size, i.bytes)) = some (some (.string ⟨#[]⟩), 1, 16) := by kernel_rfl

section
variable {B : Nat} {T : ByteArray} {S : St} {w w1 : World}

/-- A row is appended to; the new value is laid in its cell. -/
theorem Sc.tok {tv rv : Value} (hs : B + 2 ≤ w.heap.size) (hb : w.heap[B]? = some (.cells (cellsOf B T S tv rv) 116 (0, 0))) (ht : w.ownsRow (B + 2) 50 3 tv S.tk.length (cellsT S.tk)) (hr : w.ownsRow (B + 2) 9 1 rv S.rm.length (S.rm.map strV))
    (t : Tok) {v : Value} (hown : w1.ownsRow (B + 2) 50 3 v (S.tk.length + 1) (cellsT S.tk ++ [.int .i64 t.kind, strV t.text, .int .i64 t.place])) (hg : w.grownBy w1 tv.ownBlock) :
    Sc B T { S with tk := S.tk ++ [t] } (w1.setCell ⟨B, 3, none⟩ v) ∧ Fr B w (w1.setCell ⟨B, 3, none⟩ v) := by
  have hne : some B ≠ tv.ownBlock := fun e => by have := (ht.lt B e.symm).1; omega
  have hb1 : w1.heap[B]? = some (.cells (cellsOf B T S tv rv) 116 (0, 0)) := (hg.block B (by omega) hne).trans hb
  refine ⟨⟨by have := hg.size; simp; omega, v, rv, ?_, ?_, ?_⟩, (Fr.grown hs hg fun k hk => (ht.lt k hk).1).set _ _⟩
  · rw [heap_setCell_same w1 B 3 _ 116 v hb1]; rfl
  · refine ownsRow_setCell_below ?_ (by simp) _
    simp only [cellsT_snoc, List.length_append, List.length_cons, List.length_nil]
    exact hown
  · refine ownsRow_setCell_below (hr.kept hg ?_) (by simp) _
    cases hvb : rv.ownBlock with
    | none => exact .inl rfl
    | some z =>
      refine .inr ?_
      rcases hr.2 with ⟨rfl, _⟩ | ⟨g, cap, cur, rfl, _, hz, _⟩
      · cases hvb
      · intro e1
        rcases ht.2 with ⟨rfl, _⟩ | ⟨g', cap', cur', rfl, _, hz', _⟩
        · cases e1
        · cases hvb
          have : g' = g := by simpa [Value.ownBlock] using e1.symm
          subst this
          rw [hz] at hz'
          simp at hz'

theorem Sc.rem {tv rv : Value} (hs : B + 2 ≤ w.heap.size) (hb : w.heap[B]? = some (.cells (cellsOf B T S tv rv) 116 (0, 0))) (ht : w.ownsRow (B + 2) 50 3 tv S.tk.length (cellsT S.tk)) (hr : w.ownsRow (B + 2) 9 1 rv S.rm.length (S.rm.map strV))
    (t : List UInt8) {v : Value} (hown : w1.ownsRow (B + 2) 9 1 v (S.rm.length + 1) (S.rm.map strV ++ [strV t])) (hg : w.grownBy w1 rv.ownBlock) :
    Sc B T { S with rm := S.rm ++ [t] } (w1.setCell ⟨B, 4, none⟩ v) ∧ Fr B w (w1.setCell ⟨B, 4, none⟩ v) := by
  have hne : some B ≠ rv.ownBlock := fun e => by have := (hr.lt B e.symm).1; omega
  have hb1 : w1.heap[B]? = some (.cells (cellsOf B T S tv rv) 116 (0, 0)) := (hg.block B (by omega) hne).trans hb
  refine ⟨⟨by have := hg.size; simp; omega, tv, v, ?_, ?_, ?_⟩, (Fr.grown hs hg fun k hk => (hr.lt k hk).1).set _ _⟩
  · rw [heap_setCell_same w1 B 4 _ 116 v hb1]; rfl
  · refine ownsRow_setCell_below (ht.kept hg ?_) (by simp) _
    cases hvb : tv.ownBlock with
    | none => exact .inl rfl
    | some z =>
      refine .inr ?_
      rcases ht.2 with ⟨rfl, _⟩ | ⟨g, cap, cur, rfl, _, hz, _⟩
      · cases hvb
      · intro e1
        rcases hr.2 with ⟨rfl, _⟩ | ⟨g', cap', cur', rfl, _, hz', _⟩
        · cases e1
        · cases hvb
          have : g' = g := by simpa [Value.ownBlock] using e1.symm
          subst this
          rw [hz] at hz'
          simp at hz'
  · refine ownsRow_setCell_below ?_ (by simp) _
    simp only [List.map_append, List.map_cons, List.map_nil, List.length_append, List.length_cons, List.length_nil]
    exact hown
end

theorem grown_alloc (w : World) (o : Obj) (row : Option Nat) : w.grownBy (w.alloc o) row := ⟨rfl, rfl, rfl, by simp, fun k hk _ => Go.heap_alloc_old w _ hk⟩
theorem grown_drew {w w1 : World} {row : Option Nat} (h : w.drew.grownBy w1 row) : w.grownBy w1 row := ⟨h.os, h.tape, h.output, h.size, h.block⟩
theorem strV_data (tb : ByteArray) : strV tb.data.toList = .string tb := by simp [strV]

set_option maxRecDepth 100000 in
set_option maxHeartbeats 1600000 in
theorem add_ok (B : Nat) (T : ByteArray) (S : St) (kind : Nat) (tb : ByteArray) (w : World) (h : Sc B T S w) (hn : S.tk.length ≤ 1000000) :
    Calls Tryz.prog 148 #[.pointer (some ⟨B, 0, none⟩), .int .i64 kind, .string tb] w fun r w' => r = .returned (.tuple #[]) ∧ Sc B T { S with fn := 66, tk := S.tk ++ [⟨kind, tb.data.toList, S.frm⟩] } w' ∧ Fr B w w' := by
  obtain ⟨iT, hiT, zT0, zT1, zT2⟩ := info_parts infoTok
  obtain ⟨hs, tv, rv, hb, ht, hr⟩ := id h
  have c1 : w.cell? ⟨B, 1, none⟩ = some _ := h.fnc
  have c2 : w.cell? ⟨B, 2, none⟩ = some (.int .i64 S.frm) := h.frmc
  have c3 : w.cell? ⟨B, 3, none⟩ = some tv := by rw [cell_of_row w B 3 _ 116 _ hb]; rfl
  have f1 := h.frz 1
  have f3 := h.frz 3
  have hlt := h.lt
  have hne : some B ≠ tv.ownBlock := fun e => by have := (ht.lt B e.symm).1; omega
  have HB := hide hb
  have HT := hide ht
  have HR := hide hr
  clear h hb ht hr
  go_enter Tryz.func148, Tryz.ntmps148
  go_wp2_with fail
  go_region_law
    ((refine step_append_lies _ (by rfl) _ _ _ (by rfl) (B + 2) 50 iT _ 3 32 Tryz.underlying42 hiT zT0 zT1 zT2 rfl (by omega) tv S.tk.length (cellsT S.tk) (by rfl) ((HT.out.alloc _).drew)
        ⟨w.heap.size, 0, none⟩ 1 1 [.int .i64 kind, .string tb, .int .i64 S.frm] (by rfl) (by rfl) (World.news_of_block (cs := #[.int .i64 kind, .string tb, .int .i64 S.frm]) (t := 50) (fr := (0, 0)) (heap_alloc_new w _)) (by simp [Value.oneCell'])
        (by omega) (by unfold maxLen; omega) (by omega) (by simp; omega) (w.heap.size + 1) (by simp) ?_; intro gg cap w1 hown1 hgrow hat hlt1; have f3' : w1.frozen? ⟨B, 3, none⟩ = false := (hgrow.frozen_far ⟨B, 3, none⟩ (by simp; omega) hne).trans ((World.frozen?_of_block (Go.heap_alloc_old w _ hlt)).trans f3); have c3' : w1.cell? ⟨B, 3, none⟩ = some tv := (hgrow.cell_far ⟨B, 3, none⟩ (by simp; omega) hne).trans ((World.cell?_of_block (Go.heap_alloc_old w _ hlt)).trans c3); have c1' : w1.cell? ⟨B, 1, none⟩ = _ := (hgrow.cell_far ⟨B, 1, none⟩ (by simp; omega) hne).trans ((World.cell?_of_block (Go.heap_alloc_old w _ hlt)).trans c1); have f1' : w1.frozen? ⟨B, 1, none⟩ = false := (hgrow.frozen_far ⟨B, 1, none⟩ (by simp; omega) hne).trans ((World.frozen?_of_block (Go.heap_alloc_old w _ hlt)).trans f1)))
  all_goals go_wp2
  all_goals go_end0
  all_goals
    have hg := (grown_alloc w (.cells #[.int .i64 kind, .string tb, .int .i64 S.frm] 50) tv.ownBlock).trans (grown_drew hgrow)
    have hF := Sc.tok hs HB.out HT.out HR.out ⟨kind, tb.data.toList, S.frm⟩ (by simpa [strV_data] using hown1) hg
    exact ⟨rfl, hF.1.setFn 66, hF.2.set _ _⟩

set_option maxRecDepth 100000 in
set_option maxHeartbeats 1600000 in
theorem inRemark_other (B : Nat) (i : Nat) (c : Int) (w : World) (hc : ¬ cls c = 1) :
    Calls Tryz.prog 117 #[.pointer (some ⟨B, 0, none⟩), .int .i64 i, .int .i32 c] w fun r w' => r = .returned (.tuple #[]) ∧ w' = w := by
  have CC := hide (classOf_any c w)
  go_enter Tryz.func117, Tryz.ntmps117
  go_wp2_with fail
  refine CC.out.mono ?_
  rintro _ w1 ⟨rfl, hw1⟩
  subst w1
  go_wp2_with fail
  go_end0
  exact ⟨rfl, rfl⟩
end Go.Proofs.YthnjmfkiohgkkaaGreatDoor
