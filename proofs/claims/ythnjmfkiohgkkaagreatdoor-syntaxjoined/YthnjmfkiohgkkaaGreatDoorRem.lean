/- A remark ends. -/
import Derived.Test.YthnjmfkiohgkkaaGreatDoorAdd
namespace Go.Proofs.YthnjmfkiohgkkaaGreatDoor
open Go.RowKit

set_option maxRecDepth 100000 in
set_option maxHeartbeats 4000000 in
theorem inRemark_end (B : Nat) (T : ByteArray) (S : St) (i : Nat) (c : Int) (w : World) (h : Sc B T S w) (hn : S.rm.length ≤ 1000000) (hc : cls c = 1) (hT : T.size ≤ 1000000) (hi : i ≤ T.size) (hf : S.frm + 1 ≤ i) :
    Calls Tryz.prog 117 #[.pointer (some ⟨B, 0, none⟩), .int .i64 i, .int .i32 c] w fun r w' => r = .returned (.tuple #[]) ∧ Sc B T { S with fn := 66, rm := S.rm ++ [(T.extract (S.frm + 1) i).data.toList] } w' ∧ Fr B w w' := by
  obtain ⟨iT, hiT, zT0, zT1, zT2⟩ := info_parts infoStr
  obtain ⟨hs, tv, rv, hb, ht, hr⟩ := id h
  have CC := hide (classOf_any c w)
  have c0 := h.text
  have c1 : w.cell? ⟨B, 1, none⟩ = some _ := h.fnc
  have c2 : w.cell? ⟨B, 2, none⟩ = some (.int .i64 S.frm) := h.frmc
  have c4 : w.cell? ⟨B, 4, none⟩ = some rv := by rw [cell_of_row w B 4 _ 116 _ hb]; rfl
  have f1 := h.frz 1
  have f4 := h.frz 4
  have hlt := h.lt
  have hne : some B ≠ rv.ownBlock := fun e => by have := (hr.lt B e.symm).1; omega
  have HB := hide hb
  have HT := hide ht
  have HR := hide hr
  have wr : IntKind.i64.wrap ((S.frm : Int) + 1) = (S.frm : Int) + 1 := by rw [IntKind.wrap_i64]; omega
  have b0 : (0 : Int) ≤ (S.frm : Int) + 1 := by omega
  have b1 : (S.frm : Int) + 1 ≤ (i : Int) := by omega
  have b2 : (i : Int) ≤ (T.size : Int) := by omega
  clear h hb ht hr
  go_enter Tryz.func117, Tryz.ntmps117
  go_wp2_with fail
  refine CC.out.mono ?_
  rintro _ w1 ⟨rfl, hw1⟩
  subst w1
  go_wp2_with fail
  go_region_law
    ((refine step_append_lies _ (by rfl) _ _ _ (by rfl) (B + 2) 9 iT _ 1 16 Tryz.underlying22 hiT zT0 zT1 zT2 rfl (by omega) rv S.rm.length (S.rm.map strV) (by rfl) ((HR.out.alloc _).drew)
        ⟨w.heap.size, 0, none⟩ 1 1 [.string (T.extract (S.frm + 1) i)] (by rfl) (by rfl) (World.news_of_block (cs := #[.string (T.extract (S.frm + 1) i)]) (t := 9) (fr := (0, 0)) (heap_alloc_new w _)) (by simp [Value.oneCell'])
        (by omega) (by unfold maxLen; omega) (by omega) (by simp; omega) (w.heap.size + 1) (by simp) ?_; intro gg cap w1 hown1 hgrow hat hlt1; have f4' : w1.frozen? ⟨B, 4, none⟩ = false := (hgrow.frozen_far ⟨B, 4, none⟩ (by simp; omega) hne).trans ((World.frozen?_of_block (Go.heap_alloc_old w _ hlt)).trans f4); have c4' : w1.cell? ⟨B, 4, none⟩ = some rv := (hgrow.cell_far ⟨B, 4, none⟩ (by simp; omega) hne).trans ((World.cell?_of_block (Go.heap_alloc_old w _ hlt)).trans c4); have c1' : w1.cell? ⟨B, 1, none⟩ = _ := (hgrow.cell_far ⟨B, 1, none⟩ (by simp; omega) hne).trans ((World.cell?_of_block (Go.heap_alloc_old w _ hlt)).trans c1); have f1' : w1.frozen? ⟨B, 1, none⟩ = false := (hgrow.frozen_far ⟨B, 1, none⟩ (by simp; omega) hne).trans ((World.frozen?_of_block (Go.heap_alloc_old w _ hlt)).trans f1)))
  all_goals go_wp2
  all_goals go_end0
  all_goals
    have hg := (grown_alloc w (.cells #[.string (T.extract (S.frm + 1) i)] 9) rv.ownBlock).trans (grown_drew hgrow)
    have hF := Sc.rem hs HB.out HT.out HR.out (T.extract (S.frm + 1) i).data.toList (by rw [strV_data]; exact hown1) hg
    exact ⟨rfl, hF.1.setFn 66, hF.2.set _ _⟩
end Go.Proofs.YthnjmfkiohgkkaaGreatDoor
