/- Which schema prevails, plainly; the judge in memory. -/
import Derived.Test.YtbdlgglbcaoakaaGreatLast8
import Derived.Maps.OwnSet
namespace Go.Proofs.YtbdlgglbcaoakaaGreat
open Go.RowKit Go.Shelf Go.Maps Go.WideMaps

/-- The ranks by the sources' names; the exceptions that are declared. -/
def rkD (l : List (Bytes × Int)) : DataW Unit := l.foldl (fun D p => D.put (.string p.1) (.lit (.int .i64 p.2))) (.map [])
def exD (l : List (Bytes × Bytes)) : DataW Unit := l.foldl (fun D p => D.put (.string (keyE p)) (.agg [])) (.map [])
theorem rkD_snoc {l : List (Bytes × Int)} {p : Bytes × Int} : rkD (l ++ [p]) = (rkD l).put (.string p.1) (.lit (.int .i64 p.2)) := by unfold rkD; rw [List.foldl_append]; rfl
theorem exD_snoc {l : List (Bytes × Bytes)} {p : Bytes × Bytes} : exD (l ++ [p]) = (exD l).put (.string (keyE p)) (.agg []) := by unfold exD; rw [List.foldl_append]; rfl
def rkV (l : List (Bytes × Int)) (s : Bytes) : Int := match (rkD l).atKey (.string s) (.lit (.int .i64 0)) with | .lit (.int _ c) => c | _ => 0
def exB (l : List (Bytes × Bytes)) (x : Bytes × Bytes) : Bool := Maps.has (exD l) (.string (keyE x))
/-- By what one prevails over another. -/
def wgM (ab ba : Bool) (ra rb da db : Int) : Int := if ab then 1 else if ba then 0 else if rb < ra then 2 else if ra = rb ∧ db < da then 3 else 0
def noLit : LitM := ⟨false, [], [], false, 0⟩
def noRule : RuleM := ⟨[], [], 0, 0, [], 0, noLit⟩
def StatM.weighM (S : StatM) (a b : Nat) : Int :=
  let x := S.rules.getD a noRule
  let y := S.rules.getD b noRule
  wgM (exB S.excepts (x.name, y.name)) (exB S.excepts (y.name, x.name)) (rkV S.sources x.source) (rkV S.sources y.source) x.day y.day
/-- A judge in memory. -/
structure Jd (J bR bE bA nR nE : Nat) (rv : Value) (src : List (Bytes × Int)) (exc : List (Bytes × Bytes)) (w : World) : Prop where
  bx : w.heap[J]? = some (.cells #[rv, .map (some bR), .map (some bE), .map (some bA)] 71 (0, 0))
  mR : w.ownsMap (H := Unit) Tryz.prog 9 (plainElem Tryz.prog 3) bR nR (rkD src)
  mE : w.ownsMap (H := Unit) Tryz.prog 41 unitElem bE nE (exD exc)
  mA : w.ownsMap (H := Unit) Tryz.prog 76 (plainElem Tryz.prog 77) bA 0 (.map [])
  ne : bR ≠ bE ∧ bR ≠ bA ∧ bE ≠ bA
section
variable {J bR bE bA nR nE : Nat} {rv : Value} {src : List (Bytes × Int)} {exc : List (Bytes × Bytes)} {w w' : World}
theorem Jd.keep (h : Jd J bR bE bA nR nE rv src exc w) (hk : ∀ k, (k = J ∨ k = bR ∨ k = bE ∨ k = bA) → w'.heap[k]? = w.heap[k]?) : Jd J bR bE bA nR nE rv src exc w' :=
  ⟨(hk _ (.inl rfl)).trans h.bx, map_keep h.mR (hk _ (.inr (.inl rfl))), map_keep h.mE (hk _ (.inr (.inr (.inl rfl)))), map_keep h.mA (hk _ (.inr (.inr (.inr rfl)))), h.ne⟩
theorem map_cells {P : Program} {k : TypeId} {R : Value → Option (DataW Unit × List MemPlace)} {b n g : Nat} {D : DataW Unit} {cs : Array Value} {T : Nat} {fr : Nat × Nat} (h : w.ownsMap P k R b n D) (hg : w.heap[g]? = some (.cells cs T fr)) : g ≠ b := by
  obtain ⟨es, c, h1, _⟩ := h
  intro e
  rw [e, h1] at hg
  cases hg
theorem Jd.low (h : Jd J bR bE bA nR nE rv src exc w) : J < w.heap.size ∧ bR < w.heap.size ∧ bE < w.heap.size ∧ bA < w.heap.size := by
  refine ⟨?_, h.mR.lt, h.mE.lt, h.mA.lt⟩
  apply Classical.byContradiction
  intro hn
  have := h.bx
  rw [Array.getElem?_eq_none (by omega)] at this
  cases this
theorem Jd.go (h : Jd J bR bE bA nR nE rv src exc w) (hb : Below w.heap.size w w') : Jd J bR bE bA nR nE rv src exc w' := by
  obtain ⟨l1, l2, l3, l4⟩ := h.low
  refine h.keep fun k hk => hb.block k ?_
  rcases hk with e | e | e | e <;> omega
theorem Jd.addR (h : Jd J bR bE bA nR nE rv src exc w) (hg : w.grownBy w' (some bR)) {p : Bytes × Int} (ho : w'.ownsMap (H := Unit) Tryz.prog 9 (plainElem Tryz.prog 3) bR (nR + 1) ((rkD src).put (.string p.1) (.lit (.int .i64 p.2)))) : Jd J bR bE bA (nR + 1) nE rv (src ++ [p]) exc w' := by
  obtain ⟨l1, l2, l3, l4⟩ := h.low
  refine ⟨(hg.block J l1 fun e => map_cells h.mR h.bx (by cases e; rfl)).trans h.bx, by rw [rkD_snoc]; exact ho, h.mE.kept hg fun e => h.ne.1 (by cases e; rfl), h.mA.kept hg fun e => h.ne.2.1 (by cases e; rfl), h.ne⟩
theorem Jd.addX (h : Jd J bR bE bA nR nE rv src exc w) (hg : w.grownBy w' (some bE)) {p : Bytes × Bytes} (ho : w'.ownsMap (H := Unit) Tryz.prog 41 unitElem bE (nE + 1) ((exD exc).put (.string (keyE p)) (.agg []))) : Jd J bR bE bA nR (nE + 1) rv src (exc ++ [p]) w' := by
  obtain ⟨l1, l2, l3, l4⟩ := h.low
  refine ⟨(hg.block J l1 fun e => map_cells h.mE h.bx (by cases e; rfl)).trans h.bx, h.mR.kept hg fun e => h.ne.1 (by cases e; rfl), by rw [exD_snoc]; exact ho, h.mA.kept hg fun e => h.ne.2.2 (by cases e; rfl), h.ne⟩
end
/-- A rank looked up. -/
theorem look_R {w : World} {b n : Nat} {l : List (Bytes × Int)} (hm : w.ownsMap (H := Unit) Tryz.prog 9 (plainElem Tryz.prog 3) b n (rkD l)) (s : Bytes) (hs : s.length ≤ maxLen) : (Instr.lookup 67 (.map (some b)) (.string ⟨s.toArray⟩) false).run Tryz.prog w = .ok (.int .i64 (rkV l s)) w := by
  obtain ⟨c, hrun, hat, _⟩ := hm.lookup_int law Tryz.underlying67 Tryz.underlying3 (Tryz.zeroValue3 _) (key_mk hs)
  have : rkV l s = c := by unfold rkV; rw [hat]
  rw [this]
  exact hrun
theorem zeroU (w : World) : (zeroValue 74).run Tryz.prog w = .ok (.agg #[]) w := by kernel_rfl
/-- An exception looked up. -/
theorem look_X {w : World} {b n : Nat} {l : List (Bytes × Bytes)} (hm : w.ownsMap (H := Unit) Tryz.prog 41 unitElem b n (exD l)) (x : Bytes × Bytes) (h1 : x.1.length ≤ maxLen) (h2 : x.2.length ≤ maxLen) : (Instr.lookup 68 (.map (some b)) (.agg #[str x.1, str x.2]) true).run Tryz.prog w = .ok (.tuple #[.agg #[], .bool (exB l x)]) w := by
  obtain ⟨v, ps, hrun, hv⟩ := hm.look_ok lawE Tryz.underlying68 (zeroU w) (zd := .agg []) (zp := []) unitElem_mk (keyE_mk h1 h2)
  obtain ⟨rfl, _⟩ := unitElem_inv hv
  exact hrun
end Go.Proofs.YtbdlgglbcaoakaaGreat
/- newJudge. -/
namespace Go.Proofs.YtbdlgglbcaoakaaGreat
open Go.RowKit Go.Shelf Go.Maps Go.WideMaps

theorem jd_start (u : World) (rv : Value) : Jd (u.heap.size + 1 + 1 + 1) u.heap.size (u.heap.size + 1) (u.heap.size + 1 + 1) 0 0 rv [] [] ((((u.alloc (.map #[] 0)).alloc (.map #[] 0)).alloc (.map #[] 0)).alloc (.cells #[rv, .map (some u.heap.size), .map (some (u.heap.size + 1)), .map (some (u.heap.size + 1 + 1))] 71)) ∧ Below u.heap.size u ((((u.alloc (.map #[] 0)).alloc (.map #[] 0)).alloc (.map #[] 0)).alloc (.cells #[rv, .map (some u.heap.size), .map (some (u.heap.size + 1)), .map (some (u.heap.size + 1 + 1))] 71)) := by
  have z1 : (u.alloc (.map #[] 0)).heap.size = u.heap.size + 1 := by simp
  have z2 : ((u.alloc (.map #[] 0)).alloc (.map #[] 0)).heap.size = u.heap.size + 1 + 1 := by simp
  have z3 : (((u.alloc (.map #[] 0)).alloc (.map #[] 0)).alloc (.map #[] 0)).heap.size = u.heap.size + 1 + 1 + 1 := by simp
  have m1 := World.ownsMap_made (H := Unit) u Tryz.prog 9 (plainElem Tryz.prog 3)
  have m2 := World.ownsMap_made (H := Unit) (u.alloc (.map #[] 0)) Tryz.prog 41 unitElem
  have m3 := World.ownsMap_made (H := Unit) ((u.alloc (.map #[] 0)).alloc (.map #[] 0)) Tryz.prog 76 (plainElem Tryz.prog 77)
  rw [z1] at m2
  rw [z2] at m3
  refine ⟨⟨?_, ((m1.alloc _).alloc _).alloc _, (m2.alloc _).alloc _, m3.alloc _, by omega, by omega, by omega⟩, ?_⟩
  · have := heap_alloc_new (((u.alloc (.map #[] 0)).alloc (.map #[] 0)).alloc (.map #[] 0)) (.cells #[rv, .map (some u.heap.size), .map (some (u.heap.size + 1)), .map (some (u.heap.size + 1 + 1))] 71)
    rw [z3] at this
    exact this
  · exact ((((Below.refl _ u).alloc (Nat.le_refl _) _).alloc (by omega) _).alloc (by omega) _).alloc (by omega) _
set_option maxRecDepth 100000 in
set_option maxHeartbeats 6400000 in
theorem newJudge_any {S : StatM} {st : St9} {w : World} (h : SR w.heap.size w S st) (hsl : S.sources.length ≤ 4096) (hxl : S.excepts.length ≤ 4096) (hrk : ∀ p ∈ S.sources, 0 ≤ p.2 ∧ p.2 ≤ 1000) :
    Calls Tryz.prog 11 #[st.agg] w fun e w' => ∃ J bR bE bA nR nE, e = .returned (.pointer (some ⟨J, 0, none⟩)) ∧ Jd J bR bE bA nR nE st.rules S.sources S.excepts w' ∧ w.heap.size ≤ bA ∧ Below w.heap.size w w' := by
  obtain ⟨tt, ht⟩ := h.title
  obtain ⟨a1, b1, f1, _, l1⟩ := h.kinds.form
  obtain ⟨a2, b2, f2, _, l2⟩ := h.members.form
  obtain ⟨a3, b3, f3, _, l3⟩ := h.preds.form
  obtain ⟨a4, b4, f4, _, l4⟩ := h.classes.form
  obtain ⟨a5, b5, f5, _, l5⟩ := h.sources.form
  obtain ⟨a6, b6, f6, _, l6⟩ := h.rules.form
  obtain ⟨a7, b7, f7, _, l7⟩ := h.excepts.form
  obtain ⟨a8, b8, f8, _, l8⟩ := h.totals.form
  obtain ⟨s0, s1, s2, s3, s4, s5, s6, s7, s8⟩ := st
  simp only at ht f1 f2 f3 f4 f5 f6 f7 f8
  subst ht f1 f2 f3 f4 f5 f6 f7 f8
  have HSrc : Hid (RR w.heap.size 2 cSrc w S.sources (.slice a5 S.sources.length b5)) := hide h.sources
  have HExc : Hid (RR w.heap.size 2 cM w S.excepts (.slice a7 S.excepts.length b7)) := hide h.excepts
  have HRK := hide hrk
  unfold St9.agg
  simp only
  clear h hrk
  have hk1 : ∀ w : World, (Instr.makeMap 67 none).run Tryz.prog w = .ok (.map (some w.heap.size)) (w.alloc (.map #[] 0)) := fun w => by kernel_rfl
  have hk2 : ∀ w : World, (Instr.makeMap 68 none).run Tryz.prog w = .ok (.map (some w.heap.size)) (w.alloc (.map #[] 0)) := fun w => by kernel_rfl
  have hk3 : ∀ w : World, (Instr.makeMap 69 none).run Tryz.prog w = .ok (.map (some w.heap.size)) (w.alloc (.map #[] 0)) := fun w => by kernel_rfl
  go_enter Tryz.func11, Tryz.ntmps11
  go_upto_region 2 with fail
  obtain ⟨hj0, hjb⟩ := jd_start (w.alloc (.cells #[.string tt, .slice a1 S.kinds.length b1, .slice a2 S.members.length b2, .slice a3 S.preds.length b3, .slice a4 S.classes.length b4, .slice a5 S.sources.length b5, .slice a6 S.rules.length b6, .slice a7 S.excepts.length b7, .slice a8 S.totals.length b8] 31)) (.slice a6 S.rules.length b6)
  have hA : Below w.heap.size w (w.alloc (.cells #[.string tt, .slice a1 S.kinds.length b1, .slice a2 S.members.length b2, .slice a3 S.preds.length b3, .slice a4 S.classes.length b4, .slice a5 S.sources.length b5, .slice a6 S.rules.length b6, .slice a7 S.excepts.length b7, .slice a8 S.totals.length b8] 31)) := (Below.refl _ w).alloc (Nat.le_refl _) _
  have hzz : (w.alloc (.cells #[.string tt, .slice a1 S.kinds.length b1, .slice a2 S.members.length b2, .slice a3 S.preds.length b3, .slice a4 S.classes.length b4, .slice a5 S.sources.length b5, .slice a6 S.rules.length b6, .slice a7 S.excepts.length b7, .slice a8 S.totals.length b8] 31)).heap.size = w.heap.size + 1 := by simp
  have hbx := (hjb.block w.heap.size (by rw [hzz]; omega)).trans (heap_alloc_new w (.cells #[.string tt, .slice a1 S.kinds.length b1, .slice a2 S.members.length b2, .slice a3 S.preds.length b3, .slice a4 S.classes.length b4, .slice a5 S.sources.length b5, .slice a6 S.rules.length b6, .slice a7 S.excepts.length b7, .slice a8 S.totals.length b8] 31))
  have HB0 := hide (hA.trans (hjb.mono hA.size))
  rw [hzz] at hj0 HB0 hbx
  have HJ0 := hide hj0
  have HBX0 := hide hbx
  clear hj0 hjb hA hzz hbx hk1 hk2 hk3
  generalize ((((w.alloc (.cells #[.string tt, .slice a1 S.kinds.length b1, .slice a2 S.members.length b2, .slice a3 S.preds.length b3, .slice a4 S.classes.length b4, .slice a5 S.sources.length b5, .slice a6 S.rules.length b6, .slice a7 S.excepts.length b7, .slice a8 S.totals.length b8] 31)).alloc (.map #[] 0)).alloc (.map #[] 0)).alloc (.map #[] 0)).alloc (.cells #[.slice a6 S.rules.length b6, .map (some (w.heap.size + 1)), .map (some (w.heap.size + 1 + 1)), .map (some (w.heap.size + 1 + 1 + 1))] 71) = w1 at *
  have c5 := cell_of_row w1 w.heap.size 5 _ _ _ HBX0.out
  have c7 := cell_of_row w1 w.heap.size 7 _ _ _ HBX0.out
  simp at c5 c7
  have HC7 := hide c7
  have hw1 : w.heap.size < w1.heap.size := loc_lt HBX0.out
  generalize hJ : w.heap.size + 1 + 1 + 1 + 1 = J at *
  generalize hA : w.heap.size + 1 + 1 + 1 = bA at *
  generalize hE : w.heap.size + 1 + 1 = bE at *
  generalize hR : w.heap.size + 1 = bR at *
  have HJJ : Hid (w.heap.size < J ∧ w.heap.size < bA ∧ w.heap.size < bE ∧ w.heap.size < bR) := hide (by omega)
  clear hJ hA hE hR HBX0 c7 l1 l2 l3 l4 l6 l8
  obtain ⟨n5, h5⟩ : ∃ n, S.sources.length = n := ⟨_, rfl⟩
  obtain ⟨n7, h7⟩ : ∃ n, S.excepts.length = n := ⟨_, rfl⟩
  have H5 := hide h5
  have H7 := hide h7
  rw [h5] at c5 hsl l5 HSrc
  rw [h7] at HC7 hxl l7 HExc
  clear h5 h7
  go_wp2_with fail
  go_loopw [18] (fun x wr => ∃ (i nR : Nat), i ≤ n5 ∧ nR ≤ i ∧ x = .int .i64 i ∧ Hid (Jd J bR bE bA nR 0 (.slice a6 S.rules.length b6) (S.sources.take i) [] wr) ∧ Hid (wr.heap[w.heap.size]? = w1.heap[w.heap.size]?) ∧ Hid (Below w.heap.size w wr)) (fun x _ => n5 - (intOf x).toNat)
  case atStart => exact ⟨0, 0, by omega, by omega, rfl, HJ0, hide rfl, HB0⟩
  case round =>
    clear HJ0 HB0 c5
    obtain ⟨i, nR, hi, hni, rfl, HJ, HBX, HB⟩ := hrel
    by_cases hlt : i < n5
    · obtain ⟨p, hp⟩ : ∃ p, S.sources[i]? = some p := ⟨_, List.getElem?_eq_getElem (by rw [H5.out]; exact hlt)⟩
      obtain ⟨g, o, rfl, hg, cs1, cs2, hpl⟩ := at_Src (RR.keep HSrc.out HB.out.block fun _ _ h => h) hp
      have hrk := HRK.out p (List.mem_of_getElem? hp)
      have HT : Hid (S.sources.take (i + 1) = S.sources.take i ++ [p]) := hide (by rw [List.take_add_one, hp]; rfl)
      unfold str at cs1
      obtain ⟨ps, pr⟩ := p
      simp only at cs1 cs2 hpl hrk HT
      clear hp
      go_upto_region 5 with fail
      have hA2 : Below wr.heap.size wr (wr.alloc (.cells #[.string ⟨ps.toArray⟩, .int .i64 pr] 73)) := (Below.refl _ wr).alloc (Nat.le_refl _) _
      have HJ2 := hide (HJ.out.go hA2)
      have hbx2 := heap_alloc_new wr (.cells #[.string ⟨ps.toArray⟩, .int .i64 pr] 73)
      have y0 : (wr.alloc (.cells #[.string ⟨ps.toArray⟩, .int .i64 pr] 73)).cell? ⟨wr.heap.size, 0, none⟩ = some (.string ⟨ps.toArray⟩) := cell_of_row _ _ 0 _ _ _ hbx2
      have y1 : (wr.alloc (.cells #[.string ⟨ps.toArray⟩, .int .i64 pr] 73)).cell? ⟨wr.heap.size, 1, none⟩ = some (.int .i64 pr) := cell_of_row _ _ 1 _ _ _ hbx2
      have hwr : w.heap.size < wr.heap.size := by have := HJ.out.low.1; have := HJJ.out.1; omega
      have HB2 := hide (HB.out.trans (hA2.mono HB.out.size))
      have HBX2 : Hid ((wr.alloc (.cells #[.string ⟨ps.toArray⟩, .int .i64 pr] 73)).heap[w.heap.size]? = w1.heap[w.heap.size]?) := hide ((hA2.block _ hwr).trans HBX.out)
      clear hA2 hbx2 HJ HB HBX cs1 cs2
      generalize wr.alloc (.cells #[.string ⟨ps.toArray⟩, .int .i64 pr] 73) = w2 at *
      have j1 : w2.cell? ⟨J, 1, none⟩ = some (.map (some bR)) := cell_of_row _ _ 1 _ _ _ HJ2.out.bx
      have HWF : Hid ((Lit.int .i64 pr).wf = true) := hide (WalkArith.wf_i64 (by omega))
      refine region_last (by kernel_rfl) (by kernel_rfl) (by kernel_rfl) (by kernel_rfl) (by kernel_rfl) ?_
      dsimp only [List.dropLast, List.getLast, List.cons_append, List.nil_append]
      repeat (go_big_quiet_step (fail))
      refine wpQuiet_nil ?_
      rintro _ ⟨nq, rfl⟩
      have HJ3 := hide (HJ2.out.go (below_drewN w2 nq))
      go_wp2_with (at_mapUpdate; go_must (refine wpList_mapUpdate_own _ rfl _ _ _ 67 rfl 9 3 law Tryz.underlying67 _ bR nR _ rfl HJ3.out.mR (by unfold maxLen; omega) _ _ _ rfl rfl (key_mk hpl) _ [] (plainElem_int Tryz.underlying3 HWF.out) ?_); intro w3 hm3 hg3; have HJ4 := hide (HJ3.out.addR (p := (ps, pr)) hg3 hm3); have HG3 := hide hg3; clear hm3 hg3)
      have HB4 : Hid (Below w.heap.size w w3) := hide ((HB2.out.trans ((below_drewN w2 nq).mono HB2.out.size)).trans ((Fr.of_grown (Z := fun k => w.heap.size ≤ k) HG3.out (fun k e => by cases e; have := HJJ.out; omega)).below fun k hk => ⟨by have := HB2.out.size; show k < w2.heap.size; omega, by omega⟩))
      have HBX4 : Hid (w3.heap[w.heap.size]? = w1.heap[w.heap.size]?) := hide ((HG3.out.block w.heap.size (by have := HJ3.out.low.1; have := HJJ.out.1; omega) (fun e => by cases e; have := HJJ.out; omega)).trans HBX2.out)
      go_wp2_with fail
      go_roundw
      case rel => exact ⟨i + 1, nR + 1, by omega, by omega, by go_num, hide (by rw [HT.out]; exact HJ4.out), HBX4, HB4⟩
      case measure => simp [intOf]; omega
    · have HJn : Hid (Jd J bR bE bA nR 0 (.slice a6 S.rules.length b6) S.sources [] wr) := hide (by have := HJ.out; rw [List.take_of_length_le (by rw [H5.out]; omega)] at this; exact this)
      have c7 : wr.cell? ⟨w.heap.size, 7, none⟩ = some (.slice a7 n7 b7) := (World.cell?_of_block HBX.out).trans HC7.out
      clear HJ HBX
      go_wp2_with fail
      clear c7
      go_loopw [34] (fun x ws => ∃ (k nE : Nat), k ≤ n7 ∧ nE ≤ k ∧ x = .int .i64 k ∧ Hid (Jd J bR bE bA nR nE (.slice a6 S.rules.length b6) S.sources (S.excepts.take k) ws) ∧ Hid (Below w.heap.size w ws)) (fun x _ => n7 - (intOf x).toNat)
      case atStart => exact ⟨0, 0, by omega, by omega, rfl, HJn, HB⟩
      case round =>
        clear HJn HB
        obtain ⟨k, nE, hk, hnk, rfl, HJ, HB⟩ := hrel
        by_cases hkt : k < n7
        · obtain ⟨p, hp⟩ : ∃ p, S.excepts[k]? = some p := ⟨_, List.getElem?_eq_getElem (by rw [H7.out]; exact hkt)⟩
          obtain ⟨g, o, rfl, hg, cs1, cs2, hp1, hp2⟩ := at_M (RR.keep HExc.out HB.out.block fun _ _ h => h) hp
          have HT : Hid (S.excepts.take (k + 1) = S.excepts.take k ++ [p]) := hide (by rw [List.take_add_one, hp]; rfl)
          have HKY := hide (keyE_mk hp1 hp2)
          unfold str at cs1 cs2 HKY
          clear hp
          go_upto_region 10 with fail
          have hA2 : Below wr.heap.size wr (wr.alloc (.cells #[.string ⟨p.1.toArray⟩, .string ⟨p.2.toArray⟩] 41)) := (Below.refl _ wr).alloc (Nat.le_refl _) _
          have HJ2 := hide (HJ.out.go hA2)
          have hbx2 := heap_alloc_new wr (.cells #[.string ⟨p.1.toArray⟩, .string ⟨p.2.toArray⟩] 41)
          have y0 : (wr.alloc (.cells #[.string ⟨p.1.toArray⟩, .string ⟨p.2.toArray⟩] 41)).cell? ⟨wr.heap.size, 0, none⟩ = some (.string ⟨p.1.toArray⟩) := cell_of_row _ _ 0 _ _ _ hbx2
          have y1 : (wr.alloc (.cells #[.string ⟨p.1.toArray⟩, .string ⟨p.2.toArray⟩] 41)).cell? ⟨wr.heap.size, 1, none⟩ = some (.string ⟨p.2.toArray⟩) := cell_of_row _ _ 1 _ _ _ hbx2
          have HB2 := hide (HB.out.trans (hA2.mono HB.out.size))
          clear hA2 hbx2 HJ HB cs1 cs2
          generalize wr.alloc (.cells #[.string ⟨p.1.toArray⟩, .string ⟨p.2.toArray⟩] 41) = w2 at *
          have j2 : w2.cell? ⟨J, 2, none⟩ = some (.map (some bE)) := cell_of_row _ _ 2 _ _ _ HJ2.out.bx
          refine region_last (by kernel_rfl) (by kernel_rfl) (by kernel_rfl) (by kernel_rfl) (by kernel_rfl) ?_
          dsimp only [List.dropLast, List.getLast, List.cons_append, List.nil_append]
          repeat (go_big_quiet_step (fail))
          refine wpQuiet_nil ?_
          rintro _ ⟨nq, rfl⟩
          have HJ3 := hide (HJ2.out.go (below_drewN w2 nq))
          go_wp2_with (at_mapUpdate; go_must (refine wpList_mapUpdate_own _ rfl _ _ _ 68 rfl 41 74 lawE Tryz.underlying68 _ bE nE _ rfl HJ3.out.mE (by unfold maxLen; omega) _ _ _ rfl rfl HKY.out _ [] unitElem_mk ?_); intro w3 hm3 hg3; have HJ4 := hide (HJ3.out.addX (p := p) hg3 hm3); have HG3 := hide hg3; clear hm3 hg3)
          have HB4 : Hid (Below w.heap.size w w3) := hide ((HB2.out.trans ((below_drewN w2 nq).mono HB2.out.size)).trans ((Fr.of_grown (Z := fun k => w.heap.size ≤ k) HG3.out (fun k e => by cases e; have := HJJ.out; omega)).below fun k hk => ⟨by have := HB2.out.size; show k < w2.heap.size; omega, by omega⟩))
          go_wp2_with fail
          go_roundw
          case rel => exact ⟨k + 1, nE + 1, by omega, by omega, by go_num, hide (by rw [HT.out]; exact HJ4.out), HB4⟩
          case measure => simp [intOf]; omega
        · have HJe : Hid (Jd J bR bE bA nR nE (.slice a6 S.rules.length b6) S.sources S.excepts wr) := hide (by have := HJ.out; rw [List.take_of_length_le (by rw [H7.out]; omega)] at this; exact this)
          clear HJ
          go_wp2_with fail
          go_ret
          exact ⟨J, bR, bE, bA, nR, nE, rfl, HJe.out, Nat.le_of_lt HJJ.out.2.1, HB.out⟩
end Go.Proofs.YtbdlgglbcaoakaaGreat
