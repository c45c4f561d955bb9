/- newObstacles. -/
import Derived.Test.YtcobmbclhhimjaaGreatNix
import Derived.Test.YtcobmbclhhimjaaGreatFs9
namespace Go.Proofs.YtcobmbclhhimjaaGreat.Fa
open Go.RowKit Rg

def add64 (x y : Int) : Int := IntKind.i64.wrap (x + y)
def ob1 (T : Th) (F : List Int) (q : Int) (f : Int → Int) (p : Int) : Int → Int := upd f p (if firmB T F q then inc (add64 (f p) ((rulesL T kA q).length : Nat)) else add64 (f p) ((rulesL T kA q).length : Nat))
def obK (T : Th) (F : List Int) (k : Nat) : Int → Int := (List.range k).foldl (fun f (q : Nat) => (rivalsL T q).foldl (ob1 T F q) f) fun _ => 0
/-- What is read of an index. -/
structure Ix (w : World) (T : Th) (F : List Int) (n rl tm rv fm : Nat) (fa ra ba : Option Addr) (fc rc bc : Nat) : Prop where
  ta : TA w.heap.size w T fa fc ra rc ba bc
  a : LL (fun k => k < w.heap.size) (rulesL T kA) n rl w
  t : LL (fun k => k < w.heap.size) (rulesL T kT) n tm w
  v : LL (fun k => k < w.heap.size) (rivalsL T) n rv w
  f : Fx fm 4 (rowB n (firmB T F)) w
theorem rival_lit {T : Th} {F : List Int} {n q : Nat} (hp : Pf T F n) (hq : q < n) {x : Int} (hx : x ∈ rivalsL T q) : 0 ≤ x ∧ x < (n : Int) := hp.foe q hq x (List.mem_filter.1 hx).1
theorem upd_twice {α : Type} {f : Int → α} {x : Int} {a b : α} : upd (upd f x a) x b = upd f x b := by
  funext z
  by_cases e : z = x
  · rw [e, upd_at, upd_at]
  · rw [upd_off e, upd_off e, upd_off e]
theorem obK_succ {T : Th} {F : List Int} {k : Nat} : obK T F (k + 1) = (rivalsL T k).foldl (ob1 T F k) (obK T F k) := by
  unfold obK
  rw [List.range_succ, List.foldl_append]
  rfl
theorem rep_rowI {n : Nat} : Array.replicate n (Value.int .i64 0) = (rowI n fun _ => 0).toArray := by
  unfold rowI
  rw [List.map_const', List.length_range, List.toArray_replicate]
set_option maxRecDepth 100000 in
set_option maxHeartbeats 12800000 in
theorem newObstacles_any {w : World} {T : Th} {F : List Int} {n rl tm rv fm : Nat} {fa ra ba : Option Addr} {fc rc bc : Nat} (h : Ix w T F n rl tm rv fm fa ra ba fc rc bc) (hp : Pf T F n) :
    Calls Tryz.prog 70 #[.agg (ixL T fa ra ba fc rc bc rl tm rv fm n).toArray] w fun o w' => ∃ g, o = .returned (sl g n) ∧ Fx g 3 (rowI n (obK T F n)) w' ∧ w.heap.size ≤ g ∧ Below w.heap.size w w' := by
  obtain ⟨iI, hiI, zI0, zI1, zI2⟩ := info_parts infoI
  have hn4 := hp.n4
  have hmI : ∀ W, (Instr.makeSlice 26 (.int .i64 T.lits) (.int .i64 T.lits)).run Tryz.prog W = .ok (sl W.heap.size n) (W.alloc (.cells (Array.replicate n (.int .i64 0)) 3)) := fun W => by rw [hp.ln]; exact run_make_fix (P := Tryz.prog) Tryz.underlying26 hiI zI0 zI1 rfl n (by rw [zI2]; omega) (by unfold maxLen; omega) W
  have hB1 := below_new w (.cells (ixL T fa ra ba fc rc bc rl tm rv fm n).toArray 69)
  have hX1 : Fx w.heap.size 69 (ixL T fa ra ba fc rc bc rl tm rv fm n) (w.alloc (.cells (ixL T fa ra ba fc rc bc rl tm rv fm n).toArray 69)) := by unfold Fx; rw [heap_alloc_new]
  have HP := hide hp
  have HI := hide h
  have HB := hide hB1
  have HX := hide hX1
  have c0 := hX1.get (i := 0) rfl
  have c6 := hX1.get (i := 6) rfl
  clear h hp hB1 hX1 hiI zI0 zI1 zI2
  have hfol : Tryz.prog.follows .mixedOrders = true := by kernel_rfl
  go_enter Tryz.func70, Tryz.ntmps70
  go_upto_region 1 with fail
  obtain ⟨W, hW⟩ : ∃ W, w.alloc (.cells (ixL T fa ra ba fc rc bc rl tm rv fm n).toArray 69) = W := ⟨_, rfl⟩
  obtain ⟨bq, hbq⟩ : ∃ bq, w.heap.size = bq := ⟨_, rfl⟩
  have HBQ := hide hbq
  rw [hW] at HB HX c0 c6 ⊢
  rw [hbq] at HX c0 c6 ⊢
  clear hW hbq
  have hB2 := below_new W (.cells (Array.replicate n (.int .i64 0)) 3)
  have hX2 : Fx W.heap.size 3 (rowI n fun _ => 0) (W.alloc (.cells (Array.replicate n (.int .i64 0)) 3)) := by unfold Fx; rw [heap_alloc_new, rep_rowI]
  have HX2 := hide hX2
  have c6' := (HX.out.keep (hB2.block _ HX.out.lt)).get (i := 6) rfl
  have HB2 := hide hB2
  clear hX2 hB2
  have hmW := hmI W
  clear hmI
  go_upto_region 2 with fail
  obtain ⟨W2, hW2⟩ : ∃ W2, W.alloc (.cells (Array.replicate n (.int .i64 0)) 3) = W2 := ⟨_, rfl⟩
  obtain ⟨g, hg⟩ : ∃ g, W.heap.size = g := ⟨_, rfl⟩
  have HG := hide hg
  rw [hW2] at HB2 HX2 c6' ⊢
  rw [hg] at HX2 ⊢
  have HBG : Hid (Below g W W2) := hide (by rw [← HG.out]; exact HB2.out)
  clear hW2 hg hmW HB2
  go_wp2_with fail
  clear c0 c6 c6'
  go_loopw [15] (fun x wr => ∃ k : Nat, k ≤ n ∧ x = .int .i64 k ∧ Hid (Fx g 3 (rowI n (obK T F k)) wr) ∧ Hid (Below g W wr)) (fun x _ => n - (intOf x).toNat)
  case atStart => exact ⟨0, by omega, rfl, HX2, HBG⟩
  case round =>
    clear HX2 HBG
    obtain ⟨k, hk, rfl, HO, HBr⟩ := hrel
    have HBw : Hid (Below bq w wr) := hide (by
      have e : bq ≤ g := by have := HB.out.size; rw [HBQ.out, HG.out] at this; exact this
      rw [← HBQ.out]
      exact HB.out.trans (HBr.out.mono (by rw [HBQ.out]; exact e)))
    by_cases hlt : k < n
    · have hrl := rival_len HP.out hlt
      obtain ⟨la, lc, cl, -⟩ := (HI.out.v.keep fun j hj => HBw.out.block j (by rw [← HBQ.out]; exact hj)).at hlt
      have HAT : Hid (∀ X, Below bq w X → At1 X la (ints (rivalsL T k))) := hide fun X hX => by
        obtain ⟨a2, c2, d2, i2⟩ := (HI.out.v.keep fun j hj => hX.block j (by rw [← HBQ.out]; exact hj)).at hlt
        have e4 : wr.cell? ⟨rv, k, none⟩ = X.cell? ⟨rv, k, none⟩ := (World.cell?_of_block (HBw.out.block rv (by rw [← HBQ.out]; exact HI.out.v.1))).trans (World.cell?_of_block (hX.block rv (by rw [← HBQ.out]; exact HI.out.v.1))).symm
        rw [cl, d2] at e4
        cases e4
        exact i2
      have HLI : Hid (∀ x ∈ rivalsL T k, 0 ≤ x ∧ x < (n : Int)) := hide fun x hx => rival_lit HP.out hlt hx
      have HNX : Hid (obK T F (k + 1) = (rivalsL T k).foldl (ob1 T F k) (obK T F k)) := hide obK_succ
      generalize obK T F k = f0 at HO HNX
      obtain ⟨l, hl⟩ : ∃ l, rivalsL T k = l := ⟨_, rfl⟩
      rw [hl] at hrl cl HAT HLI HNX
      clear hl
      go_wp2_with fail
      clear cl
      have HL := hide hlt
      have HOs := hide HO.out
      have HBs := hide HBr.out
      clear HO HBr HBw
      go_loopw [22] (fun x wr => ∃ j : Nat, j ≤ l.length ∧ x = .int .i64 j ∧ Hid (Fx g 3 (rowI n ((l.take j).foldl (ob1 T F k) f0)) wr) ∧ Hid (Below g W wr)) (fun x _ => l.length - (intOf x).toNat)
      case atStart => exact ⟨0, by omega, rfl, HOs, HBs⟩
      case round =>
        clear HOs HBs
        rename World => wr2
        obtain ⟨j, hj, rfl, HO, HBr⟩ := hrel
        have HBw : Hid (Below bq w wr2) := hide (by
          have e : bq ≤ g := by have := HB.out.size; rw [HBQ.out, HG.out] at this; exact this
          rw [← HBQ.out]
          exact HB.out.trans (HBr.out.mono (by rw [HBQ.out]; exact e)))
        by_cases hjl : j < l.length
        · obtain ⟨x0, hx⟩ := get_at hjl
          obtain ⟨x1, x2⟩ := HLI.out x0 (List.mem_of_getElem? hx)
          obtain ⟨x, rfl⟩ := Int.eq_ofNat_of_zero_le x1
          have hxn : x < n := by omega
          obtain ⟨gx, ox, rfl, cx⟩ := (HAT.out wr2 HBw.out).get hx
          have HS : Hid ((l.take (j + 1)).foldl (ob1 T F k) f0 = ob1 T F k ((l.take j).foldl (ob1 T F k) f0) x) := hide (by rw [take_snoc hx, List.foldl_append]; rfl)
          generalize (l.take j).foldl (ob1 T F k) f0 = f at HO HS
          have co := HO.out.get (rowI_at hxn)
          have zo := HO.out.frz x
          have hXr := HX.out.keep (HBr.out.block _ (by rw [← HG.out]; exact HX.out.lt))
          have c4 := hXr.get (i := 4) rfl
          have c7 := hXr.get (i := 7) rfl
          have hlt := HL.out
          obtain ⟨ra2, rc2, cr, -⟩ := (HI.out.a.keep fun j hj => HBw.out.block j (by rw [← HBQ.out]; exact hj)).at hlt
          have cf := (HI.out.f.keep (HBw.out.block _ (by rw [← HBQ.out]; exact HI.out.f.lt))).get (rowB_at hlt)
          have hrl2 : (rulesL T kA k).length ≤ 4096 := Nat.le_trans forL_len HP.out.ok.rl
          obtain ⟨v1, hv1⟩ : ∃ v1, IntKind.i64.wrap (f x + ((rulesL T kA k).length : Nat)) = v1 := ⟨_, rfl⟩
          have HV : Hid (add64 (f x) ((rulesL T kA k).length : Nat) = v1) := hide hv1
          clear hXr hx x1 x2 hlt
          go_upto_region 8 with fail
          refine region_last (by assumption) (by kernel_rfl) (by kernel_rfl) (by kernel_rfl) (by kernel_rfl) ?_
          dsimp only [List.dropLast, List.getLast, List.cons_append, List.nil_append]
          repeat (go_big_quiet_step (fail))
          refine wpQuiet_nil ?_
          rintro _ ⟨nq, rfl⟩
          have hd := below_drewN wr2 nq
          have hO := HO.out.keep (hd.block _ HO.out.lt)
          have co := hO.get (rowI_at hxn)
          have zo := hO.frz x
          have hO1 := hO.set x (.int .i64 v1)
          rw [rowI_set hxn] at hO1
          have hbqg : bq < g := by rw [← HG.out]; exact HX.out.lt
          have hle : bq ≤ g := by omega
          have hB1 : Below g W ((wr2.drewN nq).setCell ⟨g, x, none⟩ (.int .i64 v1)) := (HBr.out.trans (hd.mono (by have := HO.out.lt; omega))).setCell (p := ⟨g, x, none⟩) (Nat.le_refl _) _
          have hw1 : Below bq w ((wr2.drewN nq).setCell ⟨g, x, none⟩ (.int .i64 v1)) := by rw [← HBQ.out]; exact HB.out.trans (hB1.mono (by rw [HBQ.out]; exact hle))
          have hXr := HX.out.keep (hB1.block _ hbqg)
          have c7 := hXr.get (i := 7) rfl
          have cf := (HI.out.f.keep (hw1.block _ (by rw [← HBQ.out]; exact HI.out.f.lt))).get (rowB_at HL.out)
          have co1 := hO1.get (rowI_at hxn)
          have zo1 := hO1.frz x
          rw [upd_at] at co1
          obtain ⟨v2, hv2⟩ : ∃ v2, IntKind.i64.wrap (v1 + 1) = v2 := ⟨_, rfl⟩
          have HV2 : Hid (inc v1 = v2) := hide hv2
          have hO2 := hO1.set x (.int .i64 v2)
          rw [rowI_set hxn] at hO2
          have hB2 := hB1.setCell (p := ⟨g, x, none⟩) (Nat.le_refl _) (.int .i64 v2)
          have HO1 := hide hO1
          have HO2 := hide hO2
          have HB1 := hide hB1
          have HB2 := hide hB2
          clear hd hO hO1 hO2 hB1 hB2 hw1 hXr HO HBr HBw cx c4 cr HAT hv1
          cases hfm : firmB T F k with
          | true =>
            rw [hfm] at cf
            have HT : Hid (ob1 T F k f x = upd (upd f x v1) x v2) := hide (by unfold ob1; rw [hfm, HV.out, if_pos rfl, HV2.out]; exact upd_twice.symm)
            clear hfm
            go_wp2_with fail
            go_roundw
            case rel => exact ⟨j + 1, by omega, by go_num, hide (by rw [HS.out, HT.out]; exact HO2.out), HB2⟩
            case measure => simp [intOf]; omega
          | false =>
            rw [hfm] at cf
            have HT : Hid (ob1 T F k f x = upd f x v1) := hide (by unfold ob1; rw [hfm, HV.out]; rfl)
            clear hfm
            go_wp2_with fail
            go_roundw
            case rel => exact ⟨j + 1, by omega, by go_num, hide (by rw [HS.out, HT.out]; exact HO1.out), HB1⟩
            case measure => simp [intOf]; omega
        · have hjn : l.take j = l := List.take_of_length_le (by omega)
          rw [hjn] at HO
          go_wp2_with fail
          go_roundw
          case rel => exact ⟨k + 1, by have := HL.out; omega, by go_num, hide (by rw [HNX.out]; exact HO.out), HBr⟩
          case measure => have := HL.out; simp [intOf]; omega
    · have hkn : k = n := by omega
      subst hkn
      go_wp2_with fail
      go_ret
      exact ⟨g, rfl, HO.out, by rw [← HG.out]; exact HB.out.size, by rw [HBQ.out]; exact HBw.out⟩
end Go.Proofs.YtcobmbclhhimjaaGreat.Fa
