/- fast.Order. -/
import Derived.Test.YtcobmbclhhimjaaGreatHd
import Derived.Test.YtcobmbclhhimjaaGreatFlf
import Derived.Test.YtcobmbclhhimjaaGreatRg7
namespace Go.Proofs.YtcobmbclhhimjaaGreat.Fa
open Go.RowKit

/-- What is told, in memory. -/
def Prow (w : World) (a : Option Addr) (l : List (Int × Int)) : Prop := ∀ (i : Nat) x, l[i]? = some x → ∃ g : Nat, a = some ⟨g, 0, none⟩ ∧ w.cell? ⟨g, i * 2, none⟩ = some (.int .i64 x.1) ∧ w.cell? ⟨g, i * 2 + 1, none⟩ = some (.int .i64 x.2)
theorem Prow.go {w w' : World} {a : Option Addr} {l : List (Int × Int)} (h : Prow w a l) (hb : Below w.heap.size w w') : Prow w' a l := by
  intro i x hx
  obtain ⟨g, e, h1, h2⟩ := h i x hx
  have hk := hb.block g (World.block_lt_of_cell? w _ h1)
  exact ⟨g, e, (World.cell?_of_block hk).trans h1, (World.cell?_of_block hk).trans h2⟩
theorem prow_of {w : World} {b : Nat} {a : Option Addr} {c : Nat} {l : List (Int × Int)} (h : w.ownsRow b 92 2 (.slice a l.length c) l.length (prs l)) : Prow w a l := by
  intro i x hx
  have hi := (List.getElem?_eq_some_iff.1 hx).1
  rcases h.2 with ⟨h1, h2⟩ | ⟨g, cap, cur, h1, -, -, -⟩
  · omega
  · cases h1
    have hc := h.cells (g := g) rfl
    have p := prs_at hx
    have q0 := hc _ _ p.1
    have q1 := hc _ _ p.2
    refine ⟨g, rfl, ?_, ?_⟩
    · rw [← q0]; congr 1; simp [Addr.add]
    · rw [← q1]; congr 1; simp [Addr.add]
section
variable {w : World} {T : Th} {F : List Int} {fa ra ba ea : Option Addr} {fc rc bc ec : Nat}
theorem run_told (h : TA w.heap.size w T fa fc ra rc ba bc) (hF : Ints w.heap.size w F (.slice ea F.length ec)) {n : Nat} (hp : Pf T F n) :
    Calls Tryz.prog 30 #[tv T fa fc ra rc ba bc, .slice ea F.length ec] w fun o w' => ∃ K td ta tc m k, o = .returned (ptr K) ∧ w'.cell? ⟨K, 19, none⟩ = some (.slice ta (List.length td) tc) ∧ (Sol T F m k ∧ List.length td = cntF m n ∧ Tld T F n td) ∧ Prow w' ta td ∧ Below w.heap.size w w' := by
  obtain ⟨m, k, hs⟩ := sol_exists hp
  refine (run_any (Inv := fun e => Alls T F n m e) h hF hp (start_ok hp) (start_all hp hs) fun e hi ht hl => step_all hp hs hi ht hl).mono ?_
  rintro o w' ⟨A, S, N, e, rfl, hN, ⟨tv1, he⟩, hi, htk, hb⟩
  have hsl : ∃ ta tc, tv1 = .slice ta e.td.length tc := owns_slice he.td
  obtain ⟨ta, tc, rfl⟩ := hsl
  obtain ⟨G, iv, -, -⟩ := hi.iv
  exact ⟨A.K, e.td, ta, tc, m, k, rfl, he.bx.get (i := 19) rfl, ⟨hs, told_len hp hs hi htk he.tok, Tld.of iv.o he.tok⟩, prow_of he.td, hb⟩
set_option maxRecDepth 100000 in
set_option maxHeartbeats 3200000 in
theorem Order_bad (h : TA w.heap.size w T fa fc ra rc ba bc) (hF : Ints w.heap.size w F (.slice ea F.length ec)) (hne : faultM T F ≠ 0) :
    Calls Tryz.prog 25 #[tv T fa fc ra rc ba bc, .slice ea F.length ec] w fun e w' => e = .returned (.tuple #[.slice none 0 0, .int .i64 (faultM T F)]) ∧ Below w.heap.size w w' := by
  have hB := below_new w (.cells #[.int .i64 T.lits, .slice fa T.foes.length fc, .slice ra T.rules.length rc, .slice ba T.beats.length bc] 25)
  have hX := heap_alloc_new w (.cells #[.int .i64 T.lits, .slice fa T.foes.length fc, .slice ra T.rules.length rc, .slice ba T.beats.length bc] 25)
  have CF := hide (fault_any (TR.go hB h) (Ints.go hB hF))
  have HB := hide hB
  have hne2 : (faultM T F != 0) = true := by simpa using hne
  clear h hB hF hne
  generalize faultM T F = e0 at *
  go_enter Tryz.func25, Tryz.ntmps25
  go_upto_region 1 with fail
  generalize w.alloc (.cells #[.int .i64 T.lits, .slice fa T.foes.length fc, .slice ra T.rules.length rc, .slice ba T.beats.length bc] 25) = W at *
  obtain ⟨-, c0, c1, c2, c3⟩ := Bt.of hX
  clear hX
  go_wp2_with (go_at_call 29; refine CF.out.mono ?_; rintro _ w1 ⟨rfl, hw1⟩; have HB1 := hide (HB.out.trans (hw1.mono HB.out.size)); clear hw1)
  go_ret2
  exact ⟨rfl, HB1.out⟩
set_option maxRecDepth 100000 in
set_option maxHeartbeats 3200000 in
theorem Order_ok (h : TA w.heap.size w T fa fc ra rc ba bc) (hF : Ints w.heap.size w F (.slice ea F.length ec)) (h0 : faultM T F = 0) :
    Calls Tryz.prog 25 #[tv T fa fc ra rc ba bc, .slice ea F.length ec] w fun e w' => ∃ td ta tc m k, e = .returned (.tuple #[.slice ta (List.length td) tc, .int .i64 0]) ∧ (Sol T F m k ∧ List.length td = cntF m T.lits.toNat ∧ Tld T F T.lits.toNat td) ∧ Prow w' ta td ∧ Below w.heap.size w w' := by
  have hB := below_new w (.cells #[.int .i64 T.lits, .slice fa T.foes.length fc, .slice ra T.rules.length rc, .slice ba T.beats.length bc] 25)
  have hX := heap_alloc_new w (.cells #[.int .i64 T.lits, .slice fa T.foes.length fc, .slice ra T.rules.length rc, .slice ba T.beats.length bc] 25)
  have CF := hide (fault_any (TR.go hB h) (Ints.go hB hF))
  rw [h0] at CF
  have HP := hide (pf_of h0)
  have HTA := hide (TR.go hB h)
  have HF := hide (Ints.go hB hF)
  have HB := hide hB
  have HX := hide hX
  clear h hB hF h0
  go_enter Tryz.func25, Tryz.ntmps25
  go_upto_region 1 with fail
  generalize w.alloc (.cells #[.int .i64 T.lits, .slice fa T.foes.length fc, .slice ra T.rules.length rc, .slice ba T.beats.length bc] 25) = W at *
  obtain ⟨-, c0, c1, c2, c3⟩ := Bt.of hX
  clear hX
  go_upto_region 4 with (go_at_call 29; refine CF.out.mono ?_; rintro _ w1 ⟨rfl, hw1⟩; have HW1 := hide hw1; clear hw1)
  have HX1 := hide ((HW1.out.block _ (loc_lt HX.out)).trans HX.out)
  have CS := hide (run_told (TR.go HW1.out HTA.out) (Ints.go HW1.out HF.out) HP.out)
  have HB1 := hide (HB.out.trans (HW1.out.mono HB.out.size))
  clear c0 c1 c2 c3 CF HX HTA HF HB HW1
  obtain ⟨-, c0, c1, c2, c3⟩ := Bt.of HX1.out
  go_wp2_with (go_at_call 30; refine CS.out.mono ?_; rintro _ w2 ⟨K, td, ta, tc, m, k, rfl, k19, hts, hrow, hw2⟩; have HS := hide hts; have HO := hide hrow; have HW2 := hide (HB1.out.trans (hw2.mono HB1.out.size)); clear hts hrow hw2)
  go_ret2
  exact ⟨td, ta, tc, m, k, rfl, HS.out, HO.out, HW2.out⟩
end
end Go.Proofs.YtcobmbclhhimjaaGreat.Fa
/- The document's IsOrder. -/
namespace Go.Proofs.YtcobmbclhhimjaaGreat.Rf
open Go.RowKit Rg Fa

/-- While an order is read: the box, the marks, the world. -/
structure Om (w : World) (bx mb hb K : Nat) (vs : List Value) (T : Th) (F : List Int) (n : Nat) (fa ra ba xa : Option Addr) (fc rc bc xc : Nat) (f : Int → Int) (w' : World) : Prop where
  lo : Below w.heap.size w w'
  bo : Fx bx 25 [.int .i64 T.lits, .slice fa T.foes.length fc, .slice ra T.rules.length rc, .slice ba T.beats.length bc] w'
  mr : Fx mb 77 (rowU n f) w'
  wo : Fx K 103 (wdL ⟨fa, fc, ra, rc, ba, bc, xa, xc, some ⟨hb, 0, none⟩, n⟩ T F n) w'
  hv : Hv hb n (grp T kA n) vs w'
  o1 : w.heap.size ≤ mb
  o2 : mb < hb
  o3 : bx < mb
  o4 : mb < K
section
variable {w : World} {bx mb hb K n : Nat} {vs : List Value} {T : Th} {F : List Int} {fa ra ba xa : Option Addr} {fc rc bc xc : Nat} {f : Int → Int} {w' w'' : World}
theorem Om.go (h : Om w bx mb hb K vs T F n fa ra ba xa fc rc bc xc f w') (hb' : Below w'.heap.size w' w'') : Om w bx mb hb K vs T F n fa ra ba xa fc rc bc xc f w'' :=
  ⟨h.lo.trans (hb'.mono h.lo.size), h.bo.keep (hb'.block _ h.bo.lt), h.mr.keep (hb'.block _ h.mr.lt), h.wo.keep (hb'.block _ h.wo.lt), h.hv.go hb', h.o1, h.o2, h.o3, h.o4⟩
theorem Om.drewN (h : Om w bx mb hb K vs T F n fa ra ba xa fc rc bc xc f w') (d : Nat) : Om w bx mb hb K vs T F n fa ra ba xa fc rc bc xc f (w'.drewN d) := h.go (below_drewN w' d)
theorem Om.set (h : Om w bx mb hb K vs T F n fa ra ba xa fc rc bc xc f w') {q : Nat} (hq : q < n) (x : Int) : Om w bx mb hb K vs T F n fa ra ba xa fc rc bc xc (upd f q x) (w'.setCell ⟨mb, q, none⟩ (.int .u8 x)) := by
  have o1 := h.o1
  have o2 := h.o2
  have o3 := h.o3
  have n1 : bx ≠ mb := by omega
  have o4 := h.o4
  have n2 : K ≠ mb := by omega
  refine ⟨h.lo.setCell (p := ⟨mb, q, none⟩) o1 _, h.bo.keep (other_set n1), ?_, h.wo.keep (other_set n2), h.hv.keep fun g hg _ => ?_, o1, o2, o3, o4⟩
  · rw [← rowU_set hq]; exact h.mr.set q _
  · have n3 : g ≠ mb := by omega
    exact other_set n3
theorem Om.wd (h : Om w bx mb hb K vs T F n fa ra ba xa fc rc bc xc f w') (hp : Pf T F n) (ht : TA w.heap.size w T fa fc ra rc ba bc) (hF : Ints w.heap.size w F (.slice xa F.length xc)) : Wd K ⟨fa, fc, ra, rc, ba, bc, xa, xc, some ⟨hb, 0, none⟩, n⟩ T F n w' :=
  wd_own hp (TR.go h.lo ht) (Ints.go h.lo hF) h.wo h.hv
theorem Om.at1 (h : Om w bx mb hb K vs T F n fa ra ba xa fc rc bc xc f w') : At1 w' (some ⟨mb, 0, none⟩) (u8s (rowM n f)) := by
  rw [u8s_row]
  exact fun i v hi => ⟨_, _, rfl, by rw [Nat.zero_add]; exact h.mr.get hi⟩
end
theorem cntF4 {m : List Int} : ∀ {k : Nat}, cntF m k ≤ 4 * k
  | 0 => Nat.le_refl _
  | k + 1 => by
    have h := cntF4 (m := m) (k := k)
    have h1 := b2n_le (hs m k 1)
    have h2 := b2n_le (hs m k 2)
    have h3 := b2n_le (hs m k 3)
    have h4 := b2n_le (hs m k 4)
    unfold cntF cntT
    omega
theorem row_zero {n : Nat} : (Array.replicate n (Value.int .u8 0)) = (rowU n (mqOf [])).toArray := by
  apply Array.ext'
  rw [Array.toList_replicate]
  apply List.ext_getElem?
  intro i
  unfold rowU
  rw [List.getElem?_map, List.getElem?_replicate]
  by_cases hi : i < n
  · rw [if_pos hi, List.getElem?_range hi]; rfl
  · rw [if_neg hi, List.getElem?_eq_none (by simpa using hi)]; rfl
section
variable {w : World} {T : Th} {F m : List Int} {td : List (Int × Int)} {fa ra ba xa la : Option Addr} {fc rc bc xc lc n k : Nat}
set_option maxRecDepth 100000 in
set_option maxHeartbeats 12800000 in
theorem isOrder_any (h : TA w.heap.size w T fa fc ra rc ba bc) (hF : Ints w.heap.size w F (.slice xa F.length xc)) (h0 : faultM T F = 0) (hn : T.lits.toNat = n) (hs : Sol T F m k) (hlen : td.length = cntF m n) (ht : Tld T F n td) (hrow : Prow w la td) :
    Calls Tryz.prog 26 #[tv T fa fc ra rc ba bc, .slice xa F.length xc, .slice la td.length lc] w fun e w' => e = .returned (.bool true) ∧ Below w.heap.size w w' := by
  obtain ⟨iB, hiB, zB0, zB1, zB2⟩ := info_parts infoM8
  have hB := below_new w (.cells #[.int .i64 T.lits, .slice fa T.foes.length fc, .slice ra T.rules.length rc, .slice ba T.beats.length bc] 25)
  have hX := heap_alloc_new w (.cells #[.int .i64 T.lits, .slice fa T.foes.length fc, .slice ra T.rules.length rc, .slice ba T.beats.length bc] 25)
  have hp := pf_of h0
  rw [hn] at hp
  have hn4 := hp.n4
  have HLN := hide hp.ln
  have HP := hide hp
  have HTA := hide (TR.go hB h)
  have HF := hide (Ints.go hB hF)
  have HR := hide (hrow.go hB)
  have HS := hide hs
  have HT := hide ht
  have HB := hide hB
  have HX := hide hX
  have CR := hide (rRun_ok h0 (TR.go hB h) (Ints.go hB hF))
  rw [hn] at CR
  obtain ⟨tl, htl⟩ : ∃ tl, td.length = tl := ⟨_, rfl⟩
  have HTL := hide htl
  have HLE : Hid (cntF m n = tl) := hide (by rw [← hlen, htl])
  have htl4 : tl ≤ 4 * n := by rw [← htl, hlen]; exact cntF4
  rw [htl]
  clear h hB hF h0 hs hlen ht hrow hp htl hn
  go_enter Tryz.func26, Tryz.ntmps26
  go_upto_region 1 with fail
  generalize w.alloc (.cells #[.int .i64 T.lits, .slice fa T.foes.length fc, .slice ra T.rules.length rc, .slice ba T.beats.length bc] 25) = W at *
  obtain ⟨-, c0, c1, c2, c3⟩ := Bt.of hX
  clear hX
  go_upto_region 2 with (go_at_call 10; refine CR.out.mono ?_; rintro _ w1 ⟨ma, m2, k2, rfl, hsm, hw1⟩; have HSM := hide hsm; have HW1 := hide hw1; clear hsm hw1)
  have hmm : m2 = m := sol_one HSM.out.1 HS.out
  subst hmm
  have CT := hide (rtotal_any (w := w1) (mc := n) HSM.out.2.2 HSM.out.2.1 hn4)
  rw [HLE.out] at CT
  have htt : ((tl : Int) != (tl : Int)) = false := by simp
  have HX1 := hide ((HW1.out.block _ (loc_lt HX.out)).trans HX.out)
  have HB1 := hide (HB.out.trans (HW1.out.mono HB.out.size))
  have HT1 := hide (TR.go HW1.out HTA.out)
  have HF1 := hide (Ints.go HW1.out HF.out)
  have HR1 := hide (HR.out.go HW1.out)
  clear c0 c1 c2 c3 CR HTA HF HR HB HW1 HX
  obtain ⟨-, c0, c1, c2, c3⟩ := Bt.of HX1.out
  go_upto_region 4 with (go_at_call 13; refine CT.out.mono ?_; rintro _ w2 ⟨rfl, hw⟩; subst w2)
  clear CT htt HSM HS HLE
  have hN := below_new w1 (.cells (Array.replicate n (.int .u8 0)) 77)
  have HMK : Hid (Fx w1.heap.size 77 (rowU n (mqOf (td.take 0))) (w1.alloc (.cells (Array.replicate n (.int .u8 0)) 77))) := hide (by
    unfold Fx
    rw [heap_alloc_new, row_zero, List.take_zero])
  have HX2 := hide ((hN.block _ (loc_lt HX1.out)).trans HX1.out)
  have HN := hide hN
  have HSZ : Hid ((w1.alloc (.cells (Array.replicate n (.int .u8 0)) 77)).heap.size = w1.heap.size + 1) := hide (by simp)
  have HBX : w.heap.size < w1.heap.size := loc_lt HX1.out
  clear hN HX1
  go_upto_region 5 with (at_make; go_must (refine wpList_make_fix _ rfl _ _ 29 rfl 77 iB _ Tryz.underlying29 hiB zB0 zB1 rfl _ _ n (by first | rfl | exact HLN.out | exact congrArg (Value.int .i64) HLN.out) (by first | rfl | exact HLN.out | exact congrArg (Value.int .i64) HLN.out) (by first | rfl | exact HLN.out | exact congrArg (Value.int .i64) HLN.out) (by first | rfl | exact HLN.out | exact congrArg (Value.int .i64) HLN.out) (by rw [zB2]; omega) (by unfold maxLen; omega) ?_))
  generalize w1.alloc (.cells (Array.replicate n (.int .u8 0)) 77) = W2 at *
  clear c0 c1 c2 c3
  obtain ⟨-, c0, c1, c2, c3⟩ := Bt.of HX2.out
  have CW := hide (newWorld_own HP.out (TR.go HN.out HT1.out) (Ints.go HN.out HF1.out))
  go_upto_region 6 with (go_at_call 43; refine CW.out.mono ?_; rintro _ w3 ⟨vs, rfl, hwo, hhv, hw3⟩; have HWO := hide hwo; have HHV := hide hhv; have HW3 := hide hw3; clear hwo hhv hw3)
  have HOM : Hid (Om w1 w.heap.size w1.heap.size (W2.heap.size + 1) (W2.heap.size + 2) vs T F n fa ra ba xa fc rc bc xc (mqOf (td.take 0)) w3) := hide ⟨HN.out.trans (HW3.out.mono HN.out.size), (HW3.out.block _ (loc_lt HX2.out)).trans HX2.out, HMK.out.keep (HW3.out.block _ HMK.out.lt), HWO.out, HHV.out, Nat.le_refl _, by have := HSZ.out; omega, HBX, by have := HSZ.out; omega⟩
  clear c0 c1 c2 c3 CW HWO HHV HW3 HMK HN HX2
  go_wp2_with fail
  go_loopw [11] (fun x wr => ∃ i : Nat, i ≤ tl ∧ x = .int .i64 i ∧ Hid (Om w1 w.heap.size w1.heap.size (W2.heap.size + 1) (W2.heap.size + 2) vs T F n fa ra ba xa fc rc bc xc (mqOf (td.take i)) wr)) (fun x _ => tl - (intOf x).toNat)
  case atStart => exact ⟨0, by omega, rfl, HOM⟩
  case round =>
    clear HOM
    obtain ⟨i, hi, rfl, HO⟩ := hrel
    by_cases hlt : i < tl
    · obtain ⟨x, hx⟩ := get_at (l := td) (i := i) (by rw [HTL.out]; exact hlt)
      obtain ⟨q, hxq, hq, hxt, hno, hcd, hnx⟩ := HT.out.step i x hx
      obtain ⟨g, rfl, d0, d1⟩ := (HR1.out.go HO.out.lo) i x hx
      obtain ⟨x1, t⟩ := x
      have hxq : x1 = (q : Int) := hxq
      subst hxq
      have d0 : wr.cell? ⟨g, i * 2, none⟩ = some (.int .i64 q) := d0
      have d1 : wr.cell? ⟨g, i * 2 + 1, none⟩ = some (.int .i64 t) := d1
      have HXT : Hid (isTag t) := hide hxt
      have ht1 : 1 ≤ t := by rcases hxt with rfl | rfl | rfl | rfl <;> decide
      have ht4 : t ≤ 4 := by rcases hxt with rfl | rfl | rfl | rfl <;> decide
      have hno : hb (mqOf (td.take i) q) t = false := hno
      clear hx hxt
      have c0 := HO.out.bo.get (i := 0) rfl
      have r0 := HO.out.mr.get (rowU_at (f := mqOf (td.take i)) hq)
      have f0 := HO.out.mr.frz q
      have hql : (q : Int) < T.lits := by rw [HLN.out]; omega
      go_upto_region 9 with fail
      go_quiet (fail)
      have HO2 := hide (HO.out.drewN nq)
      replace c0 : (wr.drewN nq).cell? _ = _ := c0
      replace r0 : (wr.drewN nq).cell? _ = _ := r0
      replace f0 : (wr.drewN nq).frozen? _ = _ := f0
      clear HO d0 d1
      generalize wr.drewN nq = w6 at *
      have CHas := hide (rhas_any (w := w6) (x := mqOf (td.take i) q) HXT.out)
      have CHol := hide (holds_any (w := w6) (mc := n) (HO2.out.wd HP.out HT1.out HF1.out) HO2.out.at1 rowM_len hq HXT.out)
      rw [hno] at CHas
      rw [hcd] at CHol
      have HNX := hide hnx
      clear hno hcd hnx
      go_upto_region 12 with (first | (go_at_call 37; refine CHas.out.mono ?_; rintro _ w7 ⟨rfl, hw⟩; subst w7) | (go_at_call 44; refine CHol.out.mono ?_; rintro _ w7 ⟨rfl, ⟨d, rfl⟩⟩))
      have HO3 := hide (HO2.out.drewN d)
      replace r0 : (w6.drewN d).cell? _ = _ := r0
      replace f0 : (w6.drewN d).frozen? _ = _ := f0
      clear HO2 CHas CHol c0
      generalize w6.drewN d = w7 at *
      have CB := hide fun W : World => rbit_any (w := W) HXT.out
      refine region_last (by kernel_rfl) (by kernel_rfl) (by kernel_rfl) (by kernel_rfl) (by kernel_rfl) ?_
      dsimp only [List.dropLast, List.getLast, List.cons_append, List.nil_append]
      repeat (go_big_quiet_step ((go_at_call 45; exact Calls.quiet_of_same (CB.out _))))
      refine wpQuiet_nil ?_
      rintro _ ⟨nq2, rfl⟩
      have HO4 : Hid (Om w1 w.heap.size w1.heap.size (W2.heap.size + 1) (W2.heap.size + 2) vs T F n fa ra ba xa fc rc bc xc (mqOf (td.take (i + 1))) ((w7.drewN nq2).setCell ⟨w1.heap.size, q, none⟩ (.int .u8 (bits .or .u8 (mqOf (td.take i) q) (bitM t))))) := hide (by
        have h1 := (HO3.out.drewN nq2).set hq (bits .or .u8 (mqOf (td.take i) q) (bitM t))
        rw [HNX.out]
        exact h1)
      have r7 : (w7.drewN nq2).cell? ⟨w1.heap.size, q, none⟩ = some (.int .u8 (mqOf (td.take i) q)) := r0
      have f7 : (w7.drewN nq2).frozen? ⟨w1.heap.size, q, none⟩ = false := f0
      clear HO3 r0 f0 CB HNX
      go_wp2_with fail
      go_roundw
      case rel => exact ⟨i + 1, by omega, by go_num, HO4⟩
      case measure => simp [intOf]; omega
    · have HLo := hide HO.out.lo
      clear HO
      go_wp2_with fail
      go_ret
      exact ⟨rfl, HB1.out.trans (HLo.out.mono HB1.out.size)⟩
end
end Go.Proofs.YtcobmbclhhimjaaGreat.Rf
