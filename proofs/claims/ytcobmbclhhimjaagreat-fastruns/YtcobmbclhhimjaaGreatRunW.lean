/- FastRuns, walked. -/
import Derived.Test.YtcobmbclhhimjaaGreatCpf
import Derived.Test.YtcobmbclhhimjaaGreatSame
import Derived.Test.YtcobmbclhhimjaaGreatRh0
import Derived.Test.YtcobmbclhhimjaaGreatFlf
import Derived.Test.YtcobmbclhhimjaaGreatHd
import Derived.Test.YtcobmbclhhimjaaGreatWks
import Derived.BigQuiet
namespace Go.Proofs.YtcobmbclhhimjaaGreat.Fa
open Go.RowKit

/-- What the law's last part asks: the copies are what was copied. -/
structure Kp (W : World) (own : Nat) (bx : Nat) (T : Th) (F : List Int) (fa ra ba fa2 ra2 ba2 xa ya : Option Addr) (fc rc bc fc2 rc2 bc2 xc yc : Nat) : Prop where
  b1 : Fx bx 25 [.int .i64 T.lits, .slice fa T.foes.length fc, .slice ra T.rules.length rc, .slice ba T.beats.length bc] W
  b2 : Fx own 25 [.int .i64 T.lits, .slice fa2 T.foes.length fc2, .slice ra2 T.rules.length rc2, .slice ba2 T.beats.length bc2] W
  t1 : TA W.heap.size W T fa fc ra rc ba bc
  t2 : TA W.heap.size W T fa2 fc2 ra2 rc2 ba2 bc2
  i1 : Ints W.heap.size W F (.slice xa F.length xc)
  i2 : Ints W.heap.size W F (.slice ya F.length yc)
theorem Kp.go {W W' : World} {own bx : Nat} {T : Th} {F : List Int} {fa ra ba fa2 ra2 ba2 xa ya : Option Addr} {fc rc bc fc2 rc2 bc2 xc yc : Nat} (h : Kp W own bx T F fa ra ba fa2 ra2 ba2 xa ya fc rc bc fc2 rc2 bc2 xc yc) (hb : Below W.heap.size W W') : Kp W' own bx T F fa ra ba fa2 ra2 ba2 xa ya fc rc bc fc2 rc2 bc2 xc yc :=
  ⟨h.b1.keep (hb.block _ h.b1.lt), h.b2.keep (hb.block _ h.b2.lt), TR.go hb h.t1, TR.go hb h.t2, Ints.go hb h.i1, Ints.go hb h.i2⟩
set_option maxRecDepth 100000 in
set_option maxHeartbeats 12800000 in
theorem runs_any {w : World} {T : Th} {F : List Int} {fa ra ba xa : Option Addr} {fc rc bc xc : Nat} (h : TA w.heap.size w T fa fc ra rc ba bc) (hS : Sml T) (hF : Ints w.heap.size w F (.slice xa F.length xc)) (hz : F.length ≤ 17592186043904) :
    Calls Tryz.prog 3 #[tv T fa fc ra rc ba bc, .slice xa F.length xc] w fun e w' => e = .returned (.bool true) ∧ Below w.heap.size w w' := by
  have hB := below_new w (.cells #[.int .i64 T.lits, .slice fa T.foes.length fc, .slice ra T.rules.length rc, .slice ba T.beats.length bc] 25)
  have hX := heap_alloc_new w (.cells #[.int .i64 T.lits, .slice fa T.foes.length fc, .slice ra T.rules.length rc, .slice ba T.beats.length bc] 25)
  have HTA := hide (TR.go hB h)
  have HF := hide (Ints.go hB hF)
  have HB := hide hB
  have HX := hide hX
  have HS := hide hS
  have HZ := hide hz
  clear h hB hF hS hz
  go_enter Tryz.func3, Tryz.ntmps3
  go_upto_region 1 with fail
  generalize w.alloc (.cells #[.int .i64 T.lits, .slice fa T.foes.length fc, .slice ra T.rules.length rc, .slice ba T.beats.length bc] 25) = W at *
  obtain ⟨-, c0, c1, c2, c3⟩ := Bt.of hX
  clear hX
  have CT := hide (copyTheory_any HTA.out HS.out)
  go_wp2_with fail
  refine CT.out.mono ?_
  rintro _ w1 ⟨fa2, fc2, ra2, rc2, ba2, bc2, xs, ys, Z, rfl, htw, hw1⟩
  have HT1 := hide (tow_ta htw HS.out)
  have HW1 := hide hw1
  have CI := hide (copyInts_any (Ints.go hw1 HF.out) (Nat.le_refl _) HZ.out)
  clear htw hw1 c0 c1 c2 c3 CT
  go_wp2_with fail
  refine CI.out.mono ?_
  rintro _ w2 ⟨v, rfl, hv, hw2⟩
  obtain ⟨ya, yc, rfl⟩ := owns_slice hv
  have HI2 := hide (own_ints hv HZ.out)
  have HT2 := hide (TR.go hw2 HT1.out)
  have HW2 := hide (HW1.out.trans (hw2.mono HW1.out.size))
  clear hv hw2 CI HT1 HW1
  go_upto_region 2 with fail
  have hA := below_new w2 (.cells #[.int .i64 T.lits, .slice fa2 T.foes.length fc2, .slice ra2 T.rules.length rc2, .slice ba2 T.beats.length bc2] 25)
  have HK : Hid (Kp (w2.alloc (.cells #[.int .i64 T.lits, .slice fa2 T.foes.length fc2, .slice ra2 T.rules.length rc2, .slice ba2 T.beats.length bc2] 25)) w2.heap.size w.heap.size T F fa ra ba fa2 ra2 ba2 xa ya fc rc bc fc2 rc2 bc2 xc yc) := hide ⟨(hA.block _ (loc_lt ((HW2.out.block _ (loc_lt HX.out)).trans HX.out))).trans ((HW2.out.block _ (loc_lt HX.out)).trans HX.out), heap_alloc_new w2 (.cells #[.int .i64 T.lits, .slice fa2 T.foes.length fc2, .slice ra2 T.rules.length rc2, .slice ba2 T.beats.length bc2] 25), TR.go hA (TR.go HW2.out HTA.out), TR.go hA HT2.out, Ints.go hA (Ints.go HW2.out HF.out), Ints.go hA HI2.out⟩
  have HB3 := hide (HB.out.trans ((HW2.out.trans (hA.mono HW2.out.size)).mono HB.out.size))
  clear HI2 HT2 HW2 HTA HF HB HX HS HZ hA
  generalize w2.alloc (.cells #[.int .i64 T.lits, .slice fa2 T.foes.length fc2, .slice ra2 T.rules.length rc2, .slice ba2 T.beats.length bc2] 25) = W3 at *
  have hflen := HK.out.i1.lim
  by_cases hf : faultM T F = 0
  · obtain ⟨n, hn⟩ : ∃ n, T.lits.toNat = n := ⟨_, rfl⟩
    have HP := hide (pf_of hf)
    have HFZ := hide hf
    rw [hn] at HP
    have hn4 := HP.out.n4
    have HNN := hide hn
    clear hf hn
    have C1 := hide (Run_ok HK.out.t2 HK.out.i2 HFZ.out)
    rw [HNN.out] at C1
    obtain ⟨-, c0, c1, c2, c3⟩ := Bt.of HK.out.b2
    go_upto_region 3 with (go_at_call 8; refine C1.out.mono ?_; rintro _ w4 ⟨v, m, i, rfl, hs, hown, hw4⟩; have HSo := hide hs; have HO := hide hown; have HW4 := hide hw4; clear hs hown hw4)
    obtain ⟨va, vc, rfl⟩ := owns_slice HO.out
    have HK4 := hide (HK.out.go HW4.out)
    have HB4 := hide (HB3.out.trans (HW4.out.mono HB3.out.size))
    have HA4 := hide (owns_at1 HO.out)
    have HML : Hid (m.length = n) := hide (sol_len HP.out HSo.out)
    clear c0 c1 c2 c3 C1 HK HB3 HO HW4
    have C2 := hide (Counted_ok (P := fun _ => True) HK4.out.t2 HK4.out.i2 HFZ.out trivial fun _ _ _ _ => trivial)
    rw [HNN.out] at C2
    obtain ⟨-, c0, c1, c2, c3⟩ := Bt.of HK4.out.b2
    go_wp2_with fail
    refine C2.out.mono ?_
    rintro _ w5 ⟨v5, m5, i5, es, rfl, hs5, hown5, hal, htok, -, hw5⟩
    obtain rfl := sol_one HSo.out hs5
    obtain ⟨vb, vd, rfl⟩ := owns_slice hown5
    have hct := told_len HP.out HSo.out hal.1 hal.2 htok
    rw [hct]
    obtain ⟨kn, hkn⟩ : ∃ k, cntF m n = k := ⟨_, rfl⟩
    have HKN := hide hkn
    rw [hkn]
    have hA := below_new w5 (.cells #[.int .i64 (kn : Nat), .int .i64 es.up] 34)
    have hcx := heap_alloc_new w5 (.cells #[.int .i64 (kn : Nat), .int .i64 es.up] 34)
    have hw6 := hw5.trans (hA.mono hw5.size)
    have HCX := hide hcx
    have HK6 := hide (HK4.out.go hw6)
    have HB6 := hide (HB4.out.trans (hw6.mono HB4.out.size))
    have HA6 := hide (HA4.out.below hw6)
    have HA7 := hide ((owns_at1 hown5).below hA)
    clear c0 c1 c2 c3 C2 HK4 HB4 HA4 hct hkn hal htok hs5 hown5 hw5 hA hw6 hcx
    go_upto_region 4 with fail
    generalize w5.alloc (.cells #[.int .i64 (kn : Nat), .int .i64 es.up] 34) = W6 at *
    have C3 := hide (Rf.rRun_ok HFZ.out HK6.out.t1 HK6.out.i1)
    rw [HNN.out] at C3
    obtain ⟨-, c0, c1, c2, c3⟩ := Bt.of HK6.out.b1
    go_upto_region 5 with (go_at_call 10; refine C3.out.mono ?_; rintro _ w7 ⟨vm, m7, i7, rfl, hm7, hw7⟩; have HM7 := hide hm7; have HW7 := hide hw7; clear hm7 hw7)
    have heq := sol_one HSo.out HM7.out.1
    have HAM : Hid (At1 w7 vm (u8s m)) := hide (by rw [heq]; exact HM7.out.2.2)
    have HAA := hide (HA6.out.below HW7.out)
    have HAB := hide (HA7.out.below HW7.out)
    have HK7 := hide (HK6.out.go HW7.out)
    have HB7 := hide (HB6.out.trans (HW7.out.mono HB6.out.size))
    have hcx : Fx w5.heap.size 34 [.int .i64 (kn : Nat), .int .i64 es.up] w7 := Fx.keep (w := W6) HCX.out (HW7.out.block _ (loc_lt HCX.out))
    have d0 := hcx.get (i := 0) rfl
    clear c0 c1 c2 c3 C3 HK6 HB6 HA6 HA7 HM7 heq HW7 HCX hcx
    have CN := hide fun d : Nat => num_still (w7.drewN d) 0
    have CS : Hid (∀ (d : Nat) (z : Value), (z = .slice va n vc ∨ z = .slice vb n vd) → Calls Tryz.prog 12 #[z, .slice vm n n] (w7.drewN d) fun e w' => e = .returned (.bool true) ∧ ∃ q, w' = (w7.drewN d).drewN q) := hide fun d z hz => by
      have h0 := below_drewN w7 d
      rcases hz with rfl | rfl
      · have hc := Rf.sameM_any (c := vc) (d := n) (HAA.out.below h0) (HAM.out.below h0) (by rw [HML.out]; exact hn4) rfl
        rw [decide_eq_true rfl, HML.out] at hc
        exact hc
      · have hc := Rf.sameM_any (c := vd) (d := n) (HAB.out.below h0) (HAM.out.below h0) (by rw [HML.out]; exact hn4) rfl
        rw [decide_eq_true rfl, HML.out] at hc
        exact hc
    have CT : Hid (∀ d : Nat, Calls Tryz.prog 13 #[.slice vm n n] (w7.drewN d) fun e w' => e = .returned (.int .i64 (kn : Nat)) ∧ w' = w7.drewN d) := hide fun d => by
      have hc := Rf.rtotal_any (mc := n) (HAM.out.below (below_drewN w7 d)) HML.out hn4
      rw [HKN.out] at hc
      exact hc
    have hkk : ((kn : Int) != (kn : Int)) = false := by simp
    clear HAM HAA HAB HP HFZ HNN HSo HML HKN
    go_quiet (first
      | (go_at_call 11; exact Calls.quiet_of_same (CN.out _))
      | (go_at_call 13; exact Calls.quiet_of_same (CT.out _))
      | (go_at_call 12; exact Calls.quiet_of (CS.out _ _ (by first | exact .inl rfl | exact .inr rfl))))
    have HK8 := hide (HK7.out.go (below_drewN w7 nq))
    have HB8 := hide (HB7.out.trans ((below_drewN w7 nq).mono HB7.out.size))
    clear d0 CN CS CT HK7 HB7
    generalize w7.drewN nq = W8 at *
    obtain ⟨-, c0, c1, c2, c3⟩ := Bt.of HK8.out.b1
    obtain ⟨-, e0, e1, e2, e3⟩ := Bt.of HK8.out.b2
    go_wp2_with fail
    have C5 := hide (sameTh_yes HK8.out.t2 HK8.out.t1)
    refine C5.out.mono ?_
    rintro _ w9 ⟨rfl, hw9⟩
    have HK9 := hide (HK8.out.go hw9)
    have HB9 := hide (HB8.out.trans (hw9.mono HB8.out.size))
    have C6 := hide (sameInts_yes (c := yc) (d := xc) HK9.out.i2.at1 HK9.out.i1.at1 hflen)
    clear c0 c1 c2 c3 e0 e1 e2 e3 HK8 HB8 C5 hw9
    go_wp2_with fail
    refine C6.out.mono ?_
    rintro _ w10 ⟨rfl, hw10⟩
    have HB10 := hide (HB9.out.trans (hw10.mono HB9.out.size))
    have C7 := hide (works_any (w := w10))
    clear C6 HK9 HB9 hw10
    go_wp2_with fail
    refine C7.out.mono ?_
    rintro _ w11 ⟨rfl, hw11⟩
    have HB11 := hide (HB10.out.trans (hw11.mono HB10.out.size))
    clear C7 hw11
    go_wp2_with fail
    go_ret
    exact ⟨rfl, HB11.out⟩
  · have HFZ := hide hf
    have C1 := hide (Run_bad HK.out.t2 HK.out.i2 HFZ.out)
    obtain ⟨z, hz⟩ : ∃ z, faultM T F = z := ⟨_, rfl⟩
    have HZV := hide hz
    rw [hz] at C1
    have hzb : (z != 0) = true := by rw [← hz]; simpa using hf
    have hzz : (z != z) = false := by simp
    clear hf hz
    obtain ⟨-, c0, c1, c2, c3⟩ := Bt.of HK.out.b2
    go_upto_region 3 with (go_at_call 8; refine C1.out.mono ?_; rintro _ w4 ⟨rfl, hw4⟩; have HW4 := hide hw4; clear hw4)
    have HK4 := hide (HK.out.go HW4.out)
    have HB4 := hide (HB3.out.trans (HW4.out.mono HB3.out.size))
    clear c0 c1 c2 c3 C1 HK HB3 HW4
    have C2 := hide (Counted_bad HK4.out.t2 HK4.out.i2 HFZ.out)
    rw [HZV.out] at C2
    obtain ⟨-, c0, c1, c2, c3⟩ := Bt.of HK4.out.b2
    go_wp2_with fail
    refine C2.out.mono ?_
    rintro _ w5 ⟨rfl, hw5⟩
    have hA := below_new w5 (.cells #[.int .i64 0, .int .i64 0] 34)
    have HCX := hide (heap_alloc_new w5 (.cells #[.int .i64 0, .int .i64 0] 34))
    have hw6 := hw5.trans (hA.mono hw5.size)
    have HK6 := hide (HK4.out.go hw6)
    have HB6 := hide (HB4.out.trans (hw6.mono HB4.out.size))
    clear c0 c1 c2 c3 C2 HK4 HB4 hw5 hA hw6
    go_upto_region 4 with fail
    generalize w5.alloc (.cells #[.int .i64 0, .int .i64 0] 34) = W6 at *
    have C3 := hide (Rf.rRun_bad HFZ.out HK6.out.t1 HK6.out.i1)
    rw [HZV.out] at C3
    obtain ⟨-, c0, c1, c2, c3⟩ := Bt.of HK6.out.b1
    go_upto_region 5 with (go_at_call 10; refine C3.out.mono ?_; rintro _ w7 ⟨rfl, hw7⟩; have HW7 := hide hw7; clear hw7)
    have HB7 := hide (HB6.out.trans (HW7.out.mono HB6.out.size))
    have hcx : Fx w5.heap.size 34 [.int .i64 0, .int .i64 0] w7 := Fx.keep (w := W6) HCX.out (HW7.out.block _ (loc_lt HCX.out))
    have d0 := hcx.get (i := 0) rfl
    have HD := hide hcx
    clear c0 c1 c2 c3 C3 HK6 HB6 HW7 HCX hcx
    have CN := hide fun d : Nat => num_still (w7.drewN d) z
    have CS : Hid (∀ (d : Nat), Calls Tryz.prog 12 #[.slice none 0 0, .slice none 0 0] (w7.drewN d) fun e w' => e = .returned (.bool true) ∧ ∃ q, w' = (w7.drewN d).drewN q) := hide fun d => by
      have hc := Rf.sameM_any (w := w7.drewN d) (l := []) (k := []) (a := none) (b := none) (c := 0) (d := 0) (fun i v hi => by simp [u8s] at hi) (fun i v hi => by simp [u8s] at hi) (by simp) rfl
      rw [decide_eq_true rfl] at hc
      exact hc
    have CT : Hid (∀ d : Nat, Calls Tryz.prog 13 #[.slice none 0 0] (w7.drewN d) fun e w' => e = .returned (.int .i64 0) ∧ w' = w7.drewN d) := hide fun d => Rf.rtotal_any (w := w7.drewN d) (m := []) (n := 0) (ma := none) (mc := 0) (fun i v hi => by simp [u8s] at hi) rfl (by decide)
    go_quiet (first
      | (go_at_call 11; exact Calls.quiet_of_same (CN.out _))
      | (go_at_call 13; exact Calls.quiet_of_same (CT.out _))
      | (go_at_call 12; exact Calls.quiet_of (CS.out _)))
    have HB8 := hide (HB7.out.trans ((below_drewN w7 nq).mono HB7.out.size))
    have d1 := (HD.out.keep (w' := w7.drewN nq) rfl).get (i := 1) rfl
    clear d0 CN CS CT HB7 HD
    generalize w7.drewN nq = W8 at *
    have C7 := hide (works_any (w := W8))
    go_wp2_with fail
    refine C7.out.mono ?_
    rintro _ w9 ⟨rfl, hw9⟩
    have HB9 := hide (HB8.out.trans (hw9.mono HB8.out.size))
    clear C7 hw9
    go_wp2_with fail
    go_ret
    exact ⟨rfl, HB9.out⟩
end Go.Proofs.YtcobmbclhhimjaaGreat.Fa
