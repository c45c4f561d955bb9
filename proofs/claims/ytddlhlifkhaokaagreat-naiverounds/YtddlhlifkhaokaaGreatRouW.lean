/- NaiveRounds, walked. -/
import Derived.Test.YtddlhlifkhaokaaGreatRnz
import Derived.Test.YtddlhlifkhaokaaGreatCpf
import Derived.Test.YtddlhlifkhaokaaGreatSame
namespace Go.Proofs.YtddlhlifkhaokaaGreat.Rf
open Go.RowKit Fa

theorem num_st (w : World) (e : Int) : Calls Tryz.prog 14 #[.int .i64 e] w fun r w' => r = .returned (.int .i64 e) ∧ w' = w := by
  go_enter Tryz.func14, Tryz.ntmps14
  go_wp2_with fail
  go_ret
  exact ⟨rfl, rfl⟩
/-- What stays all the time: the theory, the facts, the marks, and their copies. -/
structure Kq3 (W : World) (own bx : Nat) (T : Th) (F m : List Int) (fa ra ba fa2 ra2 ba2 xa ya ma na : Option Addr) (fc rc bc fc2 rc2 bc2 xc yc : Nat) : Prop where
  b1 : Fx bx 25 [.int .i64 T.lits, .slice fa T.foes.length fc, .slice ra T.rules.length rc, .slice ba T.beats.length bc] W
  b2 : Fx own 25 [.int .i64 T.lits, .slice fa2 T.foes.length fc2, .slice ra2 T.rules.length rc2, .slice ba2 T.beats.length bc2] W
  t1 : TA W.heap.size W T fa fc ra rc ba bc
  t2 : TA W.heap.size W T fa2 fc2 ra2 rc2 ba2 bc2
  i1 : Ints W.heap.size W F (.slice xa F.length xc)
  i2 : Ints W.heap.size W F (.slice ya F.length yc)
  m1 : At1 W ma (u8s m)
  m2 : At1 W na (u8s m)
section
variable {W W' : World} {own bx : Nat} {T : Th} {F m : List Int} {fa ra ba fa2 ra2 ba2 xa ya ma na : Option Addr} {fc rc bc fc2 rc2 bc2 xc yc : Nat}
theorem Kq3.go (h : Kq3 W own bx T F m fa ra ba fa2 ra2 ba2 xa ya ma na fc rc bc fc2 rc2 bc2 xc yc) (hb : Below W.heap.size W W') : Kq3 W' own bx T F m fa ra ba fa2 ra2 ba2 xa ya ma na fc rc bc fc2 rc2 bc2 xc yc :=
  ⟨h.b1.keep (hb.block _ h.b1.lt), h.b2.keep (hb.block _ h.b2.lt), TR.go hb h.t1, TR.go hb h.t2, Ints.go hb h.i1, Ints.go hb h.i2, h.m1.below hb, h.m2.below hb⟩
end
/-- What Solve tells. -/
def SolT (T : Th) (F l : List Int) : Prop := if faultM T F = 0 then ∃ k, Sol T F l k else l = []
theorem solT_one {T : Th} {F l k : List Int} (h : SolT T F l) (h' : SolT T F k) : l = k := by
  unfold SolT at h h'
  by_cases c : faultM T F = 0
  · rw [if_pos c] at h h'
    obtain ⟨a, h⟩ := h
    obtain ⟨b, h'⟩ := h'
    exact sol_one h h'
  · rw [if_neg c] at h h'
    rw [h, h']
theorem solT_len {T : Th} {F l : List Int} (h : SolT T F l) : l.length ≤ 4096 := by
  unfold SolT at h
  by_cases c : faultM T F = 0
  · rw [if_pos c] at h
    obtain ⟨k, h⟩ := h
    have := sol_len (pf_of c) h
    have := (pf_of c).n4
    omega
  · rw [if_neg c] at h
    rw [h]
    simp
section
variable {w : World} {T : Th} {F : List Int} {fa ra ba ea : Option Addr} {fc rc bc ec : Nat}
theorem Solve_one (h : TA w.heap.size w T fa fc ra rc ba bc) (hF : Ints w.heap.size w F (.slice ea F.length ec)) :
    Calls Tryz.prog 11 #[tv T fa fc ra rc ba bc, .slice ea F.length ec] w fun e w' => ∃ va vc l, e = .returned (.tuple #[.slice va l.length vc, .int .i64 (faultM T F)]) ∧ SolT T F l ∧ At1 w' va (u8s l) ∧ Below w.heap.size w w' := by
  by_cases hf : faultM T F = 0
  · refine (Solve_ok h hF hf).mono ?_
    rintro _ w' ⟨v, m, i, rfl, hs, hown, hb⟩
    obtain ⟨va, vc, rfl⟩ := owns_slice hown
    have hl := sol_len (pf_of hf) hs
    refine ⟨va, vc, m, by rw [hl, hf], by unfold SolT; rw [if_pos hf]; exact ⟨i, hs⟩, owns_at1 hown, hb⟩
  · refine (Solve_bad h hF hf).mono ?_
    rintro _ w' ⟨rfl, hb⟩
    exact ⟨none, 0, [], rfl, by unfold SolT; rw [if_neg hf], fun i v hi => (by simp [u8s] at hi), hb⟩
theorem rsolve_one (h : TA w.heap.size w T fa fc ra rc ba bc) (hF : Ints w.heap.size w F (.slice ea F.length ec)) :
    Calls Tryz.prog 12 #[tv T fa fc ra rc ba bc, .slice ea F.length ec] w fun e w' => ∃ va vc l, e = .returned (.tuple #[.slice va l.length vc, .int .i64 (faultM T F)]) ∧ SolT T F l ∧ At1 w' va (u8s l) ∧ Below w.heap.size w w' := by
  by_cases hf : faultM T F = 0
  · refine (rsolve_ok hf h hF).mono ?_
    rintro _ w' ⟨va, m, i, rfl, hs, hb⟩
    refine ⟨va, T.lits.toNat, m, by rw [hs.2.1, hf], by unfold SolT; rw [if_pos hf]; exact ⟨i, hs.1⟩, hs.2.2, hb⟩
  · refine (rsolve_bad hf h hF).mono ?_
    rintro _ w' ⟨rfl, hb⟩
    exact ⟨none, 0, [], rfl, by unfold SolT; rw [if_neg hf], fun i v hi => (by simp [u8s] at hi), hb⟩
end
set_option maxRecDepth 100000 in
set_option maxHeartbeats 12800000 in
theorem rounds_law {w : World} {T : Th} {F m : List Int} {fa ra ba xa ma : Option Addr} {fc rc bc xc mc : Nat} (h : TA w.heap.size w T fa fc ra rc ba bc) (hS : Sml T) (hF : Ints w.heap.size w F (.slice xa F.length xc)) (hz : F.length ≤ 17592186043904) (hm : At1 w ma (u8s m)) (hby : Bys m) (hlim : m.length ≤ 140737488351232) :
    Calls Tryz.prog 3 #[tv T fa fc ra rc ba bc, .slice xa F.length xc, .slice ma m.length mc] w fun e w' => e = .returned (.bool true) ∧ Below w.heap.size w w' := by
  have hB := below_new w (.cells #[.int .i64 T.lits, .slice fa T.foes.length fc, .slice ra T.rules.length rc, .slice ba T.beats.length bc] 25)
  have hX := heap_alloc_new w (.cells #[.int .i64 T.lits, .slice fa T.foes.length fc, .slice ra T.rules.length rc, .slice ba T.beats.length bc] 25)
  have HTA := hide (TR.go hB h)
  have HF := hide (Ints.go hB hF)
  have HM := hide (hm.below hB)
  have HB := hide hB
  have HX := hide hX
  have HS := hide hS
  have HZ := hide hz
  have HBY := hide hby
  have HLM := hide hlim
  clear h hB hF hS hz hm hby
  go_enter Tryz.func3, Tryz.ntmps3
  go_upto_region 1 with fail
  generalize w.alloc (.cells #[.int .i64 T.lits, .slice fa T.foes.length fc, .slice ra T.rules.length rc, .slice ba T.beats.length bc] 25) = W at *
  obtain ⟨-, c0, c1, c2, c3⟩ := Bt.of hX
  clear hX
  have CT := hide (copyTheory_any HTA.out HS.out)
  go_wp2_with fail
  refine CT.out.mono ?_
  rintro _ w1 ⟨fa2, fc2, ra2, rc2, ba2, bc2, xs, ys, Z, rfl, htw, hw1⟩
  have HT1 := hide (tow_ta htw HS.out)
  have HW1 := hide hw1
  have CI := hide (copyInts_any (Ints.go hw1 HF.out) (Nat.le_refl _) HZ.out)
  clear htw hw1 c0 c1 c2 c3 CT
  go_wp2_with fail
  refine CI.out.mono ?_
  rintro _ w2 ⟨v, rfl, hv, hw2⟩
  obtain ⟨ya, yc, rfl⟩ := owns_slice hv
  have HI2 := hide (own_ints hv HZ.out)
  have HT2 := hide (TR.go hw2 HT1.out)
  have HW2 := hide (HW1.out.trans (hw2.mono HW1.out.size))
  have CM := hide (copyM_any (c := mc) (HM.out.below HW2.out) HLM.out)
  clear hv hw2 CI HT1 HW1
  go_wp2_with fail
  refine CM.out.mono ?_
  rintro _ w3 ⟨v, rfl, hv, hw3⟩
  obtain ⟨na, nc, rfl⟩ := owns_slice hv
  have hA := below_new w3 (.cells #[.int .i64 T.lits, .slice fa2 T.foes.length fc2, .slice ra2 T.rules.length rc2, .slice ba2 T.beats.length bc2] 25)
  have HW3 := hide (HW2.out.trans (hw3.mono HW2.out.size))
  have HK : Hid (Kq3 (w3.alloc (.cells #[.int .i64 T.lits, .slice fa2 T.foes.length fc2, .slice ra2 T.rules.length rc2, .slice ba2 T.beats.length bc2] 25)) w3.heap.size w.heap.size T F m fa ra ba fa2 ra2 ba2 xa ya ma na fc rc bc fc2 rc2 bc2 xc yc) := hide ⟨(hA.block _ (loc_lt ((HW3.out.block _ (loc_lt HX.out)).trans HX.out))).trans ((HW3.out.block _ (loc_lt HX.out)).trans HX.out), heap_alloc_new w3 (.cells #[.int .i64 T.lits, .slice fa2 T.foes.length fc2, .slice ra2 T.rules.length rc2, .slice ba2 T.beats.length bc2] 25), TR.go hA (TR.go HW3.out HTA.out), TR.go hA (TR.go hw3 HT2.out), Ints.go hA (Ints.go HW3.out HF.out), Ints.go hA (Ints.go hw3 HI2.out), (HM.out.below HW3.out).below hA, (owns_at1 hv).below hA⟩
  have HB4 := hide (HB.out.trans ((HW3.out.trans (hA.mono HW3.out.size)).mono HB.out.size))
  clear hv hw3 CM HI2 HT2 HW2 HW3 HTA HF HM HB HX HS HZ hA
  go_upto_region 2 with fail
  generalize w3.alloc (.cells #[.int .i64 T.lits, .slice fa2 T.foes.length fc2, .slice ra2 T.rules.length rc2, .slice ba2 T.beats.length bc2] 25) = W4 at *
  have hflen := HK.out.i1.lim
  obtain ⟨rl, hrl⟩ : ∃ l, (if mfM T F m = 0 then roundM T F m else []) = l := ⟨_, rfl⟩
  obtain ⟨re, hre⟩ : ∃ c, mfM T F m = c := ⟨_, rfl⟩
  have hrlen : rl.length ≤ 140737488351232 := by
    rw [← hrl]
    by_cases c : mfM T F m = 0
    · rw [if_pos c, round_len]; exact hlim
    · rw [if_neg c]; simp
  have C1 := hide (Round_any (mc := nc) HK.out.t2 HK.out.i2 HK.out.m2)
  rw [hrl, hre] at C1
  obtain ⟨-, c0, c1, c2, c3⟩ := Bt.of HK.out.b2
  go_upto_region 3 with (go_at_call 7; refine C1.out.mono ?_; rintro _ w5 ⟨v, rfl, hown, hw5⟩; have HO := hide hown; have HW5 := hide hw5; clear hown hw5)
  obtain ⟨va, vc, rfl⟩ := owns_slice HO.out
  have HA5 := hide (owns_at1 HO.out)
  have HK5 := hide (HK.out.go HW5.out)
  have HB5 := hide (HB4.out.trans (HW5.out.mono HB4.out.size))
  clear c0 c1 c2 c3 C1 HO HK HB4 HW5
  have C2 := hide (rRound_any (mc := mc) HK5.out.t1 HK5.out.i1 HK5.out.m1 HBY.out)
  rw [hrl, hre] at C2
  clear hrl hre
  obtain ⟨-, c0, c1, c2, c3⟩ := Bt.of HK5.out.b1
  go_upto_region 4 with (go_at_call 8; refine C2.out.mono ?_; rintro _ w6 ⟨vb, vd, rfl, hat, hw6⟩; have HA6 := hide hat; have HA6a := hide (HA5.out.below hw6); have HK6 := hide (HK5.out.go hw6); have HB6 := hide (HB5.out.trans (hw6.mono HB5.out.size)); clear hat hw6)
  clear c0 c1 c2 c3 C2 HA5 HK5 HB5 HBY
  obtain ⟨fe, hfe⟩ : ∃ c, faultM T F = c := ⟨_, rfl⟩
  have C3 := hide (Rounds_any HK6.out.t2 HK6.out.i2)
  rw [hfe] at C3
  obtain ⟨-, c0, c1, c2, c3⟩ := Bt.of HK6.out.b2
  go_upto_region 5 with (go_at_call 9; refine C3.out.mono ?_; rintro _ w7 ⟨k1, rfl, hr1, hw7⟩; have HR1 := hide hr1; have HA7 := hide (HA6.out.below hw7); have HA7a := hide (HA6a.out.below hw7); have HK7 := hide (HK6.out.go hw7); have HB7 := hide (HB6.out.trans (hw7.mono HB6.out.size)); clear hr1 hw7)
  clear c0 c1 c2 c3 C3 HA6 HA6a HK6 HB6
  have C4 := hide (rRounds_any HK7.out.t1 HK7.out.i1)
  rw [hfe] at C4
  obtain ⟨-, c0, c1, c2, c3⟩ := Bt.of HK7.out.b1
  go_upto_region 6 with (go_at_call 10; refine C4.out.mono ?_; rintro _ w8 ⟨k2, rfl, hr2, hw8⟩; obtain rfl := rds_one HR1.out hr2; have HA8 := hide (HA7.out.below hw8); have HA8a := hide (HA7a.out.below hw8); have HK8 := hide (HK7.out.go hw8); have HB8 := hide (HB7.out.trans (hw8.mono HB7.out.size)); clear hr2 hw8)
  clear c0 c1 c2 c3 C4 HA7 HA7a HK7 HB7 HR1
  have C5 := hide (Solve_one HK8.out.t2 HK8.out.i2)
  rw [hfe] at C5
  obtain ⟨-, c0, c1, c2, c3⟩ := Bt.of HK8.out.b2
  go_upto_region 7 with (go_at_call 11; refine C5.out.mono ?_; rintro _ w9 ⟨sa, sc, sl, rfl, hs1, hat, hw9⟩; have HS1 := hide hs1; have HAS := hide hat; have HA9 := hide (HA8.out.below hw9); have HA9a := hide (HA8a.out.below hw9); have HK9 := hide (HK8.out.go hw9); have HB9 := hide (HB8.out.trans (hw9.mono HB8.out.size)); clear hs1 hat hw9)
  clear c0 c1 c2 c3 C5 HA8 HA8a HK8 HB8
  have C6 := hide (rsolve_one HK9.out.t1 HK9.out.i1)
  rw [hfe] at C6
  clear hfe
  obtain ⟨-, c0, c1, c2, c3⟩ := Bt.of HK9.out.b1
  go_upto_region 8 with (go_at_call 12; refine C6.out.mono ?_; rintro _ x0 ⟨ta, tc, tl, rfl, hs2, hat, hw⟩; obtain rfl := solT_one HS1.out hs2; have HAT := hide hat; have HASx := hide (HAS.out.below hw); have HAx := hide (HA9.out.below hw); have HAxa := hide (HA9a.out.below hw); have HKx := hide (HK9.out.go hw); have HBx := hide (HB9.out.trans (hw.mono HB9.out.size)); clear hs2 hat hw)
  have hsl := solT_len HS1.out
  clear c0 c1 c2 c3 C6 HAS HA9 HA9a HK9 HB9 HS1
  have S1 := hide (sameM_yes (c := vc) (d := vd) HAxa.out HAx.out hrlen)
  go_wp2_with fail
  refine S1.out.mono ?_
  rintro _ x1 ⟨rfl, hb⟩
  have HK1 := hide (HKx.out.go hb)
  have HB1 := hide (HBx.out.trans (hb.mono HBx.out.size))
  have HT1 := hide (HAT.out.below hb)
  have HU1 := hide (HASx.out.below hb)
  clear hb S1 HKx HBx HAT HASx HAx HAxa
  have N1 := hide fun (X : World) => num_st X re
  have N2 := hide fun (X : World) => num_st X fe
  have hk1 : ((k1 : Int) == (k1 : Int)) = true := by simp
  have hre1 : (re == re) = true := by simp
  have hfe1 : (fe == fe) = true := by simp
  go_wp2_with fail
  refine (N1.out _).mono ?_
  rintro _ x2 ⟨rfl, hw⟩
  subst x2
  go_wp2_with fail
  refine (N2.out _).mono ?_
  rintro _ x2 ⟨rfl, hw⟩
  subst x2
  have S2 := hide (sameM_yes (c := sc) (d := tc) HU1.out HT1.out (by omega))
  go_wp2_with fail
  refine S2.out.mono ?_
  rintro _ x2 ⟨rfl, hb⟩
  have HK2 := hide (HK1.out.go hb)
  have HB2 := hide (HB1.out.trans (hb.mono HB1.out.size))
  clear hb S2 HK1 HB1 HT1 HU1
  obtain ⟨-, c0, c1, c2, c3⟩ := Bt.of HK2.out.b1
  obtain ⟨-, e0, e1, e2, e3⟩ := Bt.of HK2.out.b2
  go_wp2_with fail
  refine (N2.out _).mono ?_
  rintro _ x3 ⟨rfl, hw⟩
  subst x3
  have S3 := hide (sameTh_yes HK2.out.t2 HK2.out.t1)
  go_wp2_with fail
  refine S3.out.mono ?_
  rintro _ x3 ⟨rfl, hb⟩
  have HK3 := hide (HK2.out.go hb)
  have HB3 := hide (HB2.out.trans (hb.mono HB2.out.size))
  clear hb S3 HK2 HB2 c0 c1 c2 c3 e0 e1 e2 e3
  have S4 := hide (sameInts_yes (c := yc) (d := xc) HK3.out.i2.at1 HK3.out.i1.at1 hflen)
  go_wp2_with fail
  refine S4.out.mono ?_
  rintro _ x4 ⟨rfl, hb⟩
  have HK4 := hide (HK3.out.go hb)
  have HB4 := hide (HB3.out.trans (hb.mono HB3.out.size))
  clear hb S4 HK3 HB3
  have S5 := hide (sameM_yes (c := nc) (d := mc) HK4.out.m2 HK4.out.m1 HLM.out)
  go_wp2_with fail
  refine S5.out.mono ?_
  rintro _ x5 ⟨rfl, hb⟩
  have HB5 := hide (HB4.out.trans (hb.mono HB4.out.size))
  have CA := hide (alive_any (w := x5))
  clear hb S5 HK4 HB4
  go_wp2_with fail
  refine CA.out.mono ?_
  rintro _ x6 ⟨rfl, hb⟩
  have HB6 := hide (HB5.out.trans (hb.mono HB5.out.size))
  clear hb CA
  go_wp2_with fail
  go_ret
  exact ⟨rfl, HB6.out⟩
end Go.Proofs.YtddlhlifkhaokaaGreat.Rf
