import Derived.Test.YtmlhcncagdfjfaaGreatFlt
set_option maxRecDepth 100000
set_option maxHeartbeats 6400000
namespace Go.Proofs.YtmlhcncagdfjfaaGreat
open Go.RowKit
def eS (b : Bool) : Nat := if b then 1 else 0
def dg (m : List Int) (q : Nat) : Nat := eS (hs m q 1) + eS (hs m q 2) + eS (hs m q 3) + eS (hs m q 4)
def ct (m : List Int) : Nat → Nat
 | 0 => 0
 | k + 1 => ct m k + dg m k
theorem fS (b : Bool) : eS b ≤ 1 := by cases b <;> simp [eS]
theorem bB {a b : Bool} (h : a = true → b = true) : eS a ≤ eS b := by cases a <;> cases b <;> simp_all [eS]
theorem oh {m : List Int} {q : Nat} : dg m q ≤ 4 := by
 unfold dg
 have := fS (hs m q 1)
 have := fS (hs m q 2)
 have := fS (hs m q 3)
 have := fS (hs m q 4)
 omega
theorem lz {m : List Int} : ∀ {k : Nat}, ct m k ≤ 4 * k
 | 0 => by simp [ct]
 | k + 1 => by
  have := lz (m := m) (k := k)
  have := oh (m := m) (q := k)
  unfold ct
  omega
theorem gH {m m' : List Int} (h : Le m m') {q : Nat} : dg m q ≤ dg m' q := by
 unfold dg
 have h1 := bB (h q 1 (by omega) tag1)
 have h2 := bB (h q 2 (by omega) tag2)
 have h3 := bB (h q 3 (by omega) tag3)
 have h4 := bB (h q 4 (by omega) tag4)
 omega
theorem gJ {m m' : List Int} (h : Le m m') : ∀ {k : Nat}, ct m k ≤ ct m' k
 | 0 => Nat.le_refl _
 | k + 1 => by
  have := gJ h (k := k)
  have := gH h (q := k)
  unfold ct
  omega
theorem jn {m m' : List Int} (h : Le m m') {q : Nat} (hq : dg m q < dg m' q) : ∀ {k : Nat}, q < k → ct m k < ct m' k
 | 0, hk => by omega
 | k + 1, hk => by
  have h1 := gH h (q := k)
  unfold ct
  by_cases e : q = k
  ·subst e
   have := gJ h (k := q)
   omega
  have := jn h hq (k := k) (by omega)
  omega
theorem qt {a b : Bool} (h1 : a = false) (h2 : b = true) : eS a < eS b := by rw [h1, h2]; decide
theorem oN {m m' : List Int} (h : Le m m') {q : Nat} {t : Int} (ht : aw t) (h1 : hs m q t = false) (h2 : hs m' q t = true) : dg m q < dg m' q := by
 unfold dg
 have g1 := bB (h q 1 (by omega) tag1)
 have g2 := bB (h q 2 (by omega) tag2)
 have g3 := bB (h q 3 (by omega) tag3)
 have g4 := bB (h q 4 (by omega) tag4)
 have g5 := qt h1 h2
 rcases ht with rfl | rfl | rfl | rfl <;> omega
theorem kP {T : Th} {F m : List Int} (h : ∀ (q : Nat) (t : Int), q < m.length → aw t → (!hs m q t && cH T F m t q) = false) : aO T F m = m := by
 apply List.ext_getElem?
 intro q
 by_cases hq : q < m.length
 ·unfold aO
  rw [List.getElem?_map, List.getElem?_range hq, List.getElem?_eq_getElem hq]
  have e : m.getD q 0 = m[q] := by rw [List.getD_eq_getElem?_getD, List.getElem?_eq_getElem hq]; rfl
  show some (dF T F m q 4 (dF T F m q 3 (dF T F m q 2 (dF T F m q 1 (m.getD q 0))))) = _
  have a : ∀ (t x : Int), aw t → dF T F m q t x = x := fun t x ht => by unfold dF; rw [h q t hq ht]; rfl
  rw [a 1 _ tag1, a 2 _ tag2, a 3 _ tag3, a 4 _ tag4, e]
 rw [List.getElem?_eq_none (by rw [cV]; omega), List.getElem?_eq_none (by omega)]
theorem nM {T : Th} {F m : List Int} (hb : pt m) (hne : aO T F m ≠ m) : ct m m.length < ct (aO T F m) m.length := by
 apply Classical.byContradiction
 intro hn
 apply hne
 refine kP fun q t hq ht => ?_
 cases e : (!hs m q t && cH T F m t q) with
 | false => rfl
 | true =>
  exfalso
  simp only [Bool.and_eq_true, Bool.not_eq_true'] at e
  refine hn (jn (iJ hb) (oN (iJ hb) ht e.1 ?_) hq)
  rw [ix hb (by omega) (by omega) ht, e.2]
  simp
theorem ut {w : World} {T : Th} {F : List Int} {n : Nat} {fa ra ba ea : Option Addr} {fc rc bc ec : Nat} (h : TA w.heap.size w T fa fc ra rc ba bc) (hF : Ints w.heap.size w F (.slice ea F.length ec)) (hp : Pf T F n) :
    Calls Tryz.prog 60 #[tv T fa fc ra rc ba bc, .slice ea F.length ec] w fun e w' => ∃ v m i, e = .returned (.tuple #[v, .int .i64 (i : Nat)]) ∧ pA T F m i ∧ w'.ownsRow w.heap.size 67 1 v n (dJ m) ∧ Below w.heap.size w w' := by
 obtain ⟨iI, AI, AH, AF, AC⟩ := info_parts tY
 have AO := hp.n4
 have Ak := hide hp.ln
 have HP := hide hp
 have AG := fun W => aH (P := Tryz.prog) Tryz.underlying64 AI AH AF rfl n (by rw [AC]; omega) (by unfold maxLen; omega) W
 have hB := ae w (.cells #[.int .i64 T.lits, .slice fa T.foes.length fc, .slice ra T.rules.length rc, .slice ba T.beats.length bc] 25)
 have hX := heap_alloc_new w (.cells #[.int .i64 T.lits, .slice fa T.foes.length fc, .slice ra T.rules.length rc, .slice ba T.beats.length bc] 25)
 have Ao := hide (TR.go hB h)
 have HF := hide (Ints.go hB hF)
 have HB := hide hB
 clear h hB hF hp
 rw [show tv T fa fc ra rc ba bc = .agg #[.int .i64 n, .slice fa T.foes.length fc, .slice ra T.rules.length rc, .slice ba T.beats.length bc] from by rw [← Ak.out]]
 rw [Ak.out] at hX HB Ao HF
 go_enter Tryz.func60, Tryz.ntmps60
 go_upto_region 1 with fail
 generalize w.alloc (.cells #[.int .i64 n, .slice fa T.foes.length fc, .slice ra T.rules.length rc, .slice ba T.beats.length bc] 25) = W at *
 obtain ⟨-, c0, c1, c2, c3⟩ := Bt.of hX
 clear hX
 have HT : S4 W ⟨w.heap.size, 0, none⟩ ⟨w.heap.size, 1, none⟩ ⟨w.heap.size, 2, none⟩ ⟨w.heap.size, 3, none⟩ (.int .i64 n) (.slice fa T.foes.length fc) (.slice ra T.rules.length rc) (.slice ba T.beats.length bc) W := ⟨c0, c1, c2, c3, Below.refl _ _⟩
 have CN : Hid (∀ X, Below W.heap.size W X → Calls Tryz.prog 98 #[.agg #[.int .i64 n, .slice fa T.foes.length fc, .slice ra T.rules.length rc, .slice ba T.beats.length bc], .slice ea F.length ec, .slice (some ⟨W.heap.size, 0, none⟩) n n] X fun e w' => ∃ K A, e = .returned (aa K) ∧ Hid (Kq K A T F n (.slice (some ⟨W.heap.size, 0, none⟩) n n) w') ∧ Hid (∀ w2, Below X.heap.size X w2 → TA w2.heap.size w2 T A.fa A.fc A.ra A.rc A.ba A.bc) ∧ Hid (X.heap.size ≤ K) ∧ Below X.heap.size X w') := hide fun X hX => by
  have := qB (ma := some ⟨W.heap.size, 0, none⟩) (mc := n) (TR.go hX Ao.out) (Ints.go hX HF.out) HP.out
  rw [show tv T fa fc ra rc ba bc = .agg #[.int .i64 n, .slice fa T.foes.length fc, .slice ra T.rules.length rc, .slice ba T.beats.length bc] from by rw [← Ak.out]] at this
  refine this.mono ?_
  rintro e w' ⟨K, A, h1, h2, h3, h4, h5⟩
  exact ⟨K, A, h1, hide h2, hide h3, hide h4, h5⟩
 go_region_held3 (fun X : World => S4 W ⟨w.heap.size, 0, none⟩ ⟨w.heap.size, 1, none⟩ ⟨w.heap.size, 2, none⟩ ⟨w.heap.size, 3, none⟩ (.int .i64 n) (.slice fa T.foes.length fc) (.slice ra T.rules.length rc) (.slice ba T.beats.length bc) X) (first | exact S4.drew ‹_› | assumption | exact S4.below ‹_› (ae _ _) | exact S4.below ‹_› ‹_›) (first | (go_at_call 98; refine (CN.out _ (S4.b ‹_›)).mono ?_; rintro e w' ⟨K, A, rfl, Ad, Ae, Ay, hb⟩; have Aw := hide ((hb.block W.heap.size (by simp)).trans (heap_alloc_new W.drew _)); have AD := hide ((S4.b ‹_›).trans (hb.mono (S4.b ‹_›).size))))
 rename_i hS5
 obtain ⟨X, Aa⟩ : ∃ X, Hid (Below w.heap.size w X ∧ (∀ w2, Below X.heap.size X w2 → TA w2.heap.size w2 T A.fa A.fc A.ra A.rc A.ba A.bc) ∧ X.heap.size ≤ K ∧ Below X.heap.size X w') := ⟨W.drew.alloc _, hide ⟨HB.out.trans (((Below.refl W.heap.size W).drew.trans (ae W.drew _)).mono HB.out.size), Ae.out, Ay.out, hb⟩⟩
 have Ab : Hid (w'.ownsRow w.heap.size 67 1 (.slice (some ⟨W.heap.size, 0, none⟩) n n) n (dJ (List.replicate n 0))) := hide ⟨by rw [cY, List.length_replicate, Nat.mul_one], .inr ⟨W.heap.size, n, _, rfl, HB.out.size, Aw.out, Nat.le_refl _, by unfold maxLen; omega, by simp, by unfold dJ; simp⟩⟩
 have At : Hid (Below X.heap.size X w') := hide Aa.out.2.2.2
 clear HT CN AG c0 c1 c2 c3 hb hS5 Ao HF Aw AD Ay Ae
 generalize w' = w1 at *
 go_upto_region 3 with fail
 go_loopw [7] (fun x wr => ∃ (i : Nat) (m : List Int) (ma : Option Addr) (mc : Nat), i ≤ 4 * n ∧ x = .int .i64 i ∧ Hid (m = Mk T F i ∧ i ≤ ct m n) ∧ Hid (Kq K A T F n (.slice ma n mc) wr) ∧ Hid (wr.ownsRow w.heap.size 67 1 (.slice ma n mc) n (dJ m)) ∧ Hid (Below X.heap.size X wr) ∧ Hid (TA wr.heap.size wr T A.fa A.fc A.ra A.rc A.ba A.bc)) (fun x _ => 4 * n + 1 - (intOf x).toNat)
 case atStart => exact ⟨0, _, _, _, by omega, rfl, hide ⟨by unfold Mk gW; rw [HP.out.ln, Int.toNat_natCast], by omega⟩, Ad, Ab, At, hide (Aa.out.2.1 w1 At.out)⟩
 clear Ad Ab At
 obtain ⟨i, m, ma, mc, hi, rfl, HM, Ad, Ab, Aj, Ae⟩ := hrel
 have Ag : m.length = n := by rw [HM.out.1]; exact ny HP.out
 have Ax := Ad.out.kn HP.out Ae.out Ag (dW Ab.out)
 have CR := hide (tJ Ax)
 have AJ : Hid (aO T F m = Mk T F (i + 1)) := hide (by rw [lH, HM.out.1])
 have Ap : Hid ((aO T F m).length = n) := hide (by rw [cV]; exact Ag)
 clear Ax
 go_upto_region 5 with (go_at_call 99; refine CR.out.mono ?_; rintro _ w2 ⟨v, rfl, Al, Au⟩; have HV := hide (aI Al (Nat.le_trans Aa.out.1.size Aj.out.size)); have Ah := hide Au; clear Al Au)
 obtain ⟨va, vc, rfl⟩ := bf HV.out
 have Af := hide (Ad.out.go Ah.out)
 have Aq := hide (owns_keep Ab.out fun g hg => Ah.out.block g (ax Ab.out hg))
 have k8 : w2.cell? ⟨K, 8, none⟩ = some (.slice ma n mc) := by
  obtain ⟨_, _, _, _, hk, -⟩ := Af.out
  exact hk.bx.get (i := 8) rfl
 have f8 : w2.frozen? ⟨K, 8, none⟩ = false := by
  obtain ⟨_, _, _, _, hk, -⟩ := Af.out
  exact hk.bx.frz 8
 have CE := hide (sx (c := vc) (d := mc) (dW HV.out) (dW Aq.out) (by rw [Ap.out]; omega) (by rw [Ap.out, Ag]))
 rw [Ap.out, Ag] at CE
 have AA := hide (TR.go Ah.out Ae.out)
 have Ac := hide (Aj.out.trans (Ah.out.mono Aj.out.size))
 clear CR Ad Ab Ae Aj
 by_cases he : aO T F m = m
 ·have HS : Hid (pA T F m i) := hide ⟨HM.out.1, he⟩
  rw [decide_eq_true he] at CE
  rw [he] at HV
  clear he
  go_wp2_with (go_at_call 100; refine CE.out.mono ?_; rintro _ w3 ⟨rfl, q, rfl⟩)
  go_ret2
  have hd := ah w2 q
  exact ⟨_, m, i, rfl, HS.out, owns_keep HV.out fun g hg => hd.block g (ax HV.out hg), Aa.out.1.trans ((Ac.out.trans (hd.mono Ac.out.size)).mono Aa.out.1.size)⟩
 have HC : Hid (i + 1 ≤ ct (aO T F m) n) := hide (by
  have h1 := nM (T := T) (F := F) (m := m) (by rw [HM.out.1]; exact lp) he
  rw [Ag] at h1
  have := HM.out.2
  omega)
 have AK : i + 1 ≤ 4 * n := by have := HC.out; have := lz (m := aO T F m) (k := n); omega
 rw [decide_eq_false he] at CE
 clear he
 go_upto_region 7 with (go_at_call 100; refine CE.out.mono ?_; rintro _ w3 ⟨rfl, Av⟩; have Ai := hide Av; have AP : w3.cell? ⟨K, 8, none⟩ = some (.slice ma n mc) := (by obtain ⟨q, rfl⟩ := Ai.out; exact k8); have AN : w3.frozen? ⟨K, 8, none⟩ = false := (by obtain ⟨q, rfl⟩ := Ai.out; exact f8); clear Av)
 have hd : Below w2.heap.size w2 w3 := by obtain ⟨q, rfl⟩ := Ai.out; exact ah w2 q
 have Am := hide (owns_keep HV.out fun g hg => hd.block g (ax HV.out hg))
 have An := hide (Af.out.go hd)
 have Ar := hide (Ac.out.trans (hd.mono Ac.out.size))
 have AL : Hid (∃ cs, Fx K 157 cs w3) := hide (by obtain ⟨_, _, _, _, hk, -⟩ := An.out; exact ⟨_, hk.bx⟩)
 have AB := hide (An.out.set (.slice va n vc))
 have AM : Hid ((w3.setCell ⟨K, 8, none⟩ (.slice va n vc)).ownsRow w.heap.size 67 1 (.slice va n vc) n (dJ (aO T F m))) := hide (by
  obtain ⟨cs, AE⟩ := AL.out
  exact owns_keep Am.out fun g hg => other_set fun e => au Am.out AE (by decide) (e ▸ hg))
 have As := hide (Ar.out.setCell (p := ⟨K, 8, none⟩) Aa.out.2.2.1 (.slice va n vc))
 have Az := hide (Aa.out.2.1 _ As.out)
 clear k8 f8 CE HV Af Aq AA Ac hd Ai Am An Ar
 go_wp2_with fail
 go_roundw
 case rel => exact ⟨i + 1, aO T F m, va, vc, AK, by go_num, hide ⟨AJ.out, HC.out⟩, AB, AM, As, Az⟩
 case measure => simp [intOf]; omega
end Go.Proofs.YtmlhcncagdfjfaaGreat
