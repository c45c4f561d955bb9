import Derived.Test.YtmlhcncagdfjfaaGreatFlt
set_option maxRecDepth 100000
set_option maxHeartbeats 6400000
namespace Go.Proofs.YtmlhcncagdfjfaaGreat
open Go.RowKit
def fA (b : Bool) : Nat := if b then 1 else 0
def dB (m : List Int) (q : Nat) : Nat := fA (hs m q 1) + fA (hs m q 2) + fA (hs m q 3) + fA (hs m q 4)
def bO (m : List Int) : Nat → Nat
 | 0 => 0
 | k + 1 => bO m k + dB m k
theorem gI (b : Bool) : fA b ≤ 1 := by cases b <;> simp [fA]
theorem bX {a b : Bool} (h : a = true → b = true) : fA a ≤ fA b := by cases a <;> cases b <;> simp_all [fA]
theorem pM {m : List Int} {q : Nat} : dB m q ≤ 4 := by
 unfold dB
 have := gI (hs m q 1)
 have := gI (hs m q 2)
 have := gI (hs m q 3)
 have := gI (hs m q 4)
 omega
theorem kI {m : List Int} : ∀ {k : Nat}, bO m k ≤ 4 * k
 | 0 => by simp [bO]
 | k + 1 => by
  have := kI (m := m) (k := k)
  have := pM (m := m) (q := k)
  unfold bO
  omega
theorem iW {m m' : List Int} (h : Le m m') {q : Nat} : dB m q ≤ dB m' q := by
 unfold dB
 have h1 := bX (h q 1 (by omega) tag1)
 have h2 := bX (h q 2 (by omega) tag2)
 have h3 := bX (h q 3 (by omega) tag3)
 have h4 := bX (h q 4 (by omega) tag4)
 omega
theorem iU {m m' : List Int} (h : Le m m') : ∀ {k : Nat}, bO m k ≤ bO m' k
 | 0 => Nat.le_refl _
 | k + 1 => by
  have := iU h (k := k)
  have := iW h (q := k)
  unfold bO
  omega
theorem kE {m m' : List Int} (h : Le m m') {q : Nat} (hq : dB m q < dB m' q) : ∀ {k : Nat}, q < k → bO m k < bO m' k
 | 0, hk => by omega
 | k + 1, hk => by
  have h1 := iW h (q := k)
  unfold bO
  by_cases e : q = k
  · subst e
    have := iU h (k := q)
    omega
  · have := kE h hq (k := k) (by omega)
    omega
theorem rA {a b : Bool} (h1 : a = false) (h2 : b = true) : fA a < fA b := by rw [h1, h2]; decide
theorem pC {m m' : List Int} (h : Le m m') {q : Nat} {t : Int} (ht : ax t) (h1 : hs m q t = false) (h2 : hs m' q t = true) : dB m q < dB m' q := by
 unfold dB
 have g1 := bX (h q 1 (by omega) tag1)
 have g2 := bX (h q 2 (by omega) tag2)
 have g3 := bX (h q 3 (by omega) tag3)
 have g4 := bX (h q 4 (by omega) tag4)
 have g5 := rA h1 h2
 rcases ht with rfl | rfl | rfl | rfl <;> omega
theorem mz {T : Th} {F m : List Int} (h : ∀ (q : Nat) (t : Int), q < m.length → ax t → (!hs m q t && bj T F m t q) = false) : aR T F m = m := by
 apply List.ext_getElem?
 intro q
 by_cases hq : q < m.length
 · unfold aR
   rw [List.getElem?_map, List.getElem?_range hq, List.getElem?_eq_getElem hq]
   have e : m.getD q 0 = m[q] := by rw [List.getD_eq_getElem?_getD, List.getElem?_eq_getElem hq]; rfl
   show some (ev T F m q 4 (ev T F m q 3 (ev T F m q 2 (ev T F m q 1 (m.getD q 0))))) = _
   have a : ∀ (t x : Int), ax t → ev T F m q t x = x := fun t x ht => by unfold ev; rw [h q t hq ht]; rfl
   rw [a 1 _ tag1, a 2 _ tag2, a 3 _ tag3, a 4 _ tag4, e]
 · rw [List.getElem?_eq_none (by rw [dm]; omega), List.getElem?_eq_none (by omega)]
theorem jc {T : Th} {F m : List Int} (hb : pi m) (hne : aR T F m ≠ m) : bO m m.length < bO (aR T F m) m.length := by
 apply Classical.byContradiction
 intro hn
 apply hne
 refine mz fun q t hq ht => ?_
 cases e : (!hs m q t && bj T F m t q) with
 | false => rfl
 | true =>
  exfalso
  simp only [Bool.and_eq_true, Bool.not_eq_true'] at e
  refine hn (kE (jP hb) (pC (jP hb) ht e.1 ?_) hq)
  rw [iy hb (by omega) (by omega) ht, e.2]
  simp
theorem vT {w : World} {T : Th} {F : List Int} {n : Nat} {fa ra ba ea : Option Addr} {fc rc bc ec : Nat} (h : TA w.heap.size w T fa fc ra rc ba bc) (hF : Ints w.heap.size w F (.slice ea F.length ec)) (hp : Pf T F n) :
    Calls Tryz.prog 60 #[tv T fa fc ra rc ba bc, .slice ea F.length ec] w fun e w' => ∃ v m i, e = .returned (.tuple #[v, .int .i64 (i : Nat)]) ∧ fX T F m i ∧ w'.ownsRow w.heap.size 67 1 v n (ey m) ∧ Below w.heap.size w w' := by
 obtain ⟨iI, AH, AD, AE, AI⟩ := info_parts wF
 have AP := hp.n4
 have Aq := hide hp.ln
 have HP := hide hp
 have AC := fun W => aI (P := Tryz.prog) Tryz.underlying64 AH AD AE rfl n (by rw [AI]; omega) (by unfold maxLen; omega) W
 have hB := ac w (.cells #[.int .i64 T.lits, .slice fa T.foes.length fc, .slice ra T.rules.length rc, .slice ba T.beats.length bc] 25)
 have hX := heap_alloc_new w (.cells #[.int .i64 T.lits, .slice fa T.foes.length fc, .slice ra T.rules.length rc, .slice ba T.beats.length bc] 25)
 have Ap := hide (TR.go hB h)
 have HF := hide (Ints.go hB hF)
 have HB := hide hB
 clear h hB hF hp
 rw [show tv T fa fc ra rc ba bc = .agg #[.int .i64 n, .slice fa T.foes.length fc, .slice ra T.rules.length rc, .slice ba T.beats.length bc] from by rw [← Aq.out]]
 rw [Aq.out] at hX HB Ap HF
 go_enter Tryz.func60, Tryz.ntmps60
 go_upto_region 1 with fail
 generalize w.alloc (.cells #[.int .i64 n, .slice fa T.foes.length fc, .slice ra T.rules.length rc, .slice ba T.beats.length bc] 25) = W at *
 obtain ⟨-, c0, c1, c2, c3⟩ := Bt.of hX
 clear hX
 have HT : S4 W ⟨w.heap.size, 0, none⟩ ⟨w.heap.size, 1, none⟩ ⟨w.heap.size, 2, none⟩ ⟨w.heap.size, 3, none⟩ (.int .i64 n) (.slice fa T.foes.length fc) (.slice ra T.rules.length rc) (.slice ba T.beats.length bc) W := ⟨c0, c1, c2, c3, Below.refl _ _⟩
 have CN : Hid (∀ X, Below W.heap.size W X → Calls Tryz.prog 98 #[.agg #[.int .i64 n, .slice fa T.foes.length fc, .slice ra T.rules.length rc, .slice ba T.beats.length bc], .slice ea F.length ec, .slice (some ⟨W.heap.size, 0, none⟩) n n] X fun e w' => ∃ K A, e = .returned (aa K) ∧ Hid (Kq K A T F n (.slice (some ⟨W.heap.size, 0, none⟩) n n) w') ∧ Hid (∀ w2, Below X.heap.size X w2 → TA w2.heap.size w2 T A.fa A.fc A.ra A.rc A.ba A.bc) ∧ Hid (X.heap.size ≤ K) ∧ Below X.heap.size X w') := hide fun X hX => by
  have := qU (ma := some ⟨W.heap.size, 0, none⟩) (mc := n) (TR.go hX Ap.out) (Ints.go hX HF.out) HP.out
  rw [show tv T fa fc ra rc ba bc = .agg #[.int .i64 n, .slice fa T.foes.length fc, .slice ra T.rules.length rc, .slice ba T.beats.length bc] from by rw [← Aq.out]] at this
  refine this.mono ?_
  rintro e w' ⟨K, A, h1, h2, h3, h4, h5⟩
  exact ⟨K, A, h1, hide h2, hide h3, hide h4, h5⟩
 go_region_held3 (fun X : World => S4 W ⟨w.heap.size, 0, none⟩ ⟨w.heap.size, 1, none⟩ ⟨w.heap.size, 2, none⟩ ⟨w.heap.size, 3, none⟩ (.int .i64 n) (.slice fa T.foes.length fc) (.slice ra T.rules.length rc) (.slice ba T.beats.length bc) X) (first | exact S4.drew ‹_› | assumption | exact S4.below ‹_› (ac _ _) | exact S4.below ‹_› ‹_›) (first | (go_at_call 98; refine (CN.out _ (S4.b ‹_›)).mono ?_; rintro e w' ⟨K, A, rfl, Ae, Ad, Au, hb⟩; have Aw := hide ((hb.block W.heap.size (by simp)).trans (heap_alloc_new W.drew _)); have AF := hide ((S4.b ‹_›).trans (hb.mono (S4.b ‹_›).size))))
 rename_i hS5
 obtain ⟨X, Ab⟩ : ∃ X, Hid (Below w.heap.size w X ∧ (∀ w2, Below X.heap.size X w2 → TA w2.heap.size w2 T A.fa A.fc A.ra A.rc A.ba A.bc) ∧ X.heap.size ≤ K ∧ Below X.heap.size X w') := ⟨W.drew.alloc _, hide ⟨HB.out.trans (((Below.refl W.heap.size W).drew.trans (ac W.drew _)).mono HB.out.size), Ad.out, Au.out, hb⟩⟩
 have Ac : Hid (w'.ownsRow w.heap.size 67 1 (.slice (some ⟨W.heap.size, 0, none⟩) n n) n (ey (List.replicate n 0))) := hide ⟨by rw [dM, List.length_replicate, Nat.mul_one], .inr ⟨W.heap.size, n, _, rfl, HB.out.size, Aw.out, Nat.le_refl _, by unfold maxLen; omega, by simp, by unfold ey; simp⟩⟩
 have An : Hid (Below X.heap.size X w') := hide Ab.out.2.2.2
 clear HT CN AC c0 c1 c2 c3 hb hS5 Ap HF Aw AF Au Ad
 generalize w' = w1 at *
 go_upto_region 3 with fail
 go_loopw [7] (fun x wr => ∃ (i : Nat) (m : List Int) (ma : Option Addr) (mc : Nat), i ≤ 4 * n ∧ x = .int .i64 i ∧ Hid (m = Mk T F i ∧ i ≤ bO m n) ∧ Hid (Kq K A T F n (.slice ma n mc) wr) ∧ Hid (wr.ownsRow w.heap.size 67 1 (.slice ma n mc) n (ey m)) ∧ Hid (Below X.heap.size X wr) ∧ Hid (TA wr.heap.size wr T A.fa A.fc A.ra A.rc A.ba A.bc)) (fun x _ => 4 * n + 1 - (intOf x).toNat)
 case atStart => exact ⟨0, _, _, _, by omega, rfl, hide ⟨by unfold Mk bM; rw [HP.out.ln, Int.toNat_natCast], by omega⟩, Ae, Ac, An, hide (Ab.out.2.1 w1 An.out)⟩
 case round =>
  clear Ae Ac An
  obtain ⟨i, m, ma, mc, hi, rfl, HM, Ae, Ac, Ah, Ad⟩ := hrel
  have Ag : m.length = n := by rw [HM.out.1]; exact jF HP.out
  have Av := Ae.out.kn HP.out Ad.out Ag (eS Ac.out)
  have CR := hide (uX Av)
  have AG : Hid (aR T F m = Mk T F (i + 1)) := hide (by rw [jn, HM.out.1])
  have At : Hid ((aR T F m).length = n) := hide (by rw [dm]; exact Ag)
  clear Av
  go_upto_region 5 with (go_at_call 99; refine CR.out.mono ?_; rintro _ w2 ⟨v, rfl, Al, Ay⟩; have HV := hide (aT Al (Nat.le_trans Ab.out.1.size Ah.out.size)); have Aj := hide Ay; clear Al Ay)
  obtain ⟨va, vc, rfl⟩ := bK HV.out
  have Af := hide (Ae.out.go Aj.out)
  have As := hide (owns_keep Ac.out fun g hg => Aj.out.block g (aD Ac.out hg))
  have k8 : w2.cell? ⟨K, 8, none⟩ = some (.slice ma n mc) := by
   obtain ⟨_, _, _, _, hk, -⟩ := Af.out
   exact hk.bx.get (i := 8) rfl
  have f8 : w2.frozen? ⟨K, 8, none⟩ = false := by
   obtain ⟨_, _, _, _, hk, -⟩ := Af.out
   exact hk.bx.frz 8
  have CE := hide (uF (c := vc) (d := mc) (eS HV.out) (eS As.out) (by rw [At.out]; omega) (by rw [At.out, Ag]))
  rw [At.out, Ag] at CE
  have Az := hide (TR.go Aj.out Ad.out)
  have Aa := hide (Ah.out.trans (Aj.out.mono Ah.out.size))
  clear CR Ae Ac Ad Ah
  by_cases he : aR T F m = m
  · have HS : Hid (fX T F m i) := hide ⟨HM.out.1, he⟩
    rw [decide_eq_true he] at CE
    rw [he] at HV
    clear he
    go_wp2_with (go_at_call 100; refine CE.out.mono ?_; rintro _ w3 ⟨rfl, q, rfl⟩)
    go_ret2
    have hd := al w2 q
    exact ⟨_, m, i, rfl, HS.out, owns_keep HV.out fun g hg => hd.block g (aD HV.out hg), Ab.out.1.trans ((Aa.out.trans (hd.mono Aa.out.size)).mono Ab.out.1.size)⟩
  · have HC : Hid (i + 1 ≤ bO (aR T F m) n) := hide (by
     have h1 := jc (T := T) (F := F) (m := m) (by rw [HM.out.1]; exact gN) he
     rw [Ag] at h1
     have := HM.out.2
     omega)
    have AJ : i + 1 ≤ 4 * n := by have := HC.out; have := kI (m := aR T F m) (k := n); omega
    rw [decide_eq_false he] at CE
    clear he
    go_upto_region 7 with (go_at_call 100; refine CE.out.mono ?_; rintro _ w3 ⟨rfl, Ax⟩; have Ai := hide Ax; have AO : w3.cell? ⟨K, 8, none⟩ = some (.slice ma n mc) := (by obtain ⟨q, rfl⟩ := Ai.out; exact k8); have AN : w3.frozen? ⟨K, 8, none⟩ = false := (by obtain ⟨q, rfl⟩ := Ai.out; exact f8); clear Ax)
    have hd : Below w2.heap.size w2 w3 := by obtain ⟨q, rfl⟩ := Ai.out; exact al w2 q
    have Ao := hide (owns_keep HV.out fun g hg => hd.block g (aD HV.out hg))
    have Am := hide (Af.out.go hd)
    have Ar := hide (Aa.out.trans (hd.mono Aa.out.size))
    have AK : Hid (∃ cs, Fx K 157 cs w3) := hide (by obtain ⟨_, _, _, _, hk, -⟩ := Am.out; exact ⟨_, hk.bx⟩)
    have AB := hide (Am.out.set (.slice va n vc))
    have AL : Hid ((w3.setCell ⟨K, 8, none⟩ (.slice va n vc)).ownsRow w.heap.size 67 1 (.slice va n vc) n (ey (aR T F m))) := hide (by
     obtain ⟨cs, AM⟩ := AK.out
     exact owns_keep Ao.out fun g hg => other_set fun e => aw Ao.out AM (by decide) (e ▸ hg))
    have Ak := hide (Ar.out.setCell (p := ⟨K, 8, none⟩) Ab.out.2.2.1 (.slice va n vc))
    have AA := hide (Ab.out.2.1 _ Ak.out)
    clear k8 f8 CE HV Af As Az Aa hd Ai Ao Am Ar
    go_wp2_with fail
    go_roundw
    case rel => exact ⟨i + 1, aR T F m, va, vc, AJ, by go_num, hide ⟨AG.out, HC.out⟩, AB, AL, Ak, AA⟩
    case measure => simp [intOf]; omega
end Go.Proofs.YtmlhcncagdfjfaaGreat
