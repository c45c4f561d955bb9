import Derived.Test.YtmlhcncagdfjfaaGreatFlt
set_option maxRecDepth 100000
set_option maxHeartbeats 6400000
namespace Go.Proofs.YtmlhcncagdfjfaaGreat
open Go.RowKit
def fi (b : Bool) : Nat := if b then 1 else 0
def dx (m : List Int) (q : Nat) : Nat := fi (hs m q 1) + fi (hs m q 2) + fi (hs m q 3) + fi (hs m q 4)
def bL (m : List Int) : Nat → Nat
 | 0 => 0
 | k + 1 => bL m k + dx m k
theorem gN (b : Bool) : fi b ≤ 1 := by cases b <;> simp [fi]
theorem bR {a b : Bool} (h : a = true → b = true) : fi a ≤ fi b := by cases a <;> cases b <;> simp_all [fi]
theorem pL {m : List Int} {q : Nat} : dx m q ≤ 4 := by
 unfold dx
 have := gN (hs m q 1)
 have := gN (hs m q 2)
 have := gN (hs m q 3)
 have := gN (hs m q 4)
 omega
theorem kE {m : List Int} : ∀ {k : Nat}, bL m k ≤ 4 * k
 | 0 => by simp [bL]
 | k + 1 => by
  have := kE (m := m) (k := k)
  have := pL (m := m) (q := k)
  unfold bL
  omega
theorem iW {m m' : List Int} (h : Le m m') {q : Nat} : dx m q ≤ dx m' q := by
 unfold dx
 have h1 := bR (h q 1 (by omega) tag1)
 have h2 := bR (h q 2 (by omega) tag2)
 have h3 := bR (h q 3 (by omega) tag3)
 have h4 := bR (h q 4 (by omega) tag4)
 omega
theorem iK {m m' : List Int} (h : Le m m') : ∀ {k : Nat}, bL m k ≤ bL m' k
 | 0 => Nat.le_refl _
 | k + 1 => by
  have := iK h (k := k)
  have := iW h (q := k)
  unfold bL
  omega
theorem kB {m m' : List Int} (h : Le m m') {q : Nat} (hq : dx m q < dx m' q) : ∀ {k : Nat}, q < k → bL m k < bL m' k
 | 0, hk => by omega
 | k + 1, hk => by
  have h1 := iW h (q := k)
  unfold bL
  by_cases e : q = k
  · subst e
    have := iK h (k := q)
    omega
  · have := kB h hq (k := k) (by omega)
    omega
theorem sy {a b : Bool} (h1 : a = false) (h2 : b = true) : fi a < fi b := by rw [h1, h2]; decide
theorem pN {m m' : List Int} (h : Le m m') {q : Nat} {t : Int} (ht : aq t) (h1 : hs m q t = false) (h2 : hs m' q t = true) : dx m q < dx m' q := by
 unfold dx
 have g1 := bR (h q 1 (by omega) tag1)
 have g2 := bR (h q 2 (by omega) tag2)
 have g3 := bR (h q 3 (by omega) tag3)
 have g4 := bR (h q 4 (by omega) tag4)
 have g5 := sy h1 h2
 rcases ht with rfl | rfl | rfl | rfl <;> omega
theorem mj {T : Th} {F m : List Int} (h : ∀ (q : Nat) (t : Int), q < m.length → aq t → (!hs m q t && bf T F m t q) = false) : aO T F m = m := by
 apply List.ext_getElem?
 intro q
 by_cases hq : q < m.length
 · unfold aO
   rw [List.getElem?_map, List.getElem?_range hq, List.getElem?_eq_getElem hq]
   have e : m.getD q 0 = m[q] := by rw [List.getD_eq_getElem?_getD, List.getElem?_eq_getElem hq]; rfl
   show some (em T F m q 4 (em T F m q 3 (em T F m q 2 (em T F m q 1 (m.getD q 0))))) = _
   have a : ∀ (t x : Int), aq t → em T F m q t x = x := fun t x ht => by unfold em; rw [h q t hq ht]; rfl
   rw [a 1 _ tag1, a 2 _ tag2, a 3 _ tag3, a 4 _ tag4, e]
 · rw [List.getElem?_eq_none (by rw [dj]; omega), List.getElem?_eq_none (by omega)]
theorem i7 {T : Th} {F m : List Int} (hb : oU m) (hne : aO T F m ≠ m) : bL m m.length < bL (aO T F m) m.length := by
 apply Classical.byContradiction
 intro hn
 apply hne
 refine mj fun q t hq ht => ?_
 cases e : (!hs m q t && bf T F m t q) with
 | false => rfl
 | true =>
  exfalso
  simp only [Bool.and_eq_true, Bool.not_eq_true'] at e
  refine hn (kB (jF hb) (pN (jF hb) ht e.1 ?_) hq)
  rw [ig hb (by omega) (by omega) ht, e.2]
  simp
theorem vy {w : World} {T : Th} {F : List Int} {n : Nat} {fa ra ba ea : Option Addr} {fc rc bc ec : Nat} (h : TA w.heap.size w T fa fc ra rc ba bc) (hF : Ints w.heap.size w F (.slice ea F.length ec)) (hp : Pf T F n) :
    Calls Tryz.prog 60 #[tv T fa fc ra rc ba bc, .slice ea F.length ec] w fun e w' => ∃ v m i, e = .returned (.tuple #[v, .int .i64 (i : Nat)]) ∧ fU T F m i ∧ w'.ownsRow w.heap.size 67 1 v n (eq m) ∧ Below w.heap.size w w' := by
 obtain ⟨iI, AK, AE, AH, AF⟩ := info_parts vd
 have AP := hp.n4
 have Ap := hide hp.ln
 have HP := hide hp
 have AG := fun W => aQ (P := Tryz.prog) Tryz.underlying64 AK AE AH rfl n (by rw [AF]; omega) (by unfold maxLen; omega) W
 have hB := ae w (.cells #[.int .i64 T.lits, .slice fa T.foes.length fc, .slice ra T.rules.length rc, .slice ba T.beats.length bc] 25)
 have hX := heap_alloc_new w (.cells #[.int .i64 T.lits, .slice fa T.foes.length fc, .slice ra T.rules.length rc, .slice ba T.beats.length bc] 25)
 have As := hide (TR.go hB h)
 have HF := hide (Ints.go hB hF)
 have HB := hide hB
 clear h hB hF hp
 rw [show tv T fa fc ra rc ba bc = .agg #[.int .i64 n, .slice fa T.foes.length fc, .slice ra T.rules.length rc, .slice ba T.beats.length bc] from by rw [← Ap.out]]
 rw [Ap.out] at hX HB As HF
 go_enter Tryz.func60, Tryz.ntmps60
 go_upto_region 1 with fail
 generalize w.alloc (.cells #[.int .i64 n, .slice fa T.foes.length fc, .slice ra T.rules.length rc, .slice ba T.beats.length bc] 25) = W at *
 obtain ⟨-, c0, c1, c2, c3⟩ := Bt.of hX
 clear hX
 have HT : S4 W ⟨w.heap.size, 0, none⟩ ⟨w.heap.size, 1, none⟩ ⟨w.heap.size, 2, none⟩ ⟨w.heap.size, 3, none⟩ (.int .i64 n) (.slice fa T.foes.length fc) (.slice ra T.rules.length rc) (.slice ba T.beats.length bc) W := ⟨c0, c1, c2, c3, Below.refl _ _⟩
 have CN : Hid (∀ X, Below W.heap.size W X → Calls Tryz.prog 98 #[.agg #[.int .i64 n, .slice fa T.foes.length fc, .slice ra T.rules.length rc, .slice ba T.beats.length bc], .slice ea F.length ec, .slice (some ⟨W.heap.size, 0, none⟩) n n] X fun e w' => ∃ K A, e = .returned (aa K) ∧ Hid (Kq K A T F n (.slice (some ⟨W.heap.size, 0, none⟩) n n) w') ∧ Hid (∀ w2, Below X.heap.size X w2 → TA w2.heap.size w2 T A.fa A.fc A.ra A.rc A.ba A.bc) ∧ Hid (X.heap.size ≤ K) ∧ Below X.heap.size X w') := hide fun X hX => by
  have := ri (ma := some ⟨W.heap.size, 0, none⟩) (mc := n) (TR.go hX As.out) (Ints.go hX HF.out) HP.out
  rw [show tv T fa fc ra rc ba bc = .agg #[.int .i64 n, .slice fa T.foes.length fc, .slice ra T.rules.length rc, .slice ba T.beats.length bc] from by rw [← Ap.out]] at this
  refine this.mono ?_
  rintro e w' ⟨K, A, h1, h2, h3, h4, h5⟩
  exact ⟨K, A, h1, hide h2, hide h3, hide h4, h5⟩
 go_region_held3 (fun X : World => S4 W ⟨w.heap.size, 0, none⟩ ⟨w.heap.size, 1, none⟩ ⟨w.heap.size, 2, none⟩ ⟨w.heap.size, 3, none⟩ (.int .i64 n) (.slice fa T.foes.length fc) (.slice ra T.rules.length rc) (.slice ba T.beats.length bc) X) (first | exact S4.drew ‹_› | assumption | exact S4.below ‹_› (ae _ _) | exact S4.below ‹_› ‹_›) (first | (go_at_call 98; refine (CN.out _ (S4.b ‹_›)).mono ?_; rintro e w' ⟨K, A, rfl, Ae, Ad, Au, hb⟩; have Ax := hide ((hb.block W.heap.size (by simp)).trans (heap_alloc_new W.drew _)); have AC := hide ((S4.b ‹_›).trans (hb.mono (S4.b ‹_›).size))))
 rename_i hS5
 obtain ⟨X, Ac⟩ : ∃ X, Hid (Below w.heap.size w X ∧ (∀ w2, Below X.heap.size X w2 → TA w2.heap.size w2 T A.fa A.fc A.ra A.rc A.ba A.bc) ∧ X.heap.size ≤ K ∧ Below X.heap.size X w') := ⟨W.drew.alloc _, hide ⟨HB.out.trans (((Below.refl W.heap.size W).drew.trans (ae W.drew _)).mono HB.out.size), Ad.out, Au.out, hb⟩⟩
 have Aa : Hid (w'.ownsRow w.heap.size 67 1 (.slice (some ⟨W.heap.size, 0, none⟩) n n) n (eq (List.replicate n 0))) := hide ⟨by rw [dI, List.length_replicate, Nat.mul_one], .inr ⟨W.heap.size, n, _, rfl, HB.out.size, Ax.out, Nat.le_refl _, by unfold maxLen; omega, by simp, by unfold eq; simp⟩⟩
 have Ak : Hid (Below X.heap.size X w') := hide Ac.out.2.2.2
 clear HT CN AG c0 c1 c2 c3 hb hS5 As HF Ax AC Au Ad
 generalize w' = w1 at *
 go_upto_region 3 with fail
 go_loopw [7] (fun x wr => ∃ (i : Nat) (m : List Int) (ma : Option Addr) (mc : Nat), i ≤ 4 * n ∧ x = .int .i64 i ∧ Hid (m = Mk T F i ∧ i ≤ bL m n) ∧ Hid (Kq K A T F n (.slice ma n mc) wr) ∧ Hid (wr.ownsRow w.heap.size 67 1 (.slice ma n mc) n (eq m)) ∧ Hid (Below X.heap.size X wr) ∧ Hid (TA wr.heap.size wr T A.fa A.fc A.ra A.rc A.ba A.bc)) (fun x _ => 4 * n + 1 - (intOf x).toNat)
 case atStart => exact ⟨0, _, _, _, by omega, rfl, hide ⟨by unfold Mk bJ; rw [HP.out.ln, Int.toNat_natCast], by omega⟩, Ae, Aa, Ak, hide (Ac.out.2.1 w1 Ak.out)⟩
 case round =>
  clear Ae Aa Ak
  obtain ⟨i, m, ma, mc, hi, rfl, HM, Ae, Aa, Ah, Ad⟩ := hrel
  have Ag : m.length = n := by rw [HM.out.1]; exact jH HP.out
  have Ay := Ae.out.kn HP.out Ad.out Ag (eL Aa.out)
  have CR := hide (wF Ay)
  have AB : Hid (aO T F m = Mk T F (i + 1)) := hide (by rw [jl, HM.out.1])
  have Ar : Hid ((aO T F m).length = n) := hide (by rw [dj]; exact Ag)
  clear Ay
  go_upto_region 5 with (go_at_call 99; refine CR.out.mono ?_; rintro _ w2 ⟨v, rfl, Al, Av⟩; have HV := hide (aS Al (Nat.le_trans Ac.out.1.size Ah.out.size)); have Ai := hide Av; clear Al Av)
  obtain ⟨va, vc, rfl⟩ := bG HV.out
  have Af := hide (Ae.out.go Ai.out)
  have An := hide (owns_keep Aa.out fun g hg => Ai.out.block g (aB Aa.out hg))
  have k8 : w2.cell? ⟨K, 8, none⟩ = some (.slice ma n mc) := by
   obtain ⟨_, _, _, _, hk, -⟩ := Af.out
   exact hk.bx.get (i := 8) rfl
  have f8 : w2.frozen? ⟨K, 8, none⟩ = false := by
   obtain ⟨_, _, _, _, hk, -⟩ := Af.out
   exact hk.bx.frz 8
  have CE := hide (uq (c := vc) (d := mc) (eL HV.out) (eL An.out) (by rw [Ar.out]; omega) (by rw [Ar.out, Ag]))
  rw [Ar.out, Ag] at CE
  have Az := hide (TR.go Ai.out Ad.out)
  have Ab := hide (Ah.out.trans (Ai.out.mono Ah.out.size))
  clear CR Ae Aa Ad Ah
  by_cases he : aO T F m = m
  · have HS : Hid (fU T F m i) := hide ⟨HM.out.1, he⟩
    rw [decide_eq_true he] at CE
    rw [he] at HV
    clear he
    go_wp2_with (go_at_call 100; refine CE.out.mono ?_; rintro _ w3 ⟨rfl, q, rfl⟩)
    go_ret2
    have hd := aj w2 q
    exact ⟨_, m, i, rfl, HS.out, owns_keep HV.out fun g hg => hd.block g (aB HV.out hg), Ac.out.1.trans ((Ab.out.trans (hd.mono Ab.out.size)).mono Ac.out.1.size)⟩
  · have HC : Hid (i + 1 ≤ bL (aO T F m) n) := hide (by
     have h1 := i7 (T := T) (F := F) (m := m) (by rw [HM.out.1]; exact gL) he
     rw [Ag] at h1
     have := HM.out.2
     omega)
    have AI : i + 1 ≤ 4 * n := by have := HC.out; have := kE (m := aO T F m) (k := n); omega
    rw [decide_eq_false he] at CE
    clear he
    go_upto_region 7 with (go_at_call 100; refine CE.out.mono ?_; rintro _ w3 ⟨rfl, Aw⟩; have Aj := hide Aw; have AO : w3.cell? ⟨K, 8, none⟩ = some (.slice ma n mc) := (by obtain ⟨q, rfl⟩ := Aj.out; exact k8); have AN : w3.frozen? ⟨K, 8, none⟩ = false := (by obtain ⟨q, rfl⟩ := Aj.out; exact f8); clear Aw)
    have hd : Below w2.heap.size w2 w3 := by obtain ⟨q, rfl⟩ := Aj.out; exact aj w2 q
    have Ao := hide (owns_keep HV.out fun g hg => hd.block g (aB HV.out hg))
    have At := hide (Af.out.go hd)
    have Aq := hide (Ab.out.trans (hd.mono Ab.out.size))
    have AL : Hid (∃ cs, Fx K 157 cs w3) := hide (by obtain ⟨_, _, _, _, hk, -⟩ := At.out; exact ⟨_, hk.bx⟩)
    have AJ := hide (At.out.set (.slice va n vc))
    have AM : Hid ((w3.setCell ⟨K, 8, none⟩ (.slice va n vc)).ownsRow w.heap.size 67 1 (.slice va n vc) n (eq (aO T F m))) := hide (by
     obtain ⟨cs, AD⟩ := AL.out
     exact owns_keep Ao.out fun g hg => other_set fun e => az Ao.out AD (by decide) (e ▸ hg))
    have Am := hide (Aq.out.setCell (p := ⟨K, 8, none⟩) Ac.out.2.2.1 (.slice va n vc))
    have AA := hide (Ac.out.2.1 _ Am.out)
    clear k8 f8 CE HV Af An Az Ab hd Aj Ao At Aq
    go_wp2_with fail
    go_roundw
    case rel => exact ⟨i + 1, aO T F m, va, vc, AI, by go_num, hide ⟨AB.out, HC.out⟩, AJ, AM, Am, AA⟩
    case measure => simp [intOf]; omega
end Go.Proofs.YtmlhcncagdfjfaaGreat
