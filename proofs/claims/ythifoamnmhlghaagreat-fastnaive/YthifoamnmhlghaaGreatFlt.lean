import Derived.Test.YthifoamnmhlghaaGreatNkn
set_option maxRecDepth 100000
set_option maxHeartbeats 3200000
namespace Go.Proofs.YthifoamnmhlghaaGreat
open Go.RowKit
section
variable {w : World} {T : Th} {F : List Int} {fa ra ba ea : Option Addr} {fc rc bc ec : Nat}
theorem fD (hF : Ints w.heap.size w F (.slice ea F.length ec)) :
    Calls Tryz.prog 15 #[tv T fa fc ra rc ba bc, .slice ea F.length ec] w fun e w' => e = .returned (.int .i64 (if bT F T.lits then 0 else 181)) ∧ Below w.heap.size w w' := by
 have hB := aa w (.cells #[.int .i64 T.lits, .slice fa T.foes.length fc, .slice ra T.rules.length rc, .slice ba T.beats.length bc] 25)
 have hX := heap_alloc_new w (.cells #[.int .i64 T.lits, .slice fa T.foes.length fc, .slice ra T.rules.length rc, .slice ba T.beats.length bc] 25)
 have HF := hide (Ints.go hB hF)
 have hl := hF.lim
 obtain ⟨b, hb⟩ : ∃ b, bT F T.lits = b := ⟨_, rfl⟩
 have CR := hide (fd (c := ec) HF.out.at1 hl T.lits)
 rw [hb] at CR ⊢
 have HB := hide hB
 clear hB hF hb
 go_enter Tryz.func15, Tryz.ntmps15
 go_upto_region 1 with fail
 generalize w.alloc (.cells #[.int .i64 T.lits, .slice fa T.foes.length fc, .slice ra T.rules.length rc, .slice ba T.beats.length bc] 25) = W at *
 obtain ⟨-, c0, c1, c2, c3⟩ := Bt.of hX
 clear hX
 cases b with
 | true =>
  go_wp2_with (go_at_call 26; refine CR.out.mono ?_; rintro _ w2 ⟨rfl, rfl⟩)
  go_ret
  exact ⟨rfl, HB.out⟩
 | false =>
  go_wp2_with (go_at_call 26; refine CR.out.mono ?_; rintro _ w2 ⟨rfl, rfl⟩)
  go_ret
  exact ⟨rfl, HB.out⟩
theorem eS (h : TA w.heap.size w T fa fc ra rc ba bc) (hF : Ints w.heap.size w F (.slice ea F.length ec)) :
    Calls Tryz.prog 12 #[tv T fa fc ra rc ba bc, .slice ea F.length ec] w fun e w' => e = .returned (.int .i64 (faultM T F)) ∧ Below w.heap.size w w' := by
 have hB := aa w (.cells #[.int .i64 T.lits, .slice fa T.foes.length fc, .slice ra T.rules.length rc, .slice ba T.beats.length bc] 25)
 have hX := heap_alloc_new w (.cells #[.int .i64 T.lits, .slice fa T.foes.length fc, .slice ra T.rules.length rc, .slice ba T.beats.length bc] 25)
 have HF := hide (Ints.go hB hF)
 have hL := TR.go hB h
 have CC := hide (mz hL)
 have HB := hide hB
 have HX := hide hX
 obtain ⟨e0, p0, hab⟩ : ∃ a b, dt T = (a, b) := ⟨_, _, rfl⟩
 rw [hab] at CC
 unfold ik at CC
 simp only at CC
 have HE : Hid ((dt T).1 = e0) := hide (by rw [hab])
 clear h hB hL hab hF
 go_enter Tryz.func12, Tryz.ntmps12
 go_upto_region 1 with fail
 generalize w.alloc (.cells #[.int .i64 T.lits, .slice fa T.foes.length fc, .slice ra T.rules.length rc, .slice ba T.beats.length bc] 25) = W at *
 obtain ⟨-, c0, c1, c2, c3⟩ := Bt.of hX
 clear hX
 by_cases ha : e0 = 0
 · subst ha
   go_upto_region 4 with (go_at_call 14; refine CC.out.mono ?_; rintro _ w1 ⟨rfl, hw1⟩; have HB1 := hide (HB.out.trans (hw1.mono HB.out.size)); have HI1 := hide (Ints.go hw1 HF.out); have HX1 := hide ((hw1.block _ (aR HX.out)).trans HX.out); clear hw1)
   clear c0 c1 c2 c3 CC HB HX HF
   obtain ⟨-, c0, c1, c2, c3⟩ := Bt.of HX1.out
   have CF := hide (fD (T := T) (fa := fa) (fc := fc) (ra := ra) (rc := rc) (ba := ba) (bc := bc) HI1.out)
   obtain ⟨v, hv⟩ : ∃ v, (if bT F T.lits then (0 : Int) else 181) = v := ⟨_, rfl⟩
   have HV := hide hv
   rw [hv] at CF
   clear hv
   go_wp2_with (go_at_call 15; refine CF.out.mono ?_; rintro _ w2 ⟨rfl, hw2⟩; have HB2 := hide (HB1.out.trans (hw2.mono HB1.out.size)); clear hw2)
   go_ret
   refine ⟨?_, HB2.out⟩
   unfold faultM
   rw [HE.out, if_neg (by decide), HV.out]
   rfl
 · have hab2 : (e0 != 0) = true := by simpa using ha
   have HF0 : Hid (faultM T F = e0) := hide (by unfold faultM; rw [HE.out, if_pos ha])
   go_wp2_with (go_at_call 14; refine CC.out.mono ?_; rintro _ w1 ⟨rfl, hw1⟩; have HB1 := hide (HB.out.trans (hw1.mono HB.out.size)); clear hw1)
   go_ret
   exact ⟨by rw [HF0.out]; rfl, HB1.out⟩
def uG (T : Th) (F l : List Int) (w : World) (e : Ending) (w' : World) : Prop :=
 (faultM T F ≠ 0 ∧ e = .returned (.tuple #[.slice none 0 0, .int .i64 (faultM T F)])) ∨
 (faultM T F = 0 ∧ ∃ xa xc, e = .returned (.tuple #[.slice xa l.length xc, .int .i64 0]) ∧ w'.ownsRow w.heap.size 3 1 (.slice xa l.length xc) l.length (av l))
def uD (sg : List Int) (i : Int) (k : Nat) : List Int := ((List.range k).filter fun q => decide (sg.getD q 0 = i)).map Int.ofNat
end
end Go.Proofs.YthifoamnmhlghaaGreat
set_option maxRecDepth 100000
set_option maxHeartbeats 6400000
namespace Go.Proofs.YthifoamnmhlghaaGreat
open Go.RowKit
def dX (b : Bool) : Nat := if b then 1 else 0
def cJ (m : List Int) (q : Nat) : Nat := dX (hs m q 1) + dX (hs m q 2) + dX (hs m q 3) + dX (hs m q 4)
def bz (m : List Int) : Nat → Nat
 | 0 => 0
 | k + 1 => bz m k + cJ m k
theorem fj (b : Bool) : dX b ≤ 1 := by cases b <;> simp [dX]
theorem bD {a b : Bool} (h : a = true → b = true) : dX a ≤ dX b := by cases a <;> cases b <;> simp_all [dX]
theorem l5 {m : List Int} {q : Nat} : cJ m q ≤ 4 := by
 unfold cJ
 have := fj (hs m q 1)
 have := fj (hs m q 2)
 have := fj (hs m q 3)
 have := fj (hs m q 4)
 omega
theorem iz {m : List Int} : ∀ {k : Nat}, bz m k ≤ 4 * k
 | 0 => by simp [bz]
 | k + 1 => by
  have := iz (m := m) (k := k)
  have := l5 (m := m) (q := k)
  unfold bz
  omega
theorem fV {m m' : List Int} (h : Le m m') {q : Nat} : cJ m q ≤ cJ m' q := by
 unfold cJ
 have h1 := bD (h q 1 (by omega) tag1)
 have h2 := bD (h q 2 (by omega) tag2)
 have h3 := bD (h q 3 (by omega) tag3)
 have h4 := bD (h q 4 (by omega) tag4)
 omega
theorem fW {m m' : List Int} (h : Le m m') : ∀ {k : Nat}, bz m k ≤ bz m' k
 | 0 => Nat.le_refl _
 | k + 1 => by
  have := fW h (k := k)
  have := fV h (q := k)
  unfold bz
  omega
theorem iG {m m' : List Int} (h : Le m m') {q : Nat} (hq : cJ m q < cJ m' q) : ∀ {k : Nat}, q < k → bz m k < bz m' k
 | 0, hk => by omega
 | k + 1, hk => by
  have h1 := fV h (q := k)
  unfold bz
  by_cases e : q = k
  · subst e
    have := fW h (k := q)
    omega
  · have := iG h hq (k := k) (by omega)
    omega
theorem mP {a b : Bool} (h1 : a = false) (h2 : b = true) : dX a < dX b := by rw [h1, h2]; decide
theorem l7 {m m' : List Int} (h : Le m m') {q : Nat} {t : Int} (ht : ax t) (h1 : hs m q t = false) (h2 : hs m' q t = true) : cJ m q < cJ m' q := by
 unfold cJ
 have g1 := bD (h q 1 (by omega) tag1)
 have g2 := bD (h q 2 (by omega) tag2)
 have g3 := bD (h q 3 (by omega) tag3)
 have g4 := bD (h q 4 (by omega) tag4)
 have g5 := mP h1 h2
 rcases ht with rfl | rfl | rfl | rfl <;> omega
theorem jx {T : Th} {F m : List Int} (h : ∀ (q : Nat) (t : Int), q < m.length → ax t → (!hs m q t && dl T F m t q) = false) : aK T F m = m := by
 apply List.ext_getElem?
 intro q
 by_cases hq : q < m.length
 · unfold aK
   rw [List.getElem?_map, List.getElem?_range hq, List.getElem?_eq_getElem hq]
   have e : m.getD q 0 = m[q] := by rw [List.getD_eq_getElem?_getD, List.getElem?_eq_getElem hq]; rfl
   show some (dy T F m q 4 (dy T F m q 3 (dy T F m q 2 (dy T F m q 1 (m.getD q 0))))) = _
   have a : ∀ (t x : Int), ax t → dy T F m q t x = x := fun t x ht => by unfold dy; rw [h q t hq ht]; rfl
   rw [a 1 _ tag1, a 2 _ tag2, a 3 _ tag3, a 4 _ tag4, e]
 · rw [List.getElem?_eq_none (by rw [cu]; omega), List.getElem?_eq_none (by omega)]
theorem gy {T : Th} {F m : List Int} (hb : kN m) (hne : aK T F m ≠ m) : bz m m.length < bz (aK T F m) m.length := by
 apply Classical.byContradiction
 intro hn
 apply hne
 refine jx fun q t hq ht => ?_
 cases e : (!hs m q t && dl T F m t q) with
 | false => rfl
 | true =>
  exfalso
  simp only [Bool.and_eq_true, Bool.not_eq_true'] at e
  refine hn (iG (gH hb) (l7 (gH hb) ht e.1 ?_) hq)
  rw [fE hb (by omega) (by omega) ht, e.2]
  simp
theorem qg {w : World} {T : Th} {F : List Int} {n : Nat} {fa ra ba ea : Option Addr} {fc rc bc ec : Nat} (h : TA w.heap.size w T fa fc ra rc ba bc) (hF : Ints w.heap.size w F (.slice ea F.length ec)) (hp : Pf T F n) :
    Calls Tryz.prog 13 #[tv T fa fc ra rc ba bc, .slice ea F.length ec] w fun e w' => ∃ v m i, e = .returned (.tuple #[v, .int .i64 (i : Nat)]) ∧ bo T F m i ∧ w'.ownsRow w.heap.size 42 1 v n (b5 m) ∧ Below w.heap.size w w' := by
 obtain ⟨iI, AI, AF, AC, AB⟩ := info_parts pE
 have AO := hp.n4
 have Al := hide hp.ln
 have HP := hide hp
 have AG := fun W => aL (P := Tryz.prog) Tryz.underlying28 AI AF AC rfl n (by rw [AB]; omega) (by unfold maxLen; omega) W
 have hB := aa w (.cells #[.int .i64 T.lits, .slice fa T.foes.length fc, .slice ra T.rules.length rc, .slice ba T.beats.length bc] 25)
 have hX := heap_alloc_new w (.cells #[.int .i64 T.lits, .slice fa T.foes.length fc, .slice ra T.rules.length rc, .slice ba T.beats.length bc] 25)
 have Ar := hide (TR.go hB h)
 have HF := hide (Ints.go hB hF)
 have HB := hide hB
 clear h hB hF hp
 rw [show tv T fa fc ra rc ba bc = .agg #[.int .i64 n, .slice fa T.foes.length fc, .slice ra T.rules.length rc, .slice ba T.beats.length bc] from by rw [← Al.out]]
 rw [Al.out] at hX HB Ar HF
 go_enter Tryz.func13, Tryz.ntmps13
 go_upto_region 1 with fail
 generalize w.alloc (.cells #[.int .i64 n, .slice fa T.foes.length fc, .slice ra T.rules.length rc, .slice ba T.beats.length bc] 25) = W at *
 obtain ⟨-, c0, c1, c2, c3⟩ := Bt.of hX
 clear hX
 have HT : S4 W ⟨w.heap.size, 0, none⟩ ⟨w.heap.size, 1, none⟩ ⟨w.heap.size, 2, none⟩ ⟨w.heap.size, 3, none⟩ (.int .i64 n) (.slice fa T.foes.length fc) (.slice ra T.rules.length rc) (.slice ba T.beats.length bc) W := ⟨c0, c1, c2, c3, Below.refl _ _⟩
 have CN : Hid (∀ X, Below W.heap.size W X → Calls Tryz.prog 18 #[.agg #[.int .i64 n, .slice fa T.foes.length fc, .slice ra T.rules.length rc, .slice ba T.beats.length bc], .slice ea F.length ec, .slice (some ⟨W.heap.size, 0, none⟩) n n] X fun e w' => ∃ K A, e = .returned (ae K) ∧ Hid (Kq K A T F n (.slice (some ⟨W.heap.size, 0, none⟩) n n) w') ∧ Hid (∀ w2, Below X.heap.size X w2 → TA w2.heap.size w2 T A.fa A.fc A.ra A.rc A.ba A.bc) ∧ Hid (X.heap.size ≤ K) ∧ Below X.heap.size X w') := hide fun X hX => by
  have := nr (ma := some ⟨W.heap.size, 0, none⟩) (mc := n) (TR.go hX Ar.out) (Ints.go hX HF.out) HP.out
  rw [show tv T fa fc ra rc ba bc = .agg #[.int .i64 n, .slice fa T.foes.length fc, .slice ra T.rules.length rc, .slice ba T.beats.length bc] from by rw [← Al.out]] at this
  refine this.mono ?_
  rintro e w' ⟨K, A, h1, h2, h3, h4, h5⟩
  exact ⟨K, A, h1, hide h2, hide h3, hide h4, h5⟩
 go_region_held3 (fun X : World => S4 W ⟨w.heap.size, 0, none⟩ ⟨w.heap.size, 1, none⟩ ⟨w.heap.size, 2, none⟩ ⟨w.heap.size, 3, none⟩ (.int .i64 n) (.slice fa T.foes.length fc) (.slice ra T.rules.length rc) (.slice ba T.beats.length bc) X) (first | exact S4.drew ‹_› | assumption | exact S4.below ‹_› (aa _ _) | exact S4.below ‹_› ‹_›) (first | (go_at_call 18; refine (CN.out _ (S4.b ‹_›)).mono ?_; rintro e w' ⟨K, A, rfl, Ae, Ad, Av, hb⟩; have Ay := hide ((hb.block W.heap.size (by simp)).trans (heap_alloc_new W.drew _)); have AH := hide ((S4.b ‹_›).trans (hb.mono (S4.b ‹_›).size))))
 rename_i hS5
 obtain ⟨X, Ab⟩ : ∃ X, Hid (Below w.heap.size w X ∧ (∀ w2, Below X.heap.size X w2 → TA w2.heap.size w2 T A.fa A.fc A.ra A.rc A.ba A.bc) ∧ X.heap.size ≤ K ∧ Below X.heap.size X w') := ⟨W.drew.alloc _, hide ⟨HB.out.trans (((Below.refl W.heap.size W).drew.trans (aa W.drew _)).mono HB.out.size), Ad.out, Av.out, hb⟩⟩
 have Aa : Hid (w'.ownsRow w.heap.size 42 1 (.slice (some ⟨W.heap.size, 0, none⟩) n n) n (b5 (List.replicate n 0))) := hide ⟨by rw [cW, List.length_replicate, Nat.mul_one], .inr ⟨W.heap.size, n, _, rfl, HB.out.size, Ay.out, Nat.le_refl _, by unfold maxLen; omega, by simp, by unfold b5; simp⟩⟩
 have Aq : Hid (Below X.heap.size X w') := hide Ab.out.2.2.2
 clear HT CN AG c0 c1 c2 c3 hb hS5 Ar HF Ay AH Av Ad
 generalize w' = w1 at *
 go_upto_region 3 with fail
 go_loopw [7] (fun x wr => ∃ (i : Nat) (m : List Int) (ma : Option Addr) (mc : Nat), i ≤ 4 * n ∧ x = .int .i64 i ∧ Hid (m = Mk T F i ∧ i ≤ bz m n) ∧ Hid (Kq K A T F n (.slice ma n mc) wr) ∧ Hid (wr.ownsRow w.heap.size 42 1 (.slice ma n mc) n (b5 m)) ∧ Hid (Below X.heap.size X wr) ∧ Hid (TA wr.heap.size wr T A.fa A.fc A.ra A.rc A.ba A.bc)) (fun x _ => 4 * n + 1 - (intOf x).toNat)
 case atStart => exact ⟨0, _, _, _, by omega, rfl, hide ⟨by unfold Mk bn; rw [HP.out.ln, Int.toNat_natCast], by omega⟩, Ae, Aa, Aq, hide (Ab.out.2.1 w1 Aq.out)⟩
 case round =>
  clear Ae Aa Aq
  obtain ⟨i, m, ma, mc, hi, rfl, HM, Ae, Aa, Ai, Ad⟩ := hrel
  have Ag : m.length = n := by rw [HM.out.1]; exact gF HP.out
  have Aw := Ae.out.kn HP.out Ad.out Ag (cj Aa.out)
  have CR := hide (qq Aw)
  have AD : Hid (aK T F m = Mk T F (i + 1)) := hide (by rw [gC, HM.out.1])
  have Ak : Hid ((aK T F m).length = n) := hide (by rw [cu]; exact Ag)
  clear Aw
  go_upto_region 5 with (go_at_call 19; refine CR.out.mono ?_; rintro _ w2 ⟨v, rfl, As, Au⟩; have HV := hide (aP As (Nat.le_trans Ab.out.1.size Ai.out.size)); have Ah := hide Au; clear As Au)
  obtain ⟨va, vc, rfl⟩ := bg HV.out
  have Af := hide (Ae.out.go Ah.out)
  have Ap := hide (owns_keep Aa.out fun g hg => Ah.out.block g (aA Aa.out hg))
  have k8 : w2.cell? ⟨K, 8, none⟩ = some (.slice ma n mc) := by
   obtain ⟨_, _, _, _, hk, -⟩ := Af.out
   exact hk.bx.get (i := 8) rfl
  have f8 : w2.frozen? ⟨K, 8, none⟩ = false := by
   obtain ⟨_, _, _, _, hk, -⟩ := Af.out
   exact hk.bx.frz 8
  have CE := hide (pj (c := vc) (d := mc) (cj HV.out) (cj Ap.out) (by rw [Ak.out]; omega) (by rw [Ak.out, Ag]))
  rw [Ak.out, Ag] at CE
  have Az := hide (TR.go Ah.out Ad.out)
  have Ac := hide (Ai.out.trans (Ah.out.mono Ai.out.size))
  clear CR Ae Aa Ad Ai
  by_cases he : aK T F m = m
  · have HS : Hid (bo T F m i) := hide ⟨HM.out.1, he⟩
    rw [decide_eq_true he] at CE
    rw [he] at HV
    clear he
    go_wp2_with (go_at_call 20; refine CE.out.mono ?_; rintro _ w3 ⟨rfl, q, rfl⟩)
    go_ret2
    have hd := au w2 q
    exact ⟨_, m, i, rfl, HS.out, owns_keep HV.out fun g hg => hd.block g (aA HV.out hg), Ab.out.1.trans ((Ac.out.trans (hd.mono Ac.out.size)).mono Ab.out.1.size)⟩
  · have HC : Hid (i + 1 ≤ bz (aK T F m) n) := hide (by
     have h1 := gy (T := T) (F := F) (m := m) (by rw [HM.out.1]; exact ft) he
     rw [Ag] at h1
     have := HM.out.2
     omega)
    have AL : i + 1 ≤ 4 * n := by have := HC.out; have := iz (m := aK T F m) (k := n); omega
    rw [decide_eq_false he] at CE
    clear he
    go_upto_region 7 with (go_at_call 20; refine CE.out.mono ?_; rintro _ w3 ⟨rfl, Ax⟩; have Aj := hide Ax; have AN : w3.cell? ⟨K, 8, none⟩ = some (.slice ma n mc) := (by obtain ⟨q, rfl⟩ := Aj.out; exact k8); have AP : w3.frozen? ⟨K, 8, none⟩ = false := (by obtain ⟨q, rfl⟩ := Aj.out; exact f8); clear Ax)
    have hd : Below w2.heap.size w2 w3 := by obtain ⟨q, rfl⟩ := Aj.out; exact au w2 q
    have At := hide (owns_keep HV.out fun g hg => hd.block g (aA HV.out hg))
    have Am := hide (Af.out.go hd)
    have An := hide (Ac.out.trans (hd.mono Ac.out.size))
    have AK : Hid (∃ cs, Fx K 63 cs w3) := hide (by obtain ⟨_, _, _, _, hk, -⟩ := Am.out; exact ⟨_, hk.bx⟩)
    have AJ := hide (Am.out.set (.slice va n vc))
    have AE : Hid ((w3.setCell ⟨K, 8, none⟩ (.slice va n vc)).ownsRow w.heap.size 42 1 (.slice va n vc) n (b5 (aK T F m))) := hide (by
     obtain ⟨cs, AM⟩ := AK.out
     exact owns_keep At.out fun g hg => other_set fun e => ao At.out AM (by decide) (e ▸ hg))
    have Ao := hide (An.out.setCell (p := ⟨K, 8, none⟩) Ab.out.2.2.1 (.slice va n vc))
    have AA := hide (Ab.out.2.1 _ Ao.out)
    clear k8 f8 CE HV Af Ap Az Ac hd Aj At Am An
    go_wp2_with fail
    go_roundw
    case rel => exact ⟨i + 1, aK T F m, va, vc, AL, by go_num, hide ⟨AD.out, HC.out⟩, AJ, AE, Ao, AA⟩
    case measure => simp [intOf]; omega
end Go.Proofs.YthifoamnmhlghaaGreat
set_option maxRecDepth 100000
set_option maxHeartbeats 3200000
namespace Go.Proofs.YthifoamnmhlghaaGreat
open Go.RowKit
section
variable {w : World} {T : Th} {F : List Int} {fa ra ba ea : Option Addr} {fc rc bc ec : Nat}
theorem Solve_bad (h : TA w.heap.size w T fa fc ra rc ba bc) (hF : Ints w.heap.size w F (.slice ea F.length ec)) (hne : faultM T F ≠ 0) :
    Calls Tryz.prog 6 #[tv T fa fc ra rc ba bc, .slice ea F.length ec] w fun e w' => e = .returned (.tuple #[.slice none 0 0, .int .i64 (faultM T F)]) ∧ Below w.heap.size w w' := by
 have hB := aa w (.cells #[.int .i64 T.lits, .slice fa T.foes.length fc, .slice ra T.rules.length rc, .slice ba T.beats.length bc] 25)
 have hX := heap_alloc_new w (.cells #[.int .i64 T.lits, .slice fa T.foes.length fc, .slice ra T.rules.length rc, .slice ba T.beats.length bc] 25)
 have CF := hide (eS (TR.go hB h) (Ints.go hB hF))
 have HB := hide hB
 have hne2 : (faultM T F != 0) = true := by simpa using hne
 clear h hB hF hne
 generalize faultM T F = e0 at *
 go_enter Tryz.func6, Tryz.ntmps6
 go_upto_region 1 with fail
 generalize w.alloc (.cells #[.int .i64 T.lits, .slice fa T.foes.length fc, .slice ra T.rules.length rc, .slice ba T.beats.length bc] 25) = W at *
 obtain ⟨-, c0, c1, c2, c3⟩ := Bt.of hX
 clear hX
 go_wp2_with (go_at_call 12; refine CF.out.mono ?_; rintro _ w1 ⟨rfl, hw1⟩; have HB1 := hide (HB.out.trans (hw1.mono HB.out.size)); clear hw1)
 go_ret2
 exact ⟨rfl, HB1.out⟩
theorem Solve_ok (h : TA w.heap.size w T fa fc ra rc ba bc) (hF : Ints w.heap.size w F (.slice ea F.length ec)) (h0 : faultM T F = 0) :
    Calls Tryz.prog 6 #[tv T fa fc ra rc ba bc, .slice ea F.length ec] w fun e w' => ∃ v m i, e = .returned (.tuple #[v, .int .i64 0]) ∧ bo T F m i ∧ w'.ownsRow w.heap.size 42 1 v T.lits.toNat (b5 m) ∧ Below w.heap.size w w' := by
 have hB := aa w (.cells #[.int .i64 T.lits, .slice fa T.foes.length fc, .slice ra T.rules.length rc, .slice ba T.beats.length bc] 25)
 have hX := heap_alloc_new w (.cells #[.int .i64 T.lits, .slice fa T.foes.length fc, .slice ra T.rules.length rc, .slice ba T.beats.length bc] 25)
 have CF := hide (eS (TR.go hB h) (Ints.go hB hF))
 rw [h0] at CF
 have HP := hide (kI h0)
 have HTA := hide (TR.go hB h)
 have HF := hide (Ints.go hB hF)
 have HB := hide hB
 have HX := hide hX
 clear h hB hF h0
 go_enter Tryz.func6, Tryz.ntmps6
 go_upto_region 1 with fail
 generalize w.alloc (.cells #[.int .i64 T.lits, .slice fa T.foes.length fc, .slice ra T.rules.length rc, .slice ba T.beats.length bc] 25) = W at *
 obtain ⟨-, c0, c1, c2, c3⟩ := Bt.of hX
 clear hX
 go_upto_region 4 with (go_at_call 12; refine CF.out.mono ?_; rintro _ w1 ⟨rfl, hw1⟩; have HW1 := hide hw1; clear hw1)
 have HX1 := hide ((HW1.out.block _ (aR HX.out)).trans HX.out)
 have CS := hide (qg (TR.go HW1.out HTA.out) (Ints.go HW1.out HF.out) HP.out)
 have HB1 := hide (HB.out.trans (HW1.out.mono HB.out.size))
 clear c0 c1 c2 c3 CF HX HTA HF HB HW1
 obtain ⟨-, c0, c1, c2, c3⟩ := Bt.of HX1.out
 go_wp2_with (go_at_call 13; refine CS.out.mono ?_; rintro _ w2 ⟨v, m, i, rfl, hs, hown, hw2⟩; have HS := hide hs; have HO := hide hown; have HW2 := hide hw2; clear hs hown hw2)
 go_ret2
 exact ⟨v, m, i, rfl, HS.out, aP HO.out HB1.out.size, HB1.out.trans (HW2.out.mono HB1.out.size)⟩
end
end Go.Proofs.YthifoamnmhlghaaGreat
