import Derived.Test.YtmlhcncagdfjfaaGreatFlt
set_option maxRecDepth 100000
set_option maxHeartbeats 6400000
namespace Go.Proofs.YtmlhcncagdfjfaaGreat
open Go.RowKit
def eL (b : Bool) : Nat := if b then 1 else 0
def dj (m : List Int) (q : Nat) : Nat := eL (hs m q 1) + eL (hs m q 2) + eL (hs m q 3) + eL (hs m q 4)
def cq (m : List Int) : Nat → Nat
 | 0 => 0
 | k + 1 => cq m k + dj m k
theorem ga (b : Bool) : eL b ≤ 1 := by cases b <;> simp [eL]
theorem bE {a b : Bool} (h : a = true → b = true) : eL a ≤ eL b := by cases a <;> cases b <;> simp_all [eL]
theorem oF {m : List Int} {q : Nat} : dj m q ≤ 4 := by
 unfold dj
 have := ga (hs m q 1)
 have := ga (hs m q 2)
 have := ga (hs m q 3)
 have := ga (hs m q 4)
 omega
theorem lD {m : List Int} : ∀ {k : Nat}, cq m k ≤ 4 * k
 | 0 => by simp [cq]
 | k + 1 => by
  have := lD (m := m) (k := k)
  have := oF (m := m) (q := k)
  unfold cq
  omega
theorem gH {m m' : List Int} (h : Le m m') {q : Nat} : dj m q ≤ dj m' q := by
 unfold dj
 have h1 := bE (h q 1 (by omega) tag1)
 have h2 := bE (h q 2 (by omega) tag2)
 have h3 := bE (h q 3 (by omega) tag3)
 have h4 := bE (h q 4 (by omega) tag4)
 omega
theorem gM {m m' : List Int} (h : Le m m') : ∀ {k : Nat}, cq m k ≤ cq m' k
 | 0 => Nat.le_refl _
 | k + 1 => by
  have := gM h (k := k)
  have := gH h (q := k)
  unfold cq
  omega
theorem jz {m m' : List Int} (h : Le m m') {q : Nat} (hq : dj m q < dj m' q) : ∀ {k : Nat}, q < k → cq m k < cq m' k
 | 0, hk => by omega
 | k + 1, hk => by
  have h1 := gH h (q := k)
  unfold cq
  by_cases e : q = k
  · subst e
    have := gM h (k := q)
    omega
  · have := jz h hq (k := k) (by omega)
    omega
theorem qf {a b : Bool} (h1 : a = false) (h2 : b = true) : eL a < eL b := by rw [h1, h2]; decide
theorem oi {m m' : List Int} (h : Le m m') {q : Nat} {t : Int} (ht : aw t) (h1 : hs m q t = false) (h2 : hs m' q t = true) : dj m q < dj m' q := by
 unfold dj
 have g1 := bE (h q 1 (by omega) tag1)
 have g2 := bE (h q 2 (by omega) tag2)
 have g3 := bE (h q 3 (by omega) tag3)
 have g4 := bE (h q 4 (by omega) tag4)
 have g5 := qf h1 h2
 rcases ht with rfl | rfl | rfl | rfl <;> omega
theorem kE {T : Th} {F m : List Int} (h : ∀ (q : Nat) (t : Int), q < m.length → aw t → (!hs m q t && cH T F m t q) = false) : aQ T F m = m := by
 apply List.ext_getElem?
 intro q
 by_cases hq : q < m.length
 · unfold aQ
   rw [List.getElem?_map, List.getElem?_range hq, List.getElem?_eq_getElem hq]
   have e : m.getD q 0 = m[q] := by rw [List.getD_eq_getElem?_getD, List.getElem?_eq_getElem hq]; rfl
   show some (dH T F m q 4 (dH T F m q 3 (dH T F m q 2 (dH T F m q 1 (m.getD q 0))))) = _
   have a : ∀ (t x : Int), aw t → dH T F m q t x = x := fun t x ht => by unfold dH; rw [h q t hq ht]; rfl
   rw [a 1 _ tag1, a 2 _ tag2, a 3 _ tag3, a 4 _ tag4, e]
 · rw [List.getElem?_eq_none (by rw [cW]; omega), List.getElem?_eq_none (by omega)]
theorem m9 {T : Th} {F m : List Int} (hb : ps m) (hne : aQ T F m ≠ m) : cq m m.length < cq (aQ T F m) m.length := by
 apply Classical.byContradiction
 intro hn
 apply hne
 refine kE fun q t hq ht => ?_
 cases e : (!hs m q t && cH T F m t q) with
 | false => rfl
 | true =>
  exfalso
  simp only [Bool.and_eq_true, Bool.not_eq_true'] at e
  refine hn (jz (iD hb) (oi (iD hb) ht e.1 ?_) hq)
  rw [iJ hb (by omega) (by omega) ht, e.2]
  simp
theorem ui {w : World} {T : Th} {F : List Int} {n : Nat} {fa ra ba ea : Option Addr} {fc rc bc ec : Nat} (h : TA w.heap.size w T fa fc ra rc ba bc) (hF : Ints w.heap.size w F (.slice ea F.length ec)) (hp : Pf T F n) :
    Calls Tryz.prog 60 #[tv T fa fc ra rc ba bc, .slice ea F.length ec] w fun e w' => ∃ v m i, e = .returned (.tuple #[v, .int .i64 (i : Nat)]) ∧ pb T F m i ∧ w'.ownsRow w.heap.size 67 1 v n (dJ m) ∧ Below w.heap.size w w' := by
 obtain ⟨iI, AL, AC, AB, AI⟩ := info_parts ux
 have AO := hp.n4
 have Ak := hide hp.ln
 have HP := hide hp
 have AJ := fun W => aH (P := Tryz.prog) Tryz.underlying64 AL AC AB rfl n (by rw [AI]; omega) (by unfold maxLen; omega) W
 have hB := ae w (.cells #[.int .i64 T.lits, .slice fa T.foes.length fc, .slice ra T.rules.length rc, .slice ba T.beats.length bc] 25)
 have hX := heap_alloc_new w (.cells #[.int .i64 T.lits, .slice fa T.foes.length fc, .slice ra T.rules.length rc, .slice ba T.beats.length bc] 25)
 have Ap := hide (TR.go hB h)
 have HF := hide (Ints.go hB hF)
 have HB := hide hB
 clear h hB hF hp
 rw [show tv T fa fc ra rc ba bc = .agg #[.int .i64 n, .slice fa T.foes.length fc, .slice ra T.rules.length rc, .slice ba T.beats.length bc] from by rw [← Ak.out]]
 rw [Ak.out] at hX HB Ap HF
 go_enter Tryz.func60, Tryz.ntmps60
 go_upto_region 1 with fail
 generalize w.alloc (.cells #[.int .i64 n, .slice fa T.foes.length fc, .slice ra T.rules.length rc, .slice ba T.beats.length bc] 25) = W at *
 obtain ⟨-, c0, c1, c2, c3⟩ := Bt.of hX
 clear hX
 have HT : S4 W ⟨w.heap.size, 0, none⟩ ⟨w.heap.size, 1, none⟩ ⟨w.heap.size, 2, none⟩ ⟨w.heap.size, 3, none⟩ (.int .i64 n) (.slice fa T.foes.length fc) (.slice ra T.rules.length rc) (.slice ba T.beats.length bc) W := ⟨c0, c1, c2, c3, Below.refl _ _⟩
 have CN : Hid (∀ X, Below W.heap.size W X → Calls Tryz.prog 98 #[.agg #[.int .i64 n, .slice fa T.foes.length fc, .slice ra T.rules.length rc, .slice ba T.beats.length bc], .slice ea F.length ec, .slice (some ⟨W.heap.size, 0, none⟩) n n] X fun e w' => ∃ K A, e = .returned (aa K) ∧ Hid (Kq K A T F n (.slice (some ⟨W.heap.size, 0, none⟩) n n) w') ∧ Hid (∀ w2, Below X.heap.size X w2 → TA w2.heap.size w2 T A.fa A.fc A.ra A.rc A.ba A.bc) ∧ Hid (X.heap.size ≤ K) ∧ Below X.heap.size X w') := hide fun X hX => by
  have := qd (ma := some ⟨W.heap.size, 0, none⟩) (mc := n) (TR.go hX Ap.out) (Ints.go hX HF.out) HP.out
  rw [show tv T fa fc ra rc ba bc = .agg #[.int .i64 n, .slice fa T.foes.length fc, .slice ra T.rules.length rc, .slice ba T.beats.length bc] from by rw [← Ak.out]] at this
  refine this.mono ?_
  rintro e w' ⟨K, A, h1, h2, h3, h4, h5⟩
  exact ⟨K, A, h1, hide h2, hide h3, hide h4, h5⟩
 go_region_held3 (fun X : World => S4 W ⟨w.heap.size, 0, none⟩ ⟨w.heap.size, 1, none⟩ ⟨w.heap.size, 2, none⟩ ⟨w.heap.size, 3, none⟩ (.int .i64 n) (.slice fa T.foes.length fc) (.slice ra T.rules.length rc) (.slice ba T.beats.length bc) X) (first | exact S4.drew ‹_› | assumption | exact S4.below ‹_› (ae _ _) | exact S4.below ‹_› ‹_›) (first | (go_at_call 98; refine (CN.out _ (S4.b ‹_›)).mono ?_; rintro e w' ⟨K, A, rfl, Ad, Ae, Ax, hb⟩; have Av := hide ((hb.block W.heap.size (by simp)).trans (heap_alloc_new W.drew _)); have AH := hide ((S4.b ‹_›).trans (hb.mono (S4.b ‹_›).size))))
 rename_i hS5
 obtain ⟨X, Ac⟩ : ∃ X, Hid (Below w.heap.size w X ∧ (∀ w2, Below X.heap.size X w2 → TA w2.heap.size w2 T A.fa A.fc A.ra A.rc A.ba A.bc) ∧ X.heap.size ≤ K ∧ Below X.heap.size X w') := ⟨W.drew.alloc _, hide ⟨HB.out.trans (((Below.refl W.heap.size W).drew.trans (ae W.drew _)).mono HB.out.size), Ae.out, Ax.out, hb⟩⟩
 have Ab : Hid (w'.ownsRow w.heap.size 67 1 (.slice (some ⟨W.heap.size, 0, none⟩) n n) n (dJ (List.replicate n 0))) := hide ⟨by rw [dc, List.length_replicate, Nat.mul_one], .inr ⟨W.heap.size, n, _, rfl, HB.out.size, Av.out, Nat.le_refl _, by unfold maxLen; omega, by simp, by unfold dJ; simp⟩⟩
 have Al : Hid (Below X.heap.size X w') := hide Ac.out.2.2.2
 clear HT CN AJ c0 c1 c2 c3 hb hS5 Ap HF Av AH Ax Ae
 generalize w' = w1 at *
 go_upto_region 3 with fail
 go_loopw [7] (fun x wr => ∃ (i : Nat) (m : List Int) (ma : Option Addr) (mc : Nat), i ≤ 4 * n ∧ x = .int .i64 i ∧ Hid (m = Mk T F i ∧ i ≤ cq m n) ∧ Hid (Kq K A T F n (.slice ma n mc) wr) ∧ Hid (wr.ownsRow w.heap.size 67 1 (.slice ma n mc) n (dJ m)) ∧ Hid (Below X.heap.size X wr) ∧ Hid (TA wr.heap.size wr T A.fa A.fc A.ra A.rc A.ba A.bc)) (fun x _ => 4 * n + 1 - (intOf x).toNat)
 case atStart => exact ⟨0, _, _, _, by omega, rfl, hide ⟨by unfold Mk gV; rw [HP.out.ln, Int.toNat_natCast], by omega⟩, Ad, Ab, Al, hide (Ac.out.2.1 w1 Al.out)⟩
 case round =>
  clear Ad Ab Al
  obtain ⟨i, m, ma, mc, hi, rfl, HM, Ad, Ab, Aj, Ae⟩ := hrel
  have Ag : m.length = n := by rw [HM.out.1]; exact nh HP.out
  have Aw := Ad.out.kn HP.out Ae.out Ag (dV Ab.out)
  have CR := hide (uv Aw)
  have AE : Hid (aQ T F m = Mk T F (i + 1)) := hide (by rw [lI, HM.out.1])
  have Ar : Hid ((aQ T F m).length = n) := hide (by rw [cW]; exact Ag)
  clear Aw
  go_upto_region 5 with (go_at_call 99; refine CR.out.mono ?_; rintro _ w2 ⟨v, rfl, Am, Ay⟩; have HV := hide (aJ Am (Nat.le_trans Ac.out.1.size Aj.out.size)); have Ai := hide Ay; clear Am Ay)
  obtain ⟨va, vc, rfl⟩ := bf HV.out
  have Af := hide (Ad.out.go Ai.out)
  have Ao := hide (owns_keep Ab.out fun g hg => Ai.out.block g (ax Ab.out hg))
  have k8 : w2.cell? ⟨K, 8, none⟩ = some (.slice ma n mc) := by
   obtain ⟨_, _, _, _, hk, -⟩ := Af.out
   exact hk.bx.get (i := 8) rfl
  have f8 : w2.frozen? ⟨K, 8, none⟩ = false := by
   obtain ⟨_, _, _, _, hk, -⟩ := Af.out
   exact hk.bx.frz 8
  have CE := hide (sO (c := vc) (d := mc) (dV HV.out) (dV Ao.out) (by rw [Ar.out]; omega) (by rw [Ar.out, Ag]))
  rw [Ar.out, Ag] at CE
  have AA := hide (TR.go Ai.out Ae.out)
  have Aa := hide (Aj.out.trans (Ai.out.mono Aj.out.size))
  clear CR Ad Ab Ae Aj
  by_cases he : aQ T F m = m
  · have HS : Hid (pb T F m i) := hide ⟨HM.out.1, he⟩
    rw [decide_eq_true he] at CE
    rw [he] at HV
    clear he
    go_wp2_with (go_at_call 100; refine CE.out.mono ?_; rintro _ w3 ⟨rfl, q, rfl⟩)
    go_ret2
    have hd := ah w2 q
    exact ⟨_, m, i, rfl, HS.out, owns_keep HV.out fun g hg => hd.block g (ax HV.out hg), Ac.out.1.trans ((Aa.out.trans (hd.mono Aa.out.size)).mono Ac.out.1.size)⟩
  · have HC : Hid (i + 1 ≤ cq (aQ T F m) n) := hide (by
     have h1 := m9 (T := T) (F := F) (m := m) (by rw [HM.out.1]; exact kQ) he
     rw [Ag] at h1
     have := HM.out.2
     omega)
    have AM : i + 1 ≤ 4 * n := by have := HC.out; have := lD (m := aQ T F m) (k := n); omega
    rw [decide_eq_false he] at CE
    clear he
    go_upto_region 7 with (go_at_call 100; refine CE.out.mono ?_; rintro _ w3 ⟨rfl, Au⟩; have Ah := hide Au; have AP : w3.cell? ⟨K, 8, none⟩ = some (.slice ma n mc) := (by obtain ⟨q, rfl⟩ := Ah.out; exact k8); have AN : w3.frozen? ⟨K, 8, none⟩ = false := (by obtain ⟨q, rfl⟩ := Ah.out; exact f8); clear Au)
    have hd : Below w2.heap.size w2 w3 := by obtain ⟨q, rfl⟩ := Ah.out; exact ah w2 q
    have Aq := hide (owns_keep HV.out fun g hg => hd.block g (ax HV.out hg))
    have At := hide (Af.out.go hd)
    have An := hide (Aa.out.trans (hd.mono Aa.out.size))
    have AD : Hid (∃ cs, Fx K 157 cs w3) := hide (by obtain ⟨_, _, _, _, hk, -⟩ := At.out; exact ⟨_, hk.bx⟩)
    have AG := hide (At.out.set (.slice va n vc))
    have AF : Hid ((w3.setCell ⟨K, 8, none⟩ (.slice va n vc)).ownsRow w.heap.size 67 1 (.slice va n vc) n (dJ (aQ T F m))) := hide (by
     obtain ⟨cs, AK⟩ := AD.out
     exact owns_keep Aq.out fun g hg => other_set fun e => au Aq.out AK (by decide) (e ▸ hg))
    have As := hide (An.out.setCell (p := ⟨K, 8, none⟩) Ac.out.2.2.1 (.slice va n vc))
    have Az := hide (Ac.out.2.1 _ As.out)
    clear k8 f8 CE HV Af Ao AA Aa hd Ah Aq At An
    go_wp2_with fail
    go_roundw
    case rel => exact ⟨i + 1, aQ T F m, va, vc, AM, by go_num, hide ⟨AE.out, HC.out⟩, AG, AF, As, Az⟩
    case measure => simp [intOf]; omega
end Go.Proofs.YtmlhcncagdfjfaaGreat
