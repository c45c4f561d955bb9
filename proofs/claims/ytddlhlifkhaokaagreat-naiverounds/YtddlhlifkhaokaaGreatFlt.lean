/- fault, solve, Solve. -/
import Derived.Test.YtddlhlifkhaokaaGreatNkn
import Derived.Test.YtddlhlifkhaokaaGreatLsm
namespace Go.Proofs.YtddlhlifkhaokaaGreat
open Go.RowKit

section
variable {w : World} {T : Th} {F : List Int} {fa ra ba ea : Option Addr} {fc rc bc ec : Nat}
set_option maxRecDepth 100000 in
set_option maxHeartbeats 3200000 in
theorem checkFacts_any (hF : Ints w.heap.size w F (.slice ea F.length ec)) :
    Calls Tryz.prog 41 #[tv T fa fc ra rc ba bc, .slice ea F.length ec] w fun e w' => e = .returned (.int .i64 (if risesM F T.lits then 0 else 181)) ∧ Below w.heap.size w w' := by
  have hB := below_new w (.cells #[.int .i64 T.lits, .slice fa T.foes.length fc, .slice ra T.rules.length rc, .slice ba T.beats.length bc] 25)
  have hX := heap_alloc_new w (.cells #[.int .i64 T.lits, .slice fa T.foes.length fc, .slice ra T.rules.length rc, .slice ba T.beats.length bc] 25)
  have HF := hide (Ints.go hB hF)
  have hl := hF.lim
  obtain ⟨b, hb⟩ : ∃ b, risesM F T.lits = b := ⟨_, rfl⟩
  have CR := hide (rising_any (c := ec) HF.out.at1 hl T.lits)
  rw [hb] at CR ⊢
  have HB := hide hB
  clear hB hF hb
  go_enter Tryz.func41, Tryz.ntmps41
  go_upto_region 1 with fail
  generalize w.alloc (.cells #[.int .i64 T.lits, .slice fa T.foes.length fc, .slice ra T.rules.length rc, .slice ba T.beats.length bc] 25) = W at *
  obtain ⟨-, c0, c1, c2, c3⟩ := Bt.of hX
  clear hX
  cases b with
  | true =>
    go_wp2_with (go_at_call 62; refine CR.out.mono ?_; rintro _ w2 ⟨rfl, rfl⟩)
    go_ret
    exact ⟨rfl, HB.out⟩
  | false =>
    go_wp2_with (go_at_call 62; refine CR.out.mono ?_; rintro _ w2 ⟨rfl, rfl⟩)
    go_ret
    exact ⟨rfl, HB.out⟩
set_option maxRecDepth 100000 in
set_option maxHeartbeats 3200000 in
theorem fault_any (h : TA w.heap.size w T fa fc ra rc ba bc) (hF : Ints w.heap.size w F (.slice ea F.length ec)) :
    Calls Tryz.prog 26 #[tv T fa fc ra rc ba bc, .slice ea F.length ec] w fun e w' => e = .returned (.int .i64 (faultM T F)) ∧ Below w.heap.size w w' := by
  have hB := below_new w (.cells #[.int .i64 T.lits, .slice fa T.foes.length fc, .slice ra T.rules.length rc, .slice ba T.beats.length bc] 25)
  have hX := heap_alloc_new w (.cells #[.int .i64 T.lits, .slice fa T.foes.length fc, .slice ra T.rules.length rc, .slice ba T.beats.length bc] 25)
  have HF := hide (Ints.go hB hF)
  have hL := TR.go hB h
  have CC := hide (check_any hL)
  have HB := hide hB
  have HX := hide hX
  obtain ⟨e0, p0, hab⟩ : ∃ a b, checkM T = (a, b) := ⟨_, _, rfl⟩
  rw [hab] at CC
  unfold dup at CC
  simp only at CC
  have HE : Hid ((checkM T).1 = e0) := hide (by rw [hab])
  clear h hB hL hab hF
  go_enter Tryz.func26, Tryz.ntmps26
  go_upto_region 1 with fail
  generalize w.alloc (.cells #[.int .i64 T.lits, .slice fa T.foes.length fc, .slice ra T.rules.length rc, .slice ba T.beats.length bc] 25) = W at *
  obtain ⟨-, c0, c1, c2, c3⟩ := Bt.of hX
  clear hX
  by_cases ha : e0 = 0
  · subst ha
    go_upto_region 4 with (go_at_call 40; refine CC.out.mono ?_; rintro _ w1 ⟨rfl, hw1⟩; have HB1 := hide (HB.out.trans (hw1.mono HB.out.size)); have HI1 := hide (Ints.go hw1 HF.out); have HX1 := hide ((hw1.block _ (loc_lt HX.out)).trans HX.out); clear hw1)
    clear c0 c1 c2 c3 CC HB HX HF
    obtain ⟨-, c0, c1, c2, c3⟩ := Bt.of HX1.out
    have CF := hide (checkFacts_any (T := T) (fa := fa) (fc := fc) (ra := ra) (rc := rc) (ba := ba) (bc := bc) HI1.out)
    obtain ⟨v, hv⟩ : ∃ v, (if risesM F T.lits then (0 : Int) else 181) = v := ⟨_, rfl⟩
    have HV := hide hv
    rw [hv] at CF
    clear hv
    go_wp2_with (go_at_call 41; refine CF.out.mono ?_; rintro _ w2 ⟨rfl, hw2⟩; have HB2 := hide (HB1.out.trans (hw2.mono HB1.out.size)); clear hw2)
    go_ret
    refine ⟨?_, HB2.out⟩
    unfold faultM
    rw [HE.out, if_neg (by decide), HV.out]
    rfl
  · have hab2 : (e0 != 0) = true := by simpa using ha
    have HF0 : Hid (faultM T F = e0) := hide (by unfold faultM; rw [HE.out, if_pos ha])
    go_wp2_with (go_at_call 40; refine CC.out.mono ?_; rintro _ w1 ⟨rfl, hw1⟩; have HB1 := hide (HB.out.trans (hw1.mono HB.out.size)); clear hw1)
    go_ret
    exact ⟨by rw [HF0.out]; rfl, HB1.out⟩
/-- How a question of both kinds ends. -/
def Sgd (T : Th) (F l : List Int) (w : World) (e : Ending) (w' : World) : Prop :=
  (faultM T F ≠ 0 ∧ e = .returned (.tuple #[.slice none 0 0, .int .i64 (faultM T F)])) ∨
  (faultM T F = 0 ∧ ∃ xa xc, e = .returned (.tuple #[.slice xa l.length xc, .int .i64 0]) ∧ w'.ownsRow w.heap.size 3 1 (.slice xa l.length xc) l.length (ints l))
def selK (sg : List Int) (i : Int) (k : Nat) : List Int := ((List.range k).filter fun q => decide (sg.getD q 0 = i)).map Int.ofNat
end
end Go.Proofs.YtddlhlifkhaokaaGreat
/- solve, Solve. -/
namespace Go.Proofs.YtddlhlifkhaokaaGreat
open Go.RowKit

/-! How many tags there are. -/
def b2n (b : Bool) : Nat := if b then 1 else 0
def cntT (m : List Int) (q : Nat) : Nat := b2n (hs m q 1) + b2n (hs m q 2) + b2n (hs m q 3) + b2n (hs m q 4)
def cntF (m : List Int) : Nat → Nat
  | 0 => 0
  | k + 1 => cntF m k + cntT m k
theorem b2n_le (b : Bool) : b2n b ≤ 1 := by cases b <;> simp [b2n]
theorem b2n_mono {a b : Bool} (h : a = true → b = true) : b2n a ≤ b2n b := by cases a <;> cases b <;> simp_all [b2n]
theorem cntT_le {m : List Int} {q : Nat} : cntT m q ≤ 4 := by
  unfold cntT
  have := b2n_le (hs m q 1)
  have := b2n_le (hs m q 2)
  have := b2n_le (hs m q 3)
  have := b2n_le (hs m q 4)
  omega
theorem cntF_le {m : List Int} : ∀ {k : Nat}, cntF m k ≤ 4 * k
  | 0 => by simp [cntF]
  | k + 1 => by
    have := cntF_le (m := m) (k := k)
    have := cntT_le (m := m) (q := k)
    unfold cntF
    omega
theorem cntT_mono {m m' : List Int} (h : Le m m') {q : Nat} : cntT m q ≤ cntT m' q := by
  unfold cntT
  have h1 := b2n_mono (h q 1 (by omega) tag1)
  have h2 := b2n_mono (h q 2 (by omega) tag2)
  have h3 := b2n_mono (h q 3 (by omega) tag3)
  have h4 := b2n_mono (h q 4 (by omega) tag4)
  omega
theorem cntF_mono {m m' : List Int} (h : Le m m') : ∀ {k : Nat}, cntF m k ≤ cntF m' k
  | 0 => Nat.le_refl _
  | k + 1 => by
    have := cntF_mono h (k := k)
    have := cntT_mono h (q := k)
    unfold cntF
    omega
theorem cntF_lt {m m' : List Int} (h : Le m m') {q : Nat} (hq : cntT m q < cntT m' q) : ∀ {k : Nat}, q < k → cntF m k < cntF m' k
  | 0, hk => by omega
  | k + 1, hk => by
    have h1 := cntT_mono h (q := k)
    unfold cntF
    by_cases e : q = k
    · subst e
      have := cntF_mono h (k := q)
      omega
    · have := cntF_lt h hq (k := k) (by omega)
      omega
theorem b2n_lt {a b : Bool} (h1 : a = false) (h2 : b = true) : b2n a < b2n b := by rw [h1, h2]; decide
theorem cntT_lt {m m' : List Int} (h : Le m m') {q : Nat} {t : Int} (ht : isTag t) (h1 : hs m q t = false) (h2 : hs m' q t = true) : cntT m q < cntT m' q := by
  unfold cntT
  have g1 := b2n_mono (h q 1 (by omega) tag1)
  have g2 := b2n_mono (h q 2 (by omega) tag2)
  have g3 := b2n_mono (h q 3 (by omega) tag3)
  have g4 := b2n_mono (h q 4 (by omega) tag4)
  have g5 := b2n_lt h1 h2
  rcases ht with rfl | rfl | rfl | rfl <;> omega
/-- A round that brings nothing new leaves all as it is. -/
theorem round_fix {T : Th} {F m : List Int} (h : ∀ (q : Nat) (t : Int), q < m.length → isTag t → (!hs m q t && condM T F m t q) = false) : roundM T F m = m := by
  apply List.ext_getElem?
  intro q
  by_cases hq : q < m.length
  · unfold roundM
    rw [List.getElem?_map, List.getElem?_range hq, List.getElem?_eq_getElem hq]
    have e : m.getD q 0 = m[q] := by rw [List.getD_eq_getElem?_getD, List.getElem?_eq_getElem hq]; rfl
    show some (addM T F m q 4 (addM T F m q 3 (addM T F m q 2 (addM T F m q 1 (m.getD q 0))))) = _
    have a : ∀ (t x : Int), isTag t → addM T F m q t x = x := fun t x ht => by unfold addM; rw [h q t hq ht]; rfl
    rw [a 1 _ tag1, a 2 _ tag2, a 3 _ tag3, a 4 _ tag4, e]
  · rw [List.getElem?_eq_none (by rw [round_len]; omega), List.getElem?_eq_none (by omega)]
theorem round_more {T : Th} {F m : List Int} (hb : Bys m) (hne : roundM T F m ≠ m) : cntF m m.length < cntF (roundM T F m) m.length := by
  apply Classical.byContradiction
  intro hn
  apply hne
  refine round_fix fun q t hq ht => ?_
  cases e : (!hs m q t && condM T F m t q) with
  | false => rfl
  | true =>
    exfalso
    simp only [Bool.and_eq_true, Bool.not_eq_true'] at e
    refine hn (cntF_lt (round_le hb) (cntT_lt (round_le hb) ht e.1 ?_) hq)
    rw [hs_round hb (by omega) (by omega) ht, e.2]
    simp
set_option maxRecDepth 100000 in
set_option maxHeartbeats 6400000 in
theorem solve_anyL {w : World} {T : Th} {F : List Int} {n : Nat} {fa ra ba ea : Option Addr} {fc rc bc ec : Nat} (h : TA w.heap.size w T fa fc ra rc ba bc) (hF : Ints w.heap.size w F (.slice ea F.length ec)) (hp : Pf T F n) :
    Calls Tryz.prog 27 #[tv T fa fc ra rc ba bc, .slice ea F.length ec] w fun e w' => ∃ v m i, e = .returned (.tuple #[v, .int .i64 (i : Nat)]) ∧ (Sol T F m i ∧ Lst T F i) ∧ w'.ownsRow w.heap.size 50 1 v n (u8s m) ∧ Below w.heap.size w w' := by
  obtain ⟨iI, hiI, zI0, zI1, zI2⟩ := info_parts infoM8
  have hn4 := hp.n4
  have HN0 := hide hp.ln
  have HP := hide hp
  have hm2 := fun W => run_make_fix (P := Tryz.prog) Tryz.underlying27 hiI zI0 zI1 rfl n (by rw [zI2]; omega) (by unfold maxLen; omega) W
  have hB := below_new w (.cells #[.int .i64 T.lits, .slice fa T.foes.length fc, .slice ra T.rules.length rc, .slice ba T.beats.length bc] 25)
  have hX := heap_alloc_new w (.cells #[.int .i64 T.lits, .slice fa T.foes.length fc, .slice ra T.rules.length rc, .slice ba T.beats.length bc] 25)
  have HTA := hide (TR.go hB h)
  have HF := hide (Ints.go hB hF)
  have HB := hide hB
  clear h hB hF hp
  rw [show tv T fa fc ra rc ba bc = .agg #[.int .i64 n, .slice fa T.foes.length fc, .slice ra T.rules.length rc, .slice ba T.beats.length bc] from by rw [← HN0.out]]
  rw [HN0.out] at hX HB HTA HF
  go_enter Tryz.func27, Tryz.ntmps27
  go_upto_region 1 with fail
  generalize w.alloc (.cells #[.int .i64 n, .slice fa T.foes.length fc, .slice ra T.rules.length rc, .slice ba T.beats.length bc] 25) = W at *
  obtain ⟨-, c0, c1, c2, c3⟩ := Bt.of hX
  clear hX
  have HT : S4 W ⟨w.heap.size, 0, none⟩ ⟨w.heap.size, 1, none⟩ ⟨w.heap.size, 2, none⟩ ⟨w.heap.size, 3, none⟩ (.int .i64 n) (.slice fa T.foes.length fc) (.slice ra T.rules.length rc) (.slice ba T.beats.length bc) W := ⟨c0, c1, c2, c3, Below.refl _ _⟩
  have CN : Hid (∀ X, Below W.heap.size W X → Calls Tryz.prog 21 #[.agg #[.int .i64 n, .slice fa T.foes.length fc, .slice ra T.rules.length rc, .slice ba T.beats.length bc], .slice ea F.length ec, .slice (some ⟨W.heap.size, 0, none⟩) n n] X fun e w' => ∃ K A, e = .returned (ptr K) ∧ Hid (Kq K A T F n (.slice (some ⟨W.heap.size, 0, none⟩) n n) w') ∧ Hid (∀ w2, Below X.heap.size X w2 → TA w2.heap.size w2 T A.fa A.fc A.ra A.rc A.ba A.bc) ∧ Hid (X.heap.size ≤ K) ∧ Below X.heap.size X w') := hide fun X hX => by
    have := newKnown_any (ma := some ⟨W.heap.size, 0, none⟩) (mc := n) (TR.go hX HTA.out) (Ints.go hX HF.out) HP.out
    rw [show tv T fa fc ra rc ba bc = .agg #[.int .i64 n, .slice fa T.foes.length fc, .slice ra T.rules.length rc, .slice ba T.beats.length bc] from by rw [← HN0.out]] at this
    refine this.mono ?_
    rintro e w' ⟨K, A, h1, h2, h3, h4, h5⟩
    exact ⟨K, A, h1, hide h2, hide h3, hide h4, h5⟩
  go_region_held3 (fun X : World => S4 W ⟨w.heap.size, 0, none⟩ ⟨w.heap.size, 1, none⟩ ⟨w.heap.size, 2, none⟩ ⟨w.heap.size, 3, none⟩ (.int .i64 n) (.slice fa T.foes.length fc) (.slice ra T.rules.length rc) (.slice ba T.beats.length bc) X) (first | exact S4.drew ‹_› | assumption | exact S4.below ‹_› (below_new _ _) | exact S4.below ‹_› ‹_›) (first | (go_at_call 21; refine (CN.out _ (S4.b ‹_›)).mono ?_; rintro e w' ⟨K, A, rfl, HKQ, HTQ, HKS, hb⟩; have HMR := hide ((hb.block W.heap.size (by simp)).trans (heap_alloc_new W.drew _)); have HBN := hide ((S4.b ‹_›).trans (hb.mono (S4.b ‹_›).size))))
  rename_i hS5
  obtain ⟨X, HXX⟩ : ∃ X, Hid (Below w.heap.size w X ∧ (∀ w2, Below X.heap.size X w2 → TA w2.heap.size w2 T A.fa A.fc A.ra A.rc A.ba A.bc) ∧ X.heap.size ≤ K ∧ Below X.heap.size X w') := ⟨W.drew.alloc _, hide ⟨HB.out.trans (((Below.refl W.heap.size W).drew.trans (below_new W.drew _)).mono HB.out.size), HTQ.out, HKS.out, hb⟩⟩
  have HOW : Hid (w'.ownsRow w.heap.size 50 1 (.slice (some ⟨W.heap.size, 0, none⟩) n n) n (u8s (List.replicate n 0))) := hide ⟨by rw [u8s_len, List.length_replicate, Nat.mul_one], .inr ⟨W.heap.size, n, _, rfl, HB.out.size, HMR.out, Nat.le_refl _, by unfold maxLen; omega, by simp, by unfold u8s; simp⟩⟩
  have HBX : Hid (Below X.heap.size X w') := hide HXX.out.2.2.2
  clear HT CN hm2 c0 c1 c2 c3 hb hS5 HTA HF HMR HBN HKS HTQ
  generalize w' = w1 at *
  go_upto_region 3 with fail
  go_loopw [7] (fun x wr => ∃ (i : Nat) (m : List Int) (ma : Option Addr) (mc : Nat), i ≤ 4 * n ∧ x = .int .i64 i ∧ Hid (m = Mk T F i ∧ i ≤ cntF m n ∧ Lst T F i) ∧ Hid (Kq K A T F n (.slice ma n mc) wr) ∧ Hid (wr.ownsRow w.heap.size 50 1 (.slice ma n mc) n (u8s m)) ∧ Hid (Below X.heap.size X wr) ∧ Hid (TA wr.heap.size wr T A.fa A.fc A.ra A.rc A.ba A.bc)) (fun x _ => 4 * n + 1 - (intOf x).toNat)
  case atStart => exact ⟨0, _, _, _, by omega, rfl, hide ⟨by unfold Mk iterM; rw [HP.out.ln, Int.toNat_natCast], by omega, Lst.zero⟩, HKQ, HOW, HBX, hide (HXX.out.2.1 w1 HBX.out)⟩
  case round =>
    clear HKQ HOW HBX
    obtain ⟨i, m, ma, mc, hi, rfl, HM, HKQ, HOW, HBW, HTQ⟩ := hrel
    have hml : m.length = n := by rw [HM.out.1]; exact Mk_len HP.out
    have hkn := HKQ.out.kn HP.out HTQ.out hml (owns_at1 HOW.out)
    have CR := hide (round_any hkn)
    have HNX : Hid (roundM T F m = Mk T F (i + 1)) := hide (by rw [Mk_succ, HM.out.1])
    have HRL : Hid ((roundM T F m).length = n) := hide (by rw [round_len]; exact hml)
    clear hkn
    go_upto_region 5 with (go_at_call 22; refine CR.out.mono ?_; rintro _ w2 ⟨v, rfl, hown, hb2⟩; have HV := hide (owns_down hown (Nat.le_trans HXX.out.1.size HBW.out.size)); have HB2 := hide hb2; clear hown hb2)
    obtain ⟨va, vc, rfl⟩ := owns_slice HV.out
    have HKQ2 := hide (HKQ.out.go HB2.out)
    have HOW2 := hide (owns_keep HOW.out fun g hg => HB2.out.block g (owns_lt HOW.out hg))
    have k8 : w2.cell? ⟨K, 8, none⟩ = some (.slice ma n mc) := by
      obtain ⟨_, _, _, _, hk, -⟩ := HKQ2.out
      exact hk.bx.get (i := 8) rfl
    have f8 : w2.frozen? ⟨K, 8, none⟩ = false := by
      obtain ⟨_, _, _, _, hk, -⟩ := HKQ2.out
      exact hk.bx.frz 8
    have CE := hide (equalM_any (c := vc) (d := mc) (owns_at1 HV.out) (owns_at1 HOW2.out) (by rw [HRL.out]; omega) (by rw [HRL.out, hml]))
    rw [HRL.out, hml] at CE
    have HTA2 := hide (TR.go HB2.out HTQ.out)
    have HBW2 := hide (HBW.out.trans (HB2.out.mono HBW.out.size))
    clear CR HKQ HOW HTQ HBW
    by_cases he : roundM T F m = m
    · have HS : Hid (Sol T F m i) := hide ⟨HM.out.1, he⟩
      rw [decide_eq_true he] at CE
      rw [he] at HV
      clear he
      go_wp2_with (go_at_call 42; refine CE.out.mono ?_; rintro _ w3 ⟨rfl, q, rfl⟩)
      go_ret2
      have hd := below_drewN w2 q
      exact ⟨_, m, i, rfl, ⟨HS.out, HM.out.2.2⟩, owns_keep HV.out fun g hg => hd.block g (owns_lt HV.out hg), HXX.out.1.trans ((HBW2.out.trans (hd.mono HBW2.out.size)).mono HXX.out.1.size)⟩
    · have HLS : Hid (Lst T F (i + 1)) := hide (HM.out.2.2.next (by rw [← HM.out.1]; exact he))
      have HC : Hid (i + 1 ≤ cntF (roundM T F m) n) := hide (by
        have h1 := round_more (T := T) (F := F) (m := m) (by rw [HM.out.1]; exact Mk_bys) he
        rw [hml] at h1
        have := HM.out.2.1
        omega)
      have hi4 : i + 1 ≤ 4 * n := by have := HC.out; have := cntF_le (m := roundM T F m) (k := n); omega
      rw [decide_eq_false he] at CE
      clear he
      go_upto_region 7 with (go_at_call 42; refine CE.out.mono ?_; rintro _ w3 ⟨rfl, hq3⟩; have HQ3 := hide hq3; have k83 : w3.cell? ⟨K, 8, none⟩ = some (.slice ma n mc) := (by obtain ⟨q, rfl⟩ := HQ3.out; exact k8); have f83 : w3.frozen? ⟨K, 8, none⟩ = false := (by obtain ⟨q, rfl⟩ := HQ3.out; exact f8); clear hq3)
      have hd : Below w2.heap.size w2 w3 := by obtain ⟨q, rfl⟩ := HQ3.out; exact below_drewN w2 q
      have HV3 := hide (owns_keep HV.out fun g hg => hd.block g (owns_lt HV.out hg))
      have HK3 := hide (HKQ2.out.go hd)
      have HBW3 := hide (HBW2.out.trans (hd.mono HBW2.out.size))
      have HFX : Hid (∃ cs, Fx K 67 cs w3) := hide (by obtain ⟨_, _, _, _, hk, -⟩ := HK3.out; exact ⟨_, hk.bx⟩)
      have HK4 := hide (HK3.out.set (.slice va n vc))
      have HV4 : Hid ((w3.setCell ⟨K, 8, none⟩ (.slice va n vc)).ownsRow w.heap.size 50 1 (.slice va n vc) n (u8s (roundM T F m))) := hide (by
        obtain ⟨cs, hfx⟩ := HFX.out
        exact owns_keep HV3.out fun g hg => other_set fun e => own_fx HV3.out hfx (by decide) (e ▸ hg))
      have HBW4 := hide (HBW3.out.setCell (p := ⟨K, 8, none⟩) HXX.out.2.2.1 (.slice va n vc))
      have HTA4 := hide (HXX.out.2.1 _ HBW4.out)
      clear k8 f8 CE HV HKQ2 HOW2 HTA2 HBW2 hd HQ3 HV3 HK3 HBW3
      go_wp2_with fail
      go_roundw
      case rel => exact ⟨i + 1, roundM T F m, va, vc, hi4, by go_num, hide ⟨HNX.out, HC.out, HLS.out⟩, HK4, HV4, HBW4, HTA4⟩
      case measure => simp [intOf]; omega
theorem solve_any {w : World} {T : Th} {F : List Int} {n : Nat} {fa ra ba ea : Option Addr} {fc rc bc ec : Nat} (h : TA w.heap.size w T fa fc ra rc ba bc) (hF : Ints w.heap.size w F (.slice ea F.length ec)) (hp : Pf T F n) :
    Calls Tryz.prog 27 #[tv T fa fc ra rc ba bc, .slice ea F.length ec] w fun e w' => ∃ v m i, e = .returned (.tuple #[v, .int .i64 (i : Nat)]) ∧ Sol T F m i ∧ w'.ownsRow w.heap.size 50 1 v n (u8s m) ∧ Below w.heap.size w w' := by
  refine (solve_anyL h hF hp).mono ?_
  rintro e w' ⟨v, m, i, h1, h2, h3, h4⟩
  exact ⟨v, m, i, h1, h2.1, h3, h4⟩
end Go.Proofs.YtddlhlifkhaokaaGreat
/- Solve. -/
namespace Go.Proofs.YtddlhlifkhaokaaGreat
open Go.RowKit

section
variable {w : World} {T : Th} {F : List Int} {fa ra ba ea : Option Addr} {fc rc bc ec : Nat}
set_option maxRecDepth 100000 in
set_option maxHeartbeats 3200000 in
theorem Solve_bad (h : TA w.heap.size w T fa fc ra rc ba bc) (hF : Ints w.heap.size w F (.slice ea F.length ec)) (hne : faultM T F ≠ 0) :
    Calls Tryz.prog 11 #[tv T fa fc ra rc ba bc, .slice ea F.length ec] w fun e w' => e = .returned (.tuple #[.slice none 0 0, .int .i64 (faultM T F)]) ∧ Below w.heap.size w w' := by
  have hB := below_new w (.cells #[.int .i64 T.lits, .slice fa T.foes.length fc, .slice ra T.rules.length rc, .slice ba T.beats.length bc] 25)
  have hX := heap_alloc_new w (.cells #[.int .i64 T.lits, .slice fa T.foes.length fc, .slice ra T.rules.length rc, .slice ba T.beats.length bc] 25)
  have CF := hide (fault_any (TR.go hB h) (Ints.go hB hF))
  have HB := hide hB
  have hne2 : (faultM T F != 0) = true := by simpa using hne
  clear h hB hF hne
  generalize faultM T F = e0 at *
  go_enter Tryz.func11, Tryz.ntmps11
  go_upto_region 1 with fail
  generalize w.alloc (.cells #[.int .i64 T.lits, .slice fa T.foes.length fc, .slice ra T.rules.length rc, .slice ba T.beats.length bc] 25) = W at *
  obtain ⟨-, c0, c1, c2, c3⟩ := Bt.of hX
  clear hX
  go_wp2_with (go_at_call 26; refine CF.out.mono ?_; rintro _ w1 ⟨rfl, hw1⟩; have HB1 := hide (HB.out.trans (hw1.mono HB.out.size)); clear hw1)
  go_ret2
  exact ⟨rfl, HB1.out⟩
set_option maxRecDepth 100000 in
set_option maxHeartbeats 3200000 in
theorem Solve_ok (h : TA w.heap.size w T fa fc ra rc ba bc) (hF : Ints w.heap.size w F (.slice ea F.length ec)) (h0 : faultM T F = 0) :
    Calls Tryz.prog 11 #[tv T fa fc ra rc ba bc, .slice ea F.length ec] w fun e w' => ∃ v m i, e = .returned (.tuple #[v, .int .i64 0]) ∧ Sol T F m i ∧ w'.ownsRow w.heap.size 50 1 v T.lits.toNat (u8s m) ∧ Below w.heap.size w w' := by
  have hB := below_new w (.cells #[.int .i64 T.lits, .slice fa T.foes.length fc, .slice ra T.rules.length rc, .slice ba T.beats.length bc] 25)
  have hX := heap_alloc_new w (.cells #[.int .i64 T.lits, .slice fa T.foes.length fc, .slice ra T.rules.length rc, .slice ba T.beats.length bc] 25)
  have CF := hide (fault_any (TR.go hB h) (Ints.go hB hF))
  rw [h0] at CF
  have HP := hide (pf_of h0)
  have HTA := hide (TR.go hB h)
  have HF := hide (Ints.go hB hF)
  have HB := hide hB
  have HX := hide hX
  clear h hB hF h0
  go_enter Tryz.func11, Tryz.ntmps11
  go_upto_region 1 with fail
  generalize w.alloc (.cells #[.int .i64 T.lits, .slice fa T.foes.length fc, .slice ra T.rules.length rc, .slice ba T.beats.length bc] 25) = W at *
  obtain ⟨-, c0, c1, c2, c3⟩ := Bt.of hX
  clear hX
  go_upto_region 4 with (go_at_call 26; refine CF.out.mono ?_; rintro _ w1 ⟨rfl, hw1⟩; have HW1 := hide hw1; clear hw1)
  have HX1 := hide ((HW1.out.block _ (loc_lt HX.out)).trans HX.out)
  have CS := hide (solve_any (TR.go HW1.out HTA.out) (Ints.go HW1.out HF.out) HP.out)
  have HB1 := hide (HB.out.trans (HW1.out.mono HB.out.size))
  clear c0 c1 c2 c3 CF HX HTA HF HB HW1
  obtain ⟨-, c0, c1, c2, c3⟩ := Bt.of HX1.out
  go_wp2_with (go_at_call 27; refine CS.out.mono ?_; rintro _ w2 ⟨v, m, i, rfl, hs, hown, hw2⟩; have HS := hide hs; have HO := hide hown; have HW2 := hide hw2; clear hs hown hw2)
  go_ret2
  exact ⟨v, m, i, rfl, HS.out, owns_down HO.out HB1.out.size, HB1.out.trans (HW2.out.mono HB1.out.size)⟩
end
end Go.Proofs.YtddlhlifkhaokaaGreat
