/- slices.symMergeCmpFunc on places: two sorted blocks are merged. -/
import Derived.Test.YthpbadnedhjncaaDoorSymRight
import Derived.Test.YthpbadnedhjncaaDoorSymPlain
namespace Go.Proofs.YthpbadnedhjncaaDoor
open Go.RowKit Go.Shelf Go.Lib Go.Sort

/-- What the merge of [a, m) and [m, b) leaves. -/
def Merged {k : Nat} (r : Nat → Nat) (blk : Nat) (d0 d : Array (Fin (k + 1))) (w0 : World) (a b : Nat) (e : Ending) (w' : World) : Prop :=
  e = .returned (.tuple #[]) ∧ ∃ d' : Array (Fin (k + 1)), d'.size = d0.size ∧ SameOn (fa d) (fa d') a b ∧ Srt r (fa d') a b ∧ SW encP w0 blk 0 d' w'

def Merges {k : Nat} (r : Nat → Nat) (g : Nat) (cb : Array Value) (blk cap : Nat) (d0 : Array (Fin (k + 1))) (w0 : World) (n : Nat) : Prop :=
  ∀ (a m b : Nat) (d : Array (Fin (k + 1))) (w : World), b - a ≤ n → d.size = d0.size → SW encP w0 blk 0 d w → a < m → m < b → b ≤ d0.size → Srt r (fa d) a m → Srt r (fa d) m b →
    (∀ i j, a ≤ i → i < m → m ≤ j → j < b → fa d i < fa d j) →
    Calls Tryd.prog 84 #[.slice (some ⟨blk, 0, none⟩) d0.size cap, .int .i64 (a : Int), .int .i64 (m : Int), .int .i64 (b : Int), .func (.func g) #[] cb] w (Merged r blk d0 d w0 a b)

set_option maxHeartbeats 8000000 in
set_option maxRecDepth 1000000 in
theorem sym_step {k : Nat} (r : Nat → Nat) (g : Nat) (cb : Array Value) (blk cap : Nat) (d0 : Array (Fin (k + 1))) (w0 : World)
    (eg : ∀ args w, (callFunc g args).run Tryd.prog w = .ok (.enter g args) w) (hcmp : CmpLays1 Tryd.prog g cb encP (cfP (k := k) r) blk 0 d0.size w0)
    (R : Row1 encP w0 blk 0 d0) (hsz : d0.size ≤ 4096) (n : Nat) (IH : Merges r g cb blk cap d0 w0 n)
    (a m b : Nat) (d : Array (Fin (k + 1))) (w : World) (hn : b - a ≤ n + 1) (hds : d.size = d0.size) (S : SW encP w0 blk 0 d w) (ham : a + 1 < m) (hmb : m + 1 < b) (hb : b ≤ d0.size)
    (hs1 : Srt r (fa d) a m) (hs2 : Srt r (fa d) m b) (hl : ∀ i j, a ≤ i → i < m → m ≤ j → j < b → fa d i < fa d j) :
    Calls Tryd.prog 84 #[.slice (some ⟨blk, 0, none⟩) d0.size cap, .int .i64 (a : Int), .int .i64 (m : Int), .int .i64 (b : Int), .func (.func g) #[] cb] w (Merged r blk d0 d w0 a b) := by
  have mixed : Tryd.prog.follows .mixedOrders = true := by kernel_rfl
  have hcl0 := R.hO.cells
  simp only [Value.cells] at hcl0
  have hst0 := R.hO.store Tryd.prog
  have HC : Aside _ := hcmp
  have S0 : Aside (SW encP w0 blk 0 d w) := S
  have HIH := hide IH
  obtain ⟨mid, hmid⟩ : ∃ q, q = (a + b) / 2 := ⟨_, rfl⟩
  have zmid : ((a : Int) + (b : Int)) / 2 = (mid : Int) := by omega
  have hm1 : a < mid := by omega
  have hm2 : mid < b := by omega
  have hm3 : 2 * mid ≤ a + b := by omega
  have hm4 : a + b ≤ 2 * mid + 1 := by omega
  clear hmid
  have HCF : Hid (∀ s, Cutt r (fa d) a m b mid s → CutFacts r (rot (fa d) s m (m + mid - s)) a b mid s (m + mid - s)) := fun s c => cut_facts c hs1 hs2 hl
  have HCW : Hid (∀ s (gg kk : Nat → Nat), Cutt r (fa d) a m b mid s → SameOn (rot (fa d) s m (m + mid - s)) gg a mid → Srt r gg a mid → SameOn gg kk mid b → Srt r kk mid b → SameOn (fa d) kk a b ∧ Srt r kk a b) := fun s gg kk c g1 g2 k1 k2 => cut_whole c hs1 hs2 hl (by omega) (by omega) (by omega) (by omega) g1 g2 k1 k2
  have HRO : Hid (∀ (s e : Nat) (W : World), SW encP w0 blk 0 d W → s < m → m < e → e ≤ d0.size → Calls Tryd.prog 89 #[.slice (some ⟨blk, 0, none⟩) d0.size cap, .int .i64 (s : Int), .int .i64 (m : Int), .int .i64 (e : Int), .func (.func g) #[] cb] W fun e1 w' => e1 = .returned (.tuple #[]) ∧ ∃ d' : Array (Fin (k + 1)), d'.size = d0.size ∧ fa d' = rot (fa d) s m e ∧ SW encP w0 blk 0 d' w') := by
    intro s e W SW1 h1 h2 h3
    have := rotate_s g cb blk cap s m e d0 d w0 W R hds.symm SW1 h1 h2 (by omega) (by omega)
    rw [hds] at this
    exact this
  have e1 : ((m : Int) - (a : Int) == 1) = false := by simp; omega
  have e2 : ¬ (m : Int) - (a : Int) = 1 := by omega
  have e3 : ((b : Int) - (m : Int) == 1) = false := by simp; omega
  have e4 : ¬ (b : Int) - (m : Int) = 1 := by omega
  clear S hcmp IH hs1 hs2 hl
  by_cases hmm : mid < m
  · have hmz : (mid : Int) < (m : Int) := by omega
    go_enter Tryd.func84, Tryd.ntmps84
    go_wp2
    go_loopg [20, 21, 23] (b - a) (fun kx vs vr _vc wr => ∃ (s t : Nat), vs = .int .i64 (s : Int) ∧ vr = .int .i64 (t : Int) ∧ (m + mid - b) ≤ s ∧ s ≤ t ∧ t ≤ mid ∧ t - s ≤ kx ∧ Aside (SW encP w0 blk 0 d wr) ∧ Hid (s = (m + mid - b) ∨ ¬ r (fa d (s - 1)) < r (fa d (m + mid - s))) ∧ Hid (t = mid ∨ r (fa d t) < r (fa d (m + mid - t - 1))))
    case atStart => exact ⟨(m + mid - b), mid, by first | rfl | (congr 1; omega), rfl, Nat.le_refl _, by omega, Nat.le_refl _, by omega, S0, Or.inl rfl, Or.inl rfl⟩
    case round =>
      clear S0
      obtain ⟨s, t, rfl, rfl, hs1, hst, htr, hkx, S1, HI, HJ⟩ := hrel
      by_cases hlt : s < t
      · have hltz : (s : Int) < (t : Int) := by omega
        obtain ⟨c, hc⟩ : ∃ c, c = (s + t) / 2 := ⟨_, rfl⟩
        have zc : ((s : Int) + (t : Int)) / 2 = (c : Int) := by omega
        have hsc : s ≤ c := by omega
        have hct : c < t := by omega
        clear hc
        obtain ⟨pc, hpc⟩ : ∃ pc, pc = m + mid - c - 1 := ⟨_, rfl⟩
        have zpc : (mid : Int) + (m : Int) - 1 - (c : Int) = (pc : Int) := by omega
        have hpcb : pc < d0.size := by omega
        by_cases hl : r (fa d c) < r (fa d pc)
        · have HL : Hid (r (fa d c) < r (fa d (m + mid - c - 1))) := by rw [← hpc]; exact hl
          clear hpc
          go_wp2_with fail
          obtain ⟨iNA, hiNA⟩ : ∃ nn, nn = pc := ⟨_, rfl⟩
          obtain ⟨jNA, hjNA⟩ : ∃ nn, nn = c := ⟨_, rfl⟩
          have eaA : ((pc : Int)).toNat = iNA := by omega
          have paA : (0 : Int) ≤ (pc : Int) := by omega
          have baA : (pc : Int) < (d0.size : Int) := by omega
          have raA : IntKind.i64.wrap ((pc : Int)) = (pc : Int) := by rw [IntKind.wrap_i64]; omega
          have ecA : ((c : Int)).toNat = jNA := by omega
          have pcA : (0 : Int) ≤ (c : Int) := by omega
          have bcA : (c : Int) < (d0.size : Int) := by omega
          have rcA : IntKind.i64.wrap ((c : Int)) = (c : Int) := by rw [IntKind.wrap_i64]; omega
          obtain ⟨xA, hxA⟩ : ∃ x, x = d[pc]! := ⟨_, rfl⟩
          obtain ⟨yA, hyA⟩ : ∃ x, x = d[c]! := ⟨_, rfl⟩
          have laA := S1.out.cl R (by omega) (pc) (by omega)
          have lbA := S1.out.cl R (by omega) (c) (by omega)
          rw [← hxA, ← hiNA] at laA
          rw [← hyA, ← hjNA] at lbA
          rw [Nat.zero_add] at laA lbA
          have hcA := S1.out.cmp HC.out (by omega) xA yA
          have hvA : cfP r xA yA < 0 := by rw [cfP_lt, hxA, hyA]; exact hl
          have hdA : decide (cfP r xA yA < 0) = true := decide_eq_true hvA
          clear hxA hyA hiNA hjNA
          go_wp2_with fail
          go_quiet_grown (first | (go_at_fn g; refine Calls.grown_of (hcA _ _)))
          have SA : Aside (SW encP w0 blk 0 d (grow (wr.drewN nq) osq)) := S1.out.grown nq osq
          clear laA lbA hcA S1
          generalize grow (wr.drewN nq) osq = wA at SA ⊢
          clear nq osq
          clear eaA ecA
          clear hl
          go_wp2_with fail
          go_roundg (c - s)
          case measure => omega
          case rel => exact ⟨s, c, rfl, rfl, hs1, hsc, by omega, Nat.le_refl _, SA, HI, Or.inr HL.out⟩
        · have HL : Hid (¬ r (fa d (c + 1 - 1)) < r (fa d (m + mid - (c + 1)))) := by rw [show m + mid - (c + 1) = pc by omega, show c + 1 - 1 = c by omega]; exact hl
          clear hpc
          go_wp2_with fail
          obtain ⟨iNA, hiNA⟩ : ∃ nn, nn = pc := ⟨_, rfl⟩
          obtain ⟨jNA, hjNA⟩ : ∃ nn, nn = c := ⟨_, rfl⟩
          have eaA : ((pc : Int)).toNat = iNA := by omega
          have paA : (0 : Int) ≤ (pc : Int) := by omega
          have baA : (pc : Int) < (d0.size : Int) := by omega
          have raA : IntKind.i64.wrap ((pc : Int)) = (pc : Int) := by rw [IntKind.wrap_i64]; omega
          have ecA : ((c : Int)).toNat = jNA := by omega
          have pcA : (0 : Int) ≤ (c : Int) := by omega
          have bcA : (c : Int) < (d0.size : Int) := by omega
          have rcA : IntKind.i64.wrap ((c : Int)) = (c : Int) := by rw [IntKind.wrap_i64]; omega
          obtain ⟨xA, hxA⟩ : ∃ x, x = d[pc]! := ⟨_, rfl⟩
          obtain ⟨yA, hyA⟩ : ∃ x, x = d[c]! := ⟨_, rfl⟩
          have laA := S1.out.cl R (by omega) (pc) (by omega)
          have lbA := S1.out.cl R (by omega) (c) (by omega)
          rw [← hxA, ← hiNA] at laA
          rw [← hyA, ← hjNA] at lbA
          rw [Nat.zero_add] at laA lbA
          have hcA := S1.out.cmp HC.out (by omega) xA yA
          have hvA : ¬ cfP r xA yA < 0 := by rw [cfP_lt, hxA, hyA]; exact hl
          have hdA : decide (cfP r xA yA < 0) = false := decide_eq_false hvA
          clear hxA hyA hiNA hjNA
          go_wp2_with fail
          go_quiet_grown (first | (go_at_fn g; refine Calls.grown_of (hcA _ _)))
          have SA : Aside (SW encP w0 blk 0 d (grow (wr.drewN nq) osq)) := S1.out.grown nq osq
          clear laA lbA hcA S1
          generalize grow (wr.drewN nq) osq = wA at SA ⊢
          clear nq osq
          clear eaA ecA
          clear hl
          go_wp2_with fail
          go_roundg (t - (c + 1))
          case measure => omega
          case rel => exact ⟨c + 1, t, by go_num, rfl, by omega, by omega, htr, Nat.le_refl _, SA, Or.inr HL.out, HJ⟩
      · have hltz : ¬ (s : Int) < (t : Int) := by omega
        have hste : s = t := by omega
        subst hste
        obtain ⟨e, he⟩ : ∃ e, e = m + mid - s := ⟨_, rfl⟩
        have ze : (mid : Int) + (m : Int) - (s : Int) = (e : Int) := by omega
        have hlo : s = a ∨ m + mid - s = b ∨ ¬ r (fa d (s - 1)) < r (fa d (m + mid - s)) := by
          rcases HI.out with h | h
          · first | exact Or.inl h | exact Or.inr (Or.inl (by omega))
          · exact Or.inr (Or.inr h)
        have hhi : s = mid ∨ s = m ∨ r (fa d s) < r (fa d (m + mid - s - 1)) := by
          rcases HJ.out with h | h
          · first | exact Or.inl h | exact Or.inr (Or.inl h)
          · exact Or.inr (Or.inr h)
        have hcut : Cutt r (fa d) a m b mid s := ⟨by omega, by omega, by omega, by omega, by omega, hlo, hhi⟩
        have cf := HCF.out s hcut
        have HW := hide (fun gg kk => HCW.out s gg kk hcut)
        rw [← he] at cf HW
        have HCFS := hide cf
        clear cf HCF HCW HI HJ hcut hlo hhi
        have hes1 : e + s ≤ m + mid := by omega
        have hes2 : m + mid ≤ e + s := by omega
        have has : a ≤ s := by omega
        have hsm : s ≤ m := by omega
        have hsd : s ≤ mid := by omega
        have heb : e ≤ b := by omega
        clear he hs1 hst htr hkx
        by_cases p1 : s < m
        · by_cases p2 : s < mid
          · by_cases p3 : a < s
            · by_cases p4 : e < b
              · have c1 : (s : Int) < (m : Int) := by omega
                have c2 : (m : Int) < (e : Int) := by omega
                have c4 : (s : Int) < (mid : Int) := by omega
                have c5 : (mid : Int) < (e : Int) := by omega
                have c3 : (a : Int) < (s : Int) := by omega
                have c6 : (e : Int) < (b : Int) := by omega
                have HA := hide (HRO.out s e wr S1.out (by omega) (by omega) (by omega))
                clear HRO S1
                go_wp2_with fail
                refine HA.out.mono ?_
                rintro _ wA ⟨rfl, dA, hdA, hfA, SA⟩
                clear HA
                have HFA := hide hfA
                clear hfA
                have HSA : Aside (SW encP w0 blk 0 dA wA) := SA
                clear SA
                have hB := HIH.out a s mid dA wA (by omega) hdA HSA.out (by omega) (by omega) (by omega) (by rw [HFA.out]; exact HCFS.out.s1) (by rw [HFA.out]; exact HCFS.out.s2) (by rw [HFA.out]; exact HCFS.out.l1)
                have HB := hide hB
                clear hB HSA
                go_wp2_with fail
                refine HB.out.mono ?_
                rintro _ wB ⟨rfl, dB, hdB, hsB, hrB, SB⟩
                clear HB
                rw [HFA.out] at hsB
                have HSM := hide hsB
                have HSR := hide hrB
                have HSB : Aside (SW encP w0 blk 0 dB wB) := SB
                clear hsB hrB SB
                have hR := HCFS.out.right (by omega) HSM.out
                have hD := HIH.out mid e b dB wB (by omega) hdB HSB.out (by omega) (by omega) (by omega) hR.1 hR.2.1 hR.2.2
                have HD := hide hD
                clear hD hR HSB
                go_wp2_with fail
                refine HD.out.mono ?_
                rintro _ wD ⟨rfl, dD, hdD, hsD, hrD, SD⟩
                have HX := hide (HW.out _ _ HSM.out HSR.out hsD hrD)
                clear HD hsD hrD
                go_wp2_with fail
                go_end0
                exact ⟨rfl, dD, hdD, HX.out.1, HX.out.2, SD⟩
              · have c1 : (s : Int) < (m : Int) := by omega
                have c2 : (m : Int) < (e : Int) := by omega
                have c4 : (s : Int) < (mid : Int) := by omega
                have c5 : (mid : Int) < (e : Int) := by omega
                have c3 : (a : Int) < (s : Int) := by omega
                have c6 : ¬ (e : Int) < (b : Int) := by omega
                have HA := hide (HRO.out s e wr S1.out (by omega) (by omega) (by omega))
                clear HRO S1
                go_wp2_with fail
                refine HA.out.mono ?_
                rintro _ wA ⟨rfl, dA, hdA, hfA, SA⟩
                clear HA
                have HFA := hide hfA
                clear hfA
                have HSA : Aside (SW encP w0 blk 0 dA wA) := SA
                clear SA
                have hB := HIH.out a s mid dA wA (by omega) hdA HSA.out (by omega) (by omega) (by omega) (by rw [HFA.out]; exact HCFS.out.s1) (by rw [HFA.out]; exact HCFS.out.s2) (by rw [HFA.out]; exact HCFS.out.l1)
                have HB := hide hB
                clear hB HSA
                go_wp2_with fail
                refine HB.out.mono ?_
                rintro _ wB ⟨rfl, dB, hdB, hsB, hrB, SB⟩
                clear HB
                rw [HFA.out] at hsB
                have HSM := hide hsB
                have HSR := hide hrB
                have HSB : Aside (SW encP w0 blk 0 dB wB) := SB
                clear hsB hrB SB
                have hR := HCFS.out.right (by omega) HSM.out
                have HX := hide (HW.out _ _ HSM.out HSR.out (SameOn.refl _ _ _) (hR.1.sub (Nat.le_refl _) (by omega)))
                clear hR
                go_wp2_with fail
                go_end0
                exact ⟨rfl, dB, hdB, HX.out.1, HX.out.2, HSB.out⟩
            · by_cases p4 : e < b
              · have c1 : (s : Int) < (m : Int) := by omega
                have c2 : (m : Int) < (e : Int) := by omega
                have c4 : (s : Int) < (mid : Int) := by omega
                have c5 : (mid : Int) < (e : Int) := by omega
                have c3 : ¬ (a : Int) < (s : Int) := by omega
                have c6 : (e : Int) < (b : Int) := by omega
                have HA := hide (HRO.out s e wr S1.out (by omega) (by omega) (by omega))
                clear HRO S1
                go_wp2_with fail
                refine HA.out.mono ?_
                rintro _ wA ⟨rfl, dA, hdA, hfA, SA⟩
                clear HA
                have HFA := hide hfA
                clear hfA
                have HSA : Aside (SW encP w0 blk 0 dA wA) := SA
                clear SA
                have HSM : Hid (SameOn (rot (fa d) s m e) (fa dA) a mid) := by unfold Hid; rw [HFA.out]; exact SameOn.refl _ _ _
                have HSR : Hid (Srt r (fa dA) a mid) := by unfold Hid; have x := HCFS.out.s2; rw [← HFA.out] at x; exact x.sub (by omega) (Nat.le_refl _)
                have HSB := HSA
                clear HSA
                have hR := HCFS.out.right (by omega) HSM.out
                have hD := HIH.out mid e b dA wA (by omega) hdA HSB.out (by omega) (by omega) (by omega) hR.1 hR.2.1 hR.2.2
                have HD := hide hD
                clear hD hR HSB
                go_wp2_with fail
                refine HD.out.mono ?_
                rintro _ wD ⟨rfl, dD, hdD, hsD, hrD, SD⟩
                have HX := hide (HW.out _ _ HSM.out HSR.out hsD hrD)
                clear HD hsD hrD
                go_wp2_with fail
                go_end0
                exact ⟨rfl, dD, hdD, HX.out.1, HX.out.2, SD⟩
              · have c1 : (s : Int) < (m : Int) := by omega
                have c2 : (m : Int) < (e : Int) := by omega
                have c4 : (s : Int) < (mid : Int) := by omega
                have c5 : (mid : Int) < (e : Int) := by omega
                have c3 : ¬ (a : Int) < (s : Int) := by omega
                have c6 : ¬ (e : Int) < (b : Int) := by omega
                have HA := hide (HRO.out s e wr S1.out (by omega) (by omega) (by omega))
                clear HRO S1
                go_wp2_with fail
                refine HA.out.mono ?_
                rintro _ wA ⟨rfl, dA, hdA, hfA, SA⟩
                clear HA
                have HFA := hide hfA
                clear hfA
                have HSA : Aside (SW encP w0 blk 0 dA wA) := SA
                clear SA
                have HSM : Hid (SameOn (rot (fa d) s m e) (fa dA) a mid) := by unfold Hid; rw [HFA.out]; exact SameOn.refl _ _ _
                have HSR : Hid (Srt r (fa dA) a mid) := by unfold Hid; have x := HCFS.out.s2; rw [← HFA.out] at x; exact x.sub (by omega) (Nat.le_refl _)
                have HSB := HSA
                clear HSA
                have hR := HCFS.out.right (by omega) HSM.out
                have HX := hide (HW.out _ _ HSM.out HSR.out (SameOn.refl _ _ _) (hR.1.sub (Nat.le_refl _) (by omega)))
                clear hR
                go_wp2_with fail
                go_end0
                exact ⟨rfl, dA, hdA, HX.out.1, HX.out.2, HSB.out⟩
          · have c1 : (s : Int) < (m : Int) := by omega
            have c2 : ¬ (m : Int) < (e : Int) := by omega
            have c3 : (a : Int) < (s : Int) := by omega
            have c4 : ¬ (s : Int) < (mid : Int) := by omega
            have c5 : (mid : Int) < (e : Int) := by omega
            have c6 : (e : Int) < (b : Int) := by omega
            have HFA : Hid (fa d = rot (fa d) s m e) := by
              unfold Hid; rw [show e = m by omega, rot_right]
            have SA := S1.out
            clear HRO S1
            have HSA : Aside (SW encP w0 blk 0 d wr) := SA
            clear SA
            have HSM : Hid (SameOn (rot (fa d) s m e) (fa d) a mid) := by unfold Hid; rw [← HFA.out]; exact SameOn.refl _ _ _
            have HSR : Hid (Srt r (fa d) a mid) := by unfold Hid; have x := HCFS.out.s1; rw [← HFA.out] at x; exact x.sub (Nat.le_refl _) (by omega)
            have HSB := HSA
            clear HSA
            have hR := HCFS.out.right (by omega) HSM.out
            have hD := HIH.out mid e b d wr (by omega) hds HSB.out (by omega) (by omega) (by omega) hR.1 hR.2.1 hR.2.2
            have HD := hide hD
            clear hD hR HSB
            go_wp2_with fail
            refine HD.out.mono ?_
            rintro _ wD ⟨rfl, dD, hdD, hsD, hrD, SD⟩
            have HX := hide (HW.out _ _ HSM.out HSR.out hsD hrD)
            clear HD hsD hrD
            go_wp2_with fail
            go_end0
            exact ⟨rfl, dD, hdD, HX.out.1, HX.out.2, SD⟩
        · exfalso; omega
  · have hmz : ¬ (mid : Int) < (m : Int) := by omega
    go_enter Tryd.func84, Tryd.ntmps84
    go_wp2
    go_loopg [20, 21, 23] (b - a) (fun kx vs vr _vc wr => ∃ (s t : Nat), vs = .int .i64 (s : Int) ∧ vr = .int .i64 (t : Int) ∧ a ≤ s ∧ s ≤ t ∧ t ≤ m ∧ t - s ≤ kx ∧ Aside (SW encP w0 blk 0 d wr) ∧ Hid (s = a ∨ ¬ r (fa d (s - 1)) < r (fa d (m + mid - s))) ∧ Hid (t = m ∨ r (fa d t) < r (fa d (m + mid - t - 1))))
    case atStart => exact ⟨a, m, by first | rfl | (congr 1; omega), rfl, Nat.le_refl _, by omega, Nat.le_refl _, by omega, S0, Or.inl rfl, Or.inl rfl⟩
    case round =>
      clear S0
      obtain ⟨s, t, rfl, rfl, hs1, hst, htr, hkx, S1, HI, HJ⟩ := hrel
      by_cases hlt : s < t
      · have hltz : (s : Int) < (t : Int) := by omega
        obtain ⟨c, hc⟩ : ∃ c, c = (s + t) / 2 := ⟨_, rfl⟩
        have zc : ((s : Int) + (t : Int)) / 2 = (c : Int) := by omega
        have hsc : s ≤ c := by omega
        have hct : c < t := by omega
        clear hc
        obtain ⟨pc, hpc⟩ : ∃ pc, pc = m + mid - c - 1 := ⟨_, rfl⟩
        have zpc : (mid : Int) + (m : Int) - 1 - (c : Int) = (pc : Int) := by omega
        have hpcb : pc < d0.size := by omega
        by_cases hl : r (fa d c) < r (fa d pc)
        · have HL : Hid (r (fa d c) < r (fa d (m + mid - c - 1))) := by rw [← hpc]; exact hl
          clear hpc
          go_wp2_with fail
          obtain ⟨iNA, hiNA⟩ : ∃ nn, nn = pc := ⟨_, rfl⟩
          obtain ⟨jNA, hjNA⟩ : ∃ nn, nn = c := ⟨_, rfl⟩
          have eaA : ((pc : Int)).toNat = iNA := by omega
          have paA : (0 : Int) ≤ (pc : Int) := by omega
          have baA : (pc : Int) < (d0.size : Int) := by omega
          have raA : IntKind.i64.wrap ((pc : Int)) = (pc : Int) := by rw [IntKind.wrap_i64]; omega
          have ecA : ((c : Int)).toNat = jNA := by omega
          have pcA : (0 : Int) ≤ (c : Int) := by omega
          have bcA : (c : Int) < (d0.size : Int) := by omega
          have rcA : IntKind.i64.wrap ((c : Int)) = (c : Int) := by rw [IntKind.wrap_i64]; omega
          obtain ⟨xA, hxA⟩ : ∃ x, x = d[pc]! := ⟨_, rfl⟩
          obtain ⟨yA, hyA⟩ : ∃ x, x = d[c]! := ⟨_, rfl⟩
          have laA := S1.out.cl R (by omega) (pc) (by omega)
          have lbA := S1.out.cl R (by omega) (c) (by omega)
          rw [← hxA, ← hiNA] at laA
          rw [← hyA, ← hjNA] at lbA
          rw [Nat.zero_add] at laA lbA
          have hcA := S1.out.cmp HC.out (by omega) xA yA
          have hvA : cfP r xA yA < 0 := by rw [cfP_lt, hxA, hyA]; exact hl
          have hdA : decide (cfP r xA yA < 0) = true := decide_eq_true hvA
          clear hxA hyA hiNA hjNA
          go_wp2_with fail
          go_quiet_grown (first | (go_at_fn g; refine Calls.grown_of (hcA _ _)))
          have SA : Aside (SW encP w0 blk 0 d (grow (wr.drewN nq) osq)) := S1.out.grown nq osq
          clear laA lbA hcA S1
          generalize grow (wr.drewN nq) osq = wA at SA ⊢
          clear nq osq
          clear eaA ecA
          clear hl
          go_wp2_with fail
          go_roundg (c - s)
          case measure => omega
          case rel => exact ⟨s, c, rfl, rfl, hs1, hsc, by omega, Nat.le_refl _, SA, HI, Or.inr HL.out⟩
        · have HL : Hid (¬ r (fa d (c + 1 - 1)) < r (fa d (m + mid - (c + 1)))) := by rw [show m + mid - (c + 1) = pc by omega, show c + 1 - 1 = c by omega]; exact hl
          clear hpc
          go_wp2_with fail
          obtain ⟨iNA, hiNA⟩ : ∃ nn, nn = pc := ⟨_, rfl⟩
          obtain ⟨jNA, hjNA⟩ : ∃ nn, nn = c := ⟨_, rfl⟩
          have eaA : ((pc : Int)).toNat = iNA := by omega
          have paA : (0 : Int) ≤ (pc : Int) := by omega
          have baA : (pc : Int) < (d0.size : Int) := by omega
          have raA : IntKind.i64.wrap ((pc : Int)) = (pc : Int) := by rw [IntKind.wrap_i64]; omega
          have ecA : ((c : Int)).toNat = jNA := by omega
          have pcA : (0 : Int) ≤ (c : Int) := by omega
          have bcA : (c : Int) < (d0.size : Int) := by omega
          have rcA : IntKind.i64.wrap ((c : Int)) = (c : Int) := by rw [IntKind.wrap_i64]; omega
          obtain ⟨xA, hxA⟩ : ∃ x, x = d[pc]! := ⟨_, rfl⟩
          obtain ⟨yA, hyA⟩ : ∃ x, x = d[c]! := ⟨_, rfl⟩
          have laA := S1.out.cl R (by omega) (pc) (by omega)
          have lbA := S1.out.cl R (by omega) (c) (by omega)
          rw [← hxA, ← hiNA] at laA
          rw [← hyA, ← hjNA] at lbA
          rw [Nat.zero_add] at laA lbA
          have hcA := S1.out.cmp HC.out (by omega) xA yA
          have hvA : ¬ cfP r xA yA < 0 := by rw [cfP_lt, hxA, hyA]; exact hl
          have hdA : decide (cfP r xA yA < 0) = false := decide_eq_false hvA
          clear hxA hyA hiNA hjNA
          go_wp2_with fail
          go_quiet_grown (first | (go_at_fn g; refine Calls.grown_of (hcA _ _)))
          have SA : Aside (SW encP w0 blk 0 d (grow (wr.drewN nq) osq)) := S1.out.grown nq osq
          clear laA lbA hcA S1
          generalize grow (wr.drewN nq) osq = wA at SA ⊢
          clear nq osq
          clear eaA ecA
          clear hl
          go_wp2_with fail
          go_roundg (t - (c + 1))
          case measure => omega
          case rel => exact ⟨c + 1, t, by go_num, rfl, by omega, by omega, htr, Nat.le_refl _, SA, Or.inr HL.out, HJ⟩
      · have hltz : ¬ (s : Int) < (t : Int) := by omega
        have hste : s = t := by omega
        subst hste
        obtain ⟨e, he⟩ : ∃ e, e = m + mid - s := ⟨_, rfl⟩
        have ze : (mid : Int) + (m : Int) - (s : Int) = (e : Int) := by omega
        have hlo : s = a ∨ m + mid - s = b ∨ ¬ r (fa d (s - 1)) < r (fa d (m + mid - s)) := by
          rcases HI.out with h | h
          · first | exact Or.inl h | exact Or.inr (Or.inl (by omega))
          · exact Or.inr (Or.inr h)
        have hhi : s = mid ∨ s = m ∨ r (fa d s) < r (fa d (m + mid - s - 1)) := by
          rcases HJ.out with h | h
          · first | exact Or.inl h | exact Or.inr (Or.inl h)
          · exact Or.inr (Or.inr h)
        have hcut : Cutt r (fa d) a m b mid s := ⟨by omega, by omega, by omega, by omega, by omega, hlo, hhi⟩
        have cf := HCF.out s hcut
        have HW := hide (fun gg kk => HCW.out s gg kk hcut)
        rw [← he] at cf HW
        have HCFS := hide cf
        clear cf HCF HCW HI HJ hcut hlo hhi
        have hes1 : e + s ≤ m + mid := by omega
        have hes2 : m + mid ≤ e + s := by omega
        have has : a ≤ s := by omega
        have hsm : s ≤ m := by omega
        have hsd : s ≤ mid := by omega
        have heb : e ≤ b := by omega
        clear he hs1 hst htr hkx
        by_cases p1 : s < m
        · by_cases p2 : s < mid
          · by_cases p3 : a < s
            · by_cases p4 : e < b
              · have c1 : (s : Int) < (m : Int) := by omega
                have c2 : (m : Int) < (e : Int) := by omega
                have c4 : (s : Int) < (mid : Int) := by omega
                have c5 : (mid : Int) < (e : Int) := by omega
                have c3 : (a : Int) < (s : Int) := by omega
                have c6 : (e : Int) < (b : Int) := by omega
                have HA := hide (HRO.out s e wr S1.out (by omega) (by omega) (by omega))
                clear HRO S1
                go_wp2_with fail
                refine HA.out.mono ?_
                rintro _ wA ⟨rfl, dA, hdA, hfA, SA⟩
                clear HA
                have HFA := hide hfA
                clear hfA
                have HSA : Aside (SW encP w0 blk 0 dA wA) := SA
                clear SA
                have hB := HIH.out a s mid dA wA (by omega) hdA HSA.out (by omega) (by omega) (by omega) (by rw [HFA.out]; exact HCFS.out.s1) (by rw [HFA.out]; exact HCFS.out.s2) (by rw [HFA.out]; exact HCFS.out.l1)
                have HB := hide hB
                clear hB HSA
                go_wp2_with fail
                refine HB.out.mono ?_
                rintro _ wB ⟨rfl, dB, hdB, hsB, hrB, SB⟩
                clear HB
                rw [HFA.out] at hsB
                have HSM := hide hsB
                have HSR := hide hrB
                have HSB : Aside (SW encP w0 blk 0 dB wB) := SB
                clear hsB hrB SB
                have hR := HCFS.out.right (by omega) HSM.out
                have hD := HIH.out mid e b dB wB (by omega) hdB HSB.out (by omega) (by omega) (by omega) hR.1 hR.2.1 hR.2.2
                have HD := hide hD
                clear hD hR HSB
                go_wp2_with fail
                refine HD.out.mono ?_
                rintro _ wD ⟨rfl, dD, hdD, hsD, hrD, SD⟩
                have HX := hide (HW.out _ _ HSM.out HSR.out hsD hrD)
                clear HD hsD hrD
                go_wp2_with fail
                go_end0
                exact ⟨rfl, dD, hdD, HX.out.1, HX.out.2, SD⟩
              · have c1 : (s : Int) < (m : Int) := by omega
                have c2 : (m : Int) < (e : Int) := by omega
                have c4 : (s : Int) < (mid : Int) := by omega
                have c5 : (mid : Int) < (e : Int) := by omega
                have c3 : (a : Int) < (s : Int) := by omega
                have c6 : ¬ (e : Int) < (b : Int) := by omega
                have HA := hide (HRO.out s e wr S1.out (by omega) (by omega) (by omega))
                clear HRO S1
                go_wp2_with fail
                refine HA.out.mono ?_
                rintro _ wA ⟨rfl, dA, hdA, hfA, SA⟩
                clear HA
                have HFA := hide hfA
                clear hfA
                have HSA : Aside (SW encP w0 blk 0 dA wA) := SA
                clear SA
                have hB := HIH.out a s mid dA wA (by omega) hdA HSA.out (by omega) (by omega) (by omega) (by rw [HFA.out]; exact HCFS.out.s1) (by rw [HFA.out]; exact HCFS.out.s2) (by rw [HFA.out]; exact HCFS.out.l1)
                have HB := hide hB
                clear hB HSA
                go_wp2_with fail
                refine HB.out.mono ?_
                rintro _ wB ⟨rfl, dB, hdB, hsB, hrB, SB⟩
                clear HB
                rw [HFA.out] at hsB
                have HSM := hide hsB
                have HSR := hide hrB
                have HSB : Aside (SW encP w0 blk 0 dB wB) := SB
                clear hsB hrB SB
                have hR := HCFS.out.right (by omega) HSM.out
                have HX := hide (HW.out _ _ HSM.out HSR.out (SameOn.refl _ _ _) (hR.1.sub (Nat.le_refl _) (by omega)))
                clear hR
                go_wp2_with fail
                go_end0
                exact ⟨rfl, dB, hdB, HX.out.1, HX.out.2, HSB.out⟩
            · by_cases p4 : e < b
              · have c1 : (s : Int) < (m : Int) := by omega
                have c2 : (m : Int) < (e : Int) := by omega
                have c4 : (s : Int) < (mid : Int) := by omega
                have c5 : (mid : Int) < (e : Int) := by omega
                have c3 : ¬ (a : Int) < (s : Int) := by omega
                have c6 : (e : Int) < (b : Int) := by omega
                have HA := hide (HRO.out s e wr S1.out (by omega) (by omega) (by omega))
                clear HRO S1
                go_wp2_with fail
                refine HA.out.mono ?_
                rintro _ wA ⟨rfl, dA, hdA, hfA, SA⟩
                clear HA
                have HFA := hide hfA
                clear hfA
                have HSA : Aside (SW encP w0 blk 0 dA wA) := SA
                clear SA
                have HSM : Hid (SameOn (rot (fa d) s m e) (fa dA) a mid) := by unfold Hid; rw [HFA.out]; exact SameOn.refl _ _ _
                have HSR : Hid (Srt r (fa dA) a mid) := by unfold Hid; have x := HCFS.out.s2; rw [← HFA.out] at x; exact x.sub (by omega) (Nat.le_refl _)
                have HSB := HSA
                clear HSA
                have hR := HCFS.out.right (by omega) HSM.out
                have hD := HIH.out mid e b dA wA (by omega) hdA HSB.out (by omega) (by omega) (by omega) hR.1 hR.2.1 hR.2.2
                have HD := hide hD
                clear hD hR HSB
                go_wp2_with fail
                refine HD.out.mono ?_
                rintro _ wD ⟨rfl, dD, hdD, hsD, hrD, SD⟩
                have HX := hide (HW.out _ _ HSM.out HSR.out hsD hrD)
                clear HD hsD hrD
                go_wp2_with fail
                go_end0
                exact ⟨rfl, dD, hdD, HX.out.1, HX.out.2, SD⟩
              · have c1 : (s : Int) < (m : Int) := by omega
                have c2 : (m : Int) < (e : Int) := by omega
                have c4 : (s : Int) < (mid : Int) := by omega
                have c5 : (mid : Int) < (e : Int) := by omega
                have c3 : ¬ (a : Int) < (s : Int) := by omega
                have c6 : ¬ (e : Int) < (b : Int) := by omega
                have HA := hide (HRO.out s e wr S1.out (by omega) (by omega) (by omega))
                clear HRO S1
                go_wp2_with fail
                refine HA.out.mono ?_
                rintro _ wA ⟨rfl, dA, hdA, hfA, SA⟩
                clear HA
                have HFA := hide hfA
                clear hfA
                have HSA : Aside (SW encP w0 blk 0 dA wA) := SA
                clear SA
                have HSM : Hid (SameOn (rot (fa d) s m e) (fa dA) a mid) := by unfold Hid; rw [HFA.out]; exact SameOn.refl _ _ _
                have HSR : Hid (Srt r (fa dA) a mid) := by unfold Hid; have x := HCFS.out.s2; rw [← HFA.out] at x; exact x.sub (by omega) (Nat.le_refl _)
                have HSB := HSA
                clear HSA
                have hR := HCFS.out.right (by omega) HSM.out
                have HX := hide (HW.out _ _ HSM.out HSR.out (SameOn.refl _ _ _) (hR.1.sub (Nat.le_refl _) (by omega)))
                clear hR
                go_wp2_with fail
                go_end0
                exact ⟨rfl, dA, hdA, HX.out.1, HX.out.2, HSB.out⟩
          · have c1 : (s : Int) < (m : Int) := by omega
            have c2 : ¬ (m : Int) < (e : Int) := by omega
            have c3 : (a : Int) < (s : Int) := by omega
            have c4 : ¬ (s : Int) < (mid : Int) := by omega
            have c5 : (mid : Int) < (e : Int) := by omega
            have c6 : (e : Int) < (b : Int) := by omega
            have HFA : Hid (fa d = rot (fa d) s m e) := by
              unfold Hid; rw [show e = m by omega, rot_right]
            have SA := S1.out
            clear HRO S1
            have HSA : Aside (SW encP w0 blk 0 d wr) := SA
            clear SA
            have HSM : Hid (SameOn (rot (fa d) s m e) (fa d) a mid) := by unfold Hid; rw [← HFA.out]; exact SameOn.refl _ _ _
            have HSR : Hid (Srt r (fa d) a mid) := by unfold Hid; have x := HCFS.out.s1; rw [← HFA.out] at x; exact x.sub (Nat.le_refl _) (by omega)
            have HSB := HSA
            clear HSA
            have hR := HCFS.out.right (by omega) HSM.out
            have hD := HIH.out mid e b d wr (by omega) hds HSB.out (by omega) (by omega) (by omega) hR.1 hR.2.1 hR.2.2
            have HD := hide hD
            clear hD hR HSB
            go_wp2_with fail
            refine HD.out.mono ?_
            rintro _ wD ⟨rfl, dD, hdD, hsD, hrD, SD⟩
            have HX := hide (HW.out _ _ HSM.out HSR.out hsD hrD)
            clear HD hsD hrD
            go_wp2_with fail
            go_end0
            exact ⟨rfl, dD, hdD, HX.out.1, HX.out.2, SD⟩
        · by_cases p2 : s < mid
          · have c1 : ¬ (s : Int) < (m : Int) := by omega
            have c3 : (a : Int) < (s : Int) := by omega
            have c4 : (s : Int) < (mid : Int) := by omega
            have c5 : ¬ (mid : Int) < (e : Int) := by omega
            have HFA : Hid (fa d = rot (fa d) s m e) := by
              unfold Hid; rw [show s = m by omega, rot_left]
            have SA := S1.out
            clear HRO S1
            have HSA : Aside (SW encP w0 blk 0 d wr) := SA
            clear SA
            have hB := HIH.out a s mid d wr (by omega) hds HSA.out (by omega) (by omega) (by omega) (by rw [HFA.out]; exact HCFS.out.s1) (by rw [HFA.out]; exact HCFS.out.s2) (by rw [HFA.out]; exact HCFS.out.l1)
            have HB := hide hB
            clear hB HSA
            go_wp2_with fail
            refine HB.out.mono ?_
            rintro _ wB ⟨rfl, dB, hdB, hsB, hrB, SB⟩
            clear HB
            rw [HFA.out] at hsB
            have HSM := hide hsB
            have HSR := hide hrB
            have HSB : Aside (SW encP w0 blk 0 dB wB) := SB
            clear hsB hrB SB
            have hR := HCFS.out.right (by omega) HSM.out
            have HX := hide (HW.out _ _ HSM.out HSR.out (SameOn.refl _ _ _) (hR.2.1.sub (by omega) (Nat.le_refl _)))
            clear hR
            go_wp2_with fail
            go_end0
            exact ⟨rfl, dB, hdB, HX.out.1, HX.out.2, HSB.out⟩
          · have c1 : ¬ (s : Int) < (m : Int) := by omega
            have c3 : (a : Int) < (s : Int) := by omega
            have c4 : ¬ (s : Int) < (mid : Int) := by omega
            have c5 : ¬ (mid : Int) < (e : Int) := by omega
            have HFA : Hid (fa d = rot (fa d) s m e) := by
              unfold Hid; rw [show s = m by omega, rot_left]
            have SA := S1.out
            clear HRO S1
            have HSA : Aside (SW encP w0 blk 0 d wr) := SA
            clear SA
            have HSM : Hid (SameOn (rot (fa d) s m e) (fa d) a mid) := by unfold Hid; rw [← HFA.out]; exact SameOn.refl _ _ _
            have HSR : Hid (Srt r (fa d) a mid) := by unfold Hid; have x := HCFS.out.s1; rw [← HFA.out] at x; exact x.sub (Nat.le_refl _) (by omega)
            have HSB := HSA
            clear HSA
            have hR := HCFS.out.right (by omega) HSM.out
            have HX := hide (HW.out _ _ HSM.out HSR.out (SameOn.refl _ _ _) (hR.2.1.sub (by omega) (Nat.le_refl _)))
            clear hR
            go_wp2_with fail
            go_end0
            exact ⟨rfl, d, hds, HX.out.1, HX.out.2, HSB.out⟩

end Go.Proofs.YthpbadnedhjncaaDoor
