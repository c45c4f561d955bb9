/- slices.symMergeCmpFunc where the left block is of one cell. -/
import Derived.Test.YthpbadnedhjncaaDoorSwap
namespace Go.Proofs.YthpbadnedhjncaaDoor
open Go.RowKit Go.Shelf Go.Lib Go.Sort

theorem cfP_lt {k : Nat} (r : Nat → Nat) (x y : Fin (k + 1)) : (cfP r x y < 0) ↔ r y.val < r x.val := by
  have := lt_iff r x y
  unfold ltOf at this
  exact ⟨fun h => of_decide_eq_true (this ▸ decide_eq_true h), fun h => of_decide_eq_true (this.symm ▸ decide_eq_true h)⟩

set_option maxHeartbeats 4000000 in
set_option maxRecDepth 1000000 in
theorem sym_left {k : Nat} (r : Nat → Nat) (g : Nat) (cb : Array Value) (blk cap a b : Nat) (d0 d : Array (Fin (k + 1))) (w0 w : World)
    (eg : ∀ args w, (callFunc g args).run Tryd.prog w = .ok (.enter g args) w) (hcmp : CmpLays1 Tryd.prog g cb encP (cfP (k := k) r) blk 0 d0.size w0)
    (R : Row1 encP w0 blk 0 d0) (hs : d0.size = d.size) (S : SW encP w0 blk 0 d w) (hab : a + 1 < b) (hb : b ≤ d.size) (hsz : d.size ≤ 4096)
    (hs2 : Srt r (fa d) (a + 1) b) (hl : ∀ j, a + 1 ≤ j → j < b → fa d a < fa d j) :
    Calls Tryd.prog 84 #[.slice (some ⟨blk, 0, none⟩) d.size cap, .int .i64 a, .int .i64 ((a : Int) + 1), .int .i64 b, .func (.func g) #[] cb] w fun e w' => e = .returned (.tuple #[]) ∧ ∃ d' : Array (Fin (k + 1)), d'.size = d.size ∧ SameOn (fa d) (fa d') a b ∧ Srt r (fa d') a b ∧ SW encP w0 blk 0 d' w' := by
  have mixed : Tryd.prog.follows .mixedOrders = true := by kernel_rfl
  have hcl0 := R.hO.cells
  simp only [Value.cells] at hcl0
  have hst := R.hO.store Tryd.prog
  have HC : Aside _ := hcmp
  have S0 : Aside (SW encP w0 blk 0 d w) := S
  have HM : Hid (∀ i, a + 1 ≤ i → i ≤ b → (i = a + 1 ∨ r (fa d a) < r (fa d (i - 1))) → (i = b ∨ ¬ r (fa d a) < r (fa d i)) → SameOn (fa d) (rot (fa d) a (a + 1) i) a b ∧ Srt r (rot (fa d) a (a + 1) i) a b) := fun i h1 h2 h3 h4 => merge_one_left hs2 h1 h2 hl h3 h4
  have e1 : (a : Int) + 1 - (a : Int) = 1 := by omega
  clear S hcmp hs2 hl
  go_enter Tryd.func84, Tryd.ntmps84
  go_wp2
  go_loopg [10, 11, 12] (b - a) (fun kx vi vj _vh wr => ∃ (i j : Nat), vi = .int .i64 (i : Int) ∧ vj = .int .i64 (j : Int) ∧ a + 1 ≤ i ∧ i ≤ j ∧ j ≤ b ∧ j - i ≤ kx ∧ Aside (SW encP w0 blk 0 d wr) ∧ Hid (i = a + 1 ∨ r (fa d a) < r (fa d (i - 1))) ∧ Hid (j = b ∨ ¬ r (fa d a) < r (fa d j)))
  case atStart => exact ⟨a + 1, b, by go_num, rfl, Nat.le_refl _, by omega, Nat.le_refl _, by omega, S0, Or.inl rfl, Or.inl rfl⟩
  case round =>
    clear S0
    obtain ⟨i, j, rfl, rfl, hi1, hij, hjb, hkx, S1, HI, HJ⟩ := hrel
    by_cases hlt : i < j
    · have hltz : (i : Int) < (j : Int) := by omega
      obtain ⟨h, hh⟩ : ∃ h, h = (i + j) / 2 := ⟨_, rfl⟩
      have zh : ((i : Int) + (j : Int)) / 2 = (h : Int) := by omega
      have hih : i ≤ h := by omega
      have hhj : h < j := by omega
      clear hh
      by_cases hl : r (fa d a) < r (fa d h)
      · go_wp2_with fail
        obtain ⟨iNA, hiNA⟩ : ∃ nn, nn = h := ⟨_, rfl⟩
        obtain ⟨jNA, hjNA⟩ : ∃ nn, nn = a := ⟨_, rfl⟩
        have eaA : ((h : Int)).toNat = iNA := by omega
        have paA : (0 : Int) ≤ (h : Int) := by omega
        have baA : (h : Int) < (d.size : Int) := by omega
        have raA : IntKind.i64.wrap ((h : Int)) = (h : Int) := by rw [IntKind.wrap_i64]; omega
        have ecA : ((a : Int)).toNat = jNA := by omega
        have pcA : (0 : Int) ≤ (a : Int) := by omega
        have bcA : (a : Int) < (d.size : Int) := by omega
        have rcA : IntKind.i64.wrap ((a : Int)) = (a : Int) := by rw [IntKind.wrap_i64]; omega
        obtain ⟨xA, hxA⟩ : ∃ x, x = d[h]! := ⟨_, rfl⟩
        obtain ⟨yA, hyA⟩ : ∃ x, x = d[a]! := ⟨_, rfl⟩
        have laA := S1.out.cl R (by omega) (h) (by omega)
        have lbA := S1.out.cl R (by omega) (a) (by omega)
        rw [← hxA, ← hiNA] at laA
        rw [← hyA, ← hjNA] at lbA
        rw [Nat.zero_add] at laA lbA
        have hcA := S1.out.cmp HC.out (by omega) xA yA
        have hvA : cfP r xA yA < 0 := by rw [cfP_lt, hxA, hyA]; exact hl
        have hdA : decide (cfP r xA yA < 0) = true := decide_eq_true hvA
        clear hxA hyA hiNA hjNA
        go_wp2_with fail
        go_quiet_grown (first | (go_at_fn g; refine Calls.grown_of (hcA _ _)))
        have SA : Aside (SW encP w0 blk 0 d (grow (wr.drewN nq) osq)) := S1.out.grown nq osq
        clear laA lbA hcA S1
        generalize grow (wr.drewN nq) osq = wA at SA ⊢
        clear nq osq
        clear eaA ecA
        have HL : Hid (r (fa d a) < r (fa d h)) := hl
        clear hl
        go_wp2_with fail
        go_roundg (j - (h + 1))
        case measure => omega
        case rel => exact ⟨h + 1, j, by go_num, rfl, by omega, by omega, hjb, Nat.le_refl _, SA, Or.inr HL.out, HJ⟩
      · go_wp2_with fail
        obtain ⟨iNA, hiNA⟩ : ∃ nn, nn = h := ⟨_, rfl⟩
        obtain ⟨jNA, hjNA⟩ : ∃ nn, nn = a := ⟨_, rfl⟩
        have eaA : ((h : Int)).toNat = iNA := by omega
        have paA : (0 : Int) ≤ (h : Int) := by omega
        have baA : (h : Int) < (d.size : Int) := by omega
        have raA : IntKind.i64.wrap ((h : Int)) = (h : Int) := by rw [IntKind.wrap_i64]; omega
        have ecA : ((a : Int)).toNat = jNA := by omega
        have pcA : (0 : Int) ≤ (a : Int) := by omega
        have bcA : (a : Int) < (d.size : Int) := by omega
        have rcA : IntKind.i64.wrap ((a : Int)) = (a : Int) := by rw [IntKind.wrap_i64]; omega
        obtain ⟨xA, hxA⟩ : ∃ x, x = d[h]! := ⟨_, rfl⟩
        obtain ⟨yA, hyA⟩ : ∃ x, x = d[a]! := ⟨_, rfl⟩
        have laA := S1.out.cl R (by omega) (h) (by omega)
        have lbA := S1.out.cl R (by omega) (a) (by omega)
        rw [← hxA, ← hiNA] at laA
        rw [← hyA, ← hjNA] at lbA
        rw [Nat.zero_add] at laA lbA
        have hcA := S1.out.cmp HC.out (by omega) xA yA
        have hvA : ¬ cfP r xA yA < 0 := by rw [cfP_lt, hxA, hyA]; exact hl
        have hdA : decide (cfP r xA yA < 0) = false := decide_eq_false hvA
        clear hxA hyA hiNA hjNA
        go_wp2_with fail
        go_quiet_grown (first | (go_at_fn g; refine Calls.grown_of (hcA _ _)))
        have SA : Aside (SW encP w0 blk 0 d (grow (wr.drewN nq) osq)) := S1.out.grown nq osq
        clear laA lbA hcA S1
        generalize grow (wr.drewN nq) osq = wA at SA ⊢
        clear nq osq
        clear eaA ecA
        have HL : Hid (¬ r (fa d a) < r (fa d h)) := hl
        clear hl
        go_wp2_with fail
        go_roundg (h - i)
        case measure => omega
        case rel => exact ⟨i, h, rfl, rfl, hi1, hih, by omega, Nat.le_refl _, SA, HI, Or.inr HL.out⟩
    · have hltz : ¬ (i : Int) < (j : Int) := by omega
      have hije : i = j := by omega
      subst hije
      have HX := hide (HM.out i hi1 hjb HI.out HJ.out)
      clear HM HI HJ
      go_wp2_with fail
      go_loopg [13] (i - 1 - a) (fun kx vk wr2 => ∃ (q : Nat) (dk : Array (Fin (k + 1))), vk = .int .i64 (q : Int) ∧ a ≤ q ∧ q ≤ i - 1 ∧ i - 1 - q ≤ kx ∧ dk.size = d.size ∧ Aside (SW encP w0 blk 0 dk wr2) ∧ Hid (fa dk = rot (fa d) a (a + 1) (q + 1)))
      case atStart => exact ⟨a, d, rfl, Nat.le_refl _, by omega, Nat.le_refl _, rfl, S1, (rot_right (fa d) a (a + 1)).symm⟩
      case round =>
        clear S1
        obtain ⟨q, dk, rfl, haq, hqi, hkx2, hds, S2, HE⟩ := hrel
        by_cases hq : q < i - 1
        · have hqz : (q : Int) < (i : Int) - 1 := by omega
          go_wp2_with fail
          obtain ⟨iNB, hiNB⟩ : ∃ nn, nn = q := ⟨_, rfl⟩
          obtain ⟨jNB, hjNB⟩ : ∃ nn, nn = q + 1 := ⟨_, rfl⟩
          have eaB : ((q : Int)).toNat = iNB := by omega
          have paB : (0 : Int) ≤ (q : Int) := by omega
          have baB : (q : Int) < (d.size : Int) := by omega
          have raB : IntKind.i64.wrap ((q : Int)) = (q : Int) := by rw [IntKind.wrap_i64]; omega
          have ecB : ((q : Int) + 1).toNat = jNB := by omega
          have pcB : (0 : Int) ≤ (q : Int) + 1 := by omega
          have bcB : (q : Int) + 1 < (d.size : Int) := by omega
          have rcB : IntKind.i64.wrap ((q : Int) + 1) = (q : Int) + 1 := by rw [IntKind.wrap_i64]; omega
          obtain ⟨xB, hxB⟩ : ∃ x, x = dk[q]! := ⟨_, rfl⟩
          obtain ⟨yB, hyB⟩ : ∃ x, x = dk[q + 1]! := ⟨_, rfl⟩
          have SB : Aside (SW encP w0 blk 0 (Go.Sort.swp dk (q) (q + 1)) ((wr.setCell ⟨blk, 0 + iNB, none⟩ (encP yB)).setCell ⟨blk, 0 + jNB, none⟩ (encP xB)).drew) := by rw [hiNB, hjNB, hxB, hyB]; exact S2.out.swapped R (q) (q + 1) (by omega) (by omega)
          have caB := S2.out.c1 R (by omega) (q) (by omega)
          have cbB := S2.out.c1 R (by omega) (q + 1) (by omega)
          have faB := S2.out.f1 R (by omega) (q) (by omega)
          have fbB := S2.out.f1 R (by omega) (q + 1) (by omega)
          obtain ⟨uB, ccB⟩ := S2.out.c2 R (by omega) (q) (q + 1) (by omega) (by omega) (encP yB)
          rw [← hjNB, ← hiNB] at ccB
          rw [← hxB, ← hiNB] at caB
          rw [← hyB, ← hjNB] at cbB
          rw [← hiNB] at faB
          rw [← hjNB] at fbB
          rw [Nat.zero_add] at caB cbB faB fbB
          rw [Nat.zero_add, Nat.zero_add] at ccB
          rw [Nat.zero_add, Nat.zero_add] at SB
          have HF : Hid (fa (Go.Sort.swp dk q (q + 1)) = rot (fa d) a (a + 1) (q + 2)) := by unfold Hid; rw [fa_swp dk _ _ (by omega) (by omega), HE.out, rot_on _ _ _ haq]
          clear S2 hxB hyB hiNB hjNB
          go_big_region_o
          clear caB cbB ccB faB fbB
          generalize ((wr.setCell ⟨blk, iNB, none⟩ (encP yB)).setCell ⟨blk, jNB, none⟩ (encP xB)).drew = wB at SB ⊢
          clear eaB ecB
          go_wp2
          go_roundg (i - 1 - (q + 1))
          case measure => omega
          case rel => exact ⟨q + 1, Go.Sort.swp dk q (q + 1), by go_num, by omega, by omega, Nat.le_refl _, by rw [size_swp']; exact hds, SB, HF⟩
        · have hqz : ¬ (q : Int) < (i : Int) - 1 := by omega
          have hqe : q + 1 = i := by omega
          rw [hqe] at HE
          go_wp2_with fail
          refine bodyPost_ret (results_none rfl _ _ _) rfl ?_
          refine ⟨rfl, dk, hds, ?_, ?_, S2.out⟩
          · rw [HE.out]; exact HX.out.1
          · rw [HE.out]; exact HX.out.2

end Go.Proofs.YthpbadnedhjncaaDoor
