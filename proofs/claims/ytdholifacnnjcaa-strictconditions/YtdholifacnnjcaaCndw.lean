/- StrictConditions walked. -/
import Derived.Test.YtdholifacnnjcaaOks
namespace Go.Proofs.Ytdholifacnnjcaa
open Go.RowKit

theorem sel_sum {sg : List Int} (h : ∀ q : Nat, q < sg.length → sg.getD q 0 = 0 ∨ sg.getD q 0 = 1 ∨ sg.getD q 0 = 2) : (selM sg 1).length + (selM sg 2).length + (selM sg 0).length = sg.length := by
  have key : ∀ k, k ≤ sg.length → (selK sg 1 k).length + (selK sg 2 k).length + (selK sg 0 k).length = k := by
    intro k
    induction k with
    | zero => intro _; rfl
    | succ k ih =>
      intro hk
      have := ih (by omega)
      rw [selK_succ, selK_succ, selK_succ]
      rcases h k (by omega) with e | e | e
      · rw [e]; simp; omega
      · rw [e]; simp; omega
      · rw [e]; simp; omega
  exact key sg.length (Nat.le_refl _)
/-- What the law keeps. -/
structure Cst (pr mr fr cr tb : Nat) (P M Fm : List Bool) (C : List Int) (tx : List Value) (w : World) : Prop where
  fp : Fx pr 4 (bools P) w
  fm : Fx mr 4 (bools M) w
  ff : Fx fr 4 (bools Fm) w
  fc : Fx cr 3 (ints C) w
  tb : Fx tb 25 tx w
section
variable {pr mr fr cr tb : Nat} {P M Fm : List Bool} {C : List Int} {tx : List Value} {w w' : World}
theorem Cst.go (h : Cst pr mr fr cr tb P M Fm C tx w) (hb : Below w.heap.size w w') : Cst pr mr fr cr tb P M Fm C tx w' := ⟨h.fp.keep (hb.block _ h.fp.lt), h.fm.keep (hb.block _ h.fm.lt), h.ff.keep (hb.block _ h.ff.lt), h.fc.keep (hb.block _ h.fc.lt), h.tb.keep (hb.block _ h.tb.lt)⟩
theorem Cst.set (h : Cst pr mr fr cr tb P M Fm C tx w) (i : Nat) (v : Int) : Cst pr mr fr cr tb P M Fm (C.set i v) tx (w.setCell ⟨cr, i, none⟩ (.int .i64 v)) :=
  ⟨h.fp.keep (other_set (fx_ne h.fp h.fc (by decide))), h.fm.keep (other_set (fx_ne h.fm h.fc (by decide))), h.ff.keep (other_set (fx_ne h.ff h.fc (by decide))), by rw [← ints_set]; exact h.fc.set i _, h.tb.keep (other_set (fx_ne h.tb h.fc (by decide)))⟩
end
/-- What may be when k rules were looked at. -/
structure Can (T : Th) (F sg : List Int) (n k : Nat) (C : List Int) : Prop where
  ln : C.length = n
  one : ∀ z : Nat, z < n → (C.getD z 0 = 1 ↔ ((z : Int) ∈ F ∨ ∃ (a : Nat) (R : RuleM), a < k ∧ T.rules[a]? = some R ∧ R.kind = 1 ∧ R.head = (z : Int) ∧ ∀ x ∈ R.body, gi sg x = 1))
  nil : ∀ z : Nat, z < n → (C.getD z 0 = 0 ↔ ((z : Int) ∉ F ∧ ∀ (a : Nat) (R : RuleM), a < k → T.rules[a]? = some R → R.kind = 1 → R.head = (z : Int) → ∃ x ∈ R.body, gi sg x = 2))
/-- When k literals were looked at. -/
structure Ca0 (F : List Int) (n k : Nat) (C : List Int) : Prop where
  ln : C.length = n
  one : ∀ z : Nat, z < n → (C.getD z 0 = 1 ↔ (z < k ∧ (z : Int) ∈ F)) ∧ (C.getD z 0 = 0 ↔ ¬ (z < k ∧ (z : Int) ∈ F))
theorem Ca0.start (F : List Int) (n : Nat) : Ca0 F n 0 (List.replicate n 0) := ⟨by simp, fun z hz => by rw [rep0]; simp⟩
theorem Ca0.yes {F : List Int} {n k : Nat} {C : List Int} (h : Ca0 F n k C) (hk : k < n) (hf : (k : Int) ∈ F) : Ca0 F n (k + 1) (C.set k 1) := by
  refine ⟨by rw [List.length_set]; exact h.ln, fun z hz => ?_⟩
  rw [getD_set (by rw [h.ln]; exact hk)]
  by_cases e : z = k
  · subst e
    rw [if_pos rfl]
    exact ⟨⟨fun _ => ⟨by omega, hf⟩, fun _ => rfl⟩, ⟨fun h => by omega, fun h => absurd ⟨by omega, hf⟩ h⟩⟩
  · rw [if_neg e]
    have : z < k + 1 ↔ z < k := by omega
    rw [this]
    exact h.one z hz
theorem Ca0.no {F : List Int} {n k : Nat} {C : List Int} (h : Ca0 F n k C) (hf : (k : Int) ∉ F) : Ca0 F n (k + 1) C := by
  refine ⟨h.ln, fun z hz => ?_⟩
  have : (z < k + 1 ∧ (z : Int) ∈ F) ↔ (z < k ∧ (z : Int) ∈ F) := by
    constructor
    · rintro ⟨h1, h2⟩
      have : z ≠ k := by rintro rfl; exact hf h2
      exact ⟨by omega, h2⟩
    · rintro ⟨h1, h2⟩; exact ⟨by omega, h2⟩
  rw [this]
  exact h.one z hz
theorem Ca0.can {T : Th} {F sg : List Int} {n : Nat} {C : List Int} (h : Ca0 F n n C) : Can T F sg n 0 C := by
  refine ⟨h.ln, fun z hz => ?_, fun z hz => ?_⟩
  · rw [(h.one z hz).1]
    constructor
    · rintro ⟨_, h2⟩; exact .inl h2
    · rintro (h2 | ⟨a, R, ha, _⟩)
      · exact ⟨hz, h2⟩
      · omega
  · rw [(h.one z hz).2]
    constructor
    · intro h2; exact ⟨fun hf => h2 ⟨hz, hf⟩, fun a R ha => by omega⟩
    · rintro ⟨h2, _⟩ ⟨_, h3⟩; exact h2 h3
section
variable {T : Th} {F sg : List Int} {n k : Nat} {C : List Int} {R : RuleM}
theorem Can.skip (h : Can T F sg n k C) (hr : T.rules[k]? = some R) (hk : R.kind ≠ 1) : Can T F sg n (k + 1) C := by
  refine ⟨h.ln, fun z hz => ?_, fun z hz => ?_⟩
  · rw [h.one z hz]
    constructor
    · rintro (h | ⟨a, R', h1, h2⟩)
      · exact .inl h
      · exact .inr ⟨a, R', by omega, h2⟩
    · rintro (h | ⟨a, R', h1, h2, h3, h4⟩)
      · exact .inl h
      · have : a ≠ k := by rintro rfl; rw [hr] at h2; cases h2; exact hk h3
        exact .inr ⟨a, R', by omega, h2, h3, h4⟩
  · rw [h.nil z hz]
    constructor
    · rintro ⟨h1, h2⟩
      refine ⟨h1, fun a R' ha hR' hk' hh' => h2 a R' ?_ hR' hk' hh'⟩
      have : a ≠ k := by rintro rfl; rw [hr] at hR'; cases hR'; exact hk hk'
      omega
    · rintro ⟨h1, h2⟩
      exact ⟨h1, fun a R' ha => h2 a R' (by omega)⟩
/-- One strict rule more: all of its body +D; or one -D; or neither. -/
theorem Can.next (h : Can T F sg n k C) (hr : T.rules[k]? = some R) (hk : R.kind = 1) {y : Nat} (hy : R.head = (y : Int)) (hyn : y < n) {al de : Bool} (ha : al = true ↔ ∀ x ∈ R.body, gi sg x = 1) (hd : de = true ↔ ∃ x ∈ R.body, gi sg x = 2) :
    Can T F sg n (k + 1) (if al then C.set y 1 else if de then C else if C.getD y 0 = 0 then C.set y 2 else C) := by
  have hyl : y < C.length := by rw [h.ln]; exact hyn
  have hone : ∀ z : Nat, z < n → (((z : Int) ∈ F ∨ ∃ (a : Nat) (R : RuleM), a < k + 1 ∧ T.rules[a]? = some R ∧ R.kind = 1 ∧ R.head = (z : Int) ∧ ∀ x ∈ R.body, gi sg x = 1) ↔ (C.getD z 0 = 1 ∨ (z = y ∧ al = true))) := by
    intro z hz
    rw [h.one z hz]
    constructor
    · rintro (h | ⟨a, R', h1, h2, h3, h4, h5⟩)
      · exact .inl (.inl h)
      · by_cases e : a = k
        · subst e
          rw [hr] at h2
          cases h2
          exact .inr ⟨by omega, ha.2 h5⟩
        · exact .inl (.inr ⟨a, R', by omega, h2, h3, h4, h5⟩)
    · rintro ((h | ⟨a, R', h1, h2⟩) | ⟨rfl, h⟩)
      · exact .inl h
      · exact .inr ⟨a, R', by omega, h2⟩
      · exact .inr ⟨k, R, by omega, hr, hk, hy, ha.1 h⟩
  have hnil : ∀ z : Nat, z < n → (((z : Int) ∉ F ∧ ∀ (a : Nat) (R : RuleM), a < k + 1 → T.rules[a]? = some R → R.kind = 1 → R.head = (z : Int) → ∃ x ∈ R.body, gi sg x = 2) ↔ (C.getD z 0 = 0 ∧ (z = y → de = true))) := by
    intro z hz
    rw [h.nil z hz]
    constructor
    · rintro ⟨h1, h2⟩
      exact ⟨⟨h1, fun a R' ha' => h2 a R' (by omega)⟩, fun e => hd.2 (h2 k R (by omega) hr hk (by rw [hy, e]))⟩
    · rintro ⟨⟨h1, h2⟩, h3⟩
      refine ⟨h1, fun a R' ha' hR' hk' hh' => ?_⟩
      by_cases e : a = k
      · subst e
        rw [hr] at hR'
        cases hR'
        exact hd.1 (h3 (by omega))
      · exact h2 a R' (by omega) hR' hk' hh'
  have hnb : al = true → de = true → False := fun h1 h2 => by
    obtain ⟨x, hx, e⟩ := hd.1 h2
    have := ha.1 h1 x hx
    omega
  cases al with
  | true =>
    have hde : de = false := by cases de with | false => rfl | true => exact (hnb rfl rfl).elim
    subst hde
    refine ⟨by simp [h.ln], fun z hz => ?_, fun z hz => ?_⟩
    · rw [hone z hz, if_pos rfl, getD_set hyl]
      by_cases e : z = y
      · subst e; simp
      · simp [e]
    · rw [hnil z hz, if_pos rfl, getD_set hyl]
      by_cases e : z = y
      · subst e; simp
      · simp [e]
  | false =>
    cases de with
    | true =>
      refine ⟨by simp [h.ln], fun z hz => ?_, fun z hz => ?_⟩
      · rw [hone z hz]; simp
      · rw [hnil z hz]; simp
    | false =>
      simp only [Bool.false_eq_true, if_false]
      by_cases h0 : C.getD y 0 = 0
      · rw [if_pos h0]
        refine ⟨by simp [h.ln], fun z hz => ?_, fun z hz => ?_⟩
        · rw [hone z hz, getD_set hyl]
          by_cases e : z = y
          · subst e; simp; rw [List.getD_eq_getElem?_getD] at h0; rw [h0]; decide
          · simp [e]
        · rw [hnil z hz, getD_set hyl]
          by_cases e : z = y
          · subst e; simp
          · simp [e]
      · rw [if_neg h0]
        refine ⟨h.ln, fun z hz => ?_, fun z hz => ?_⟩
        · rw [hone z hz]; simp
        · rw [hnil z hz]
          by_cases e : z = y
          · subst e
            constructor
            · intro h; exact absurd h h0
            · rintro ⟨h1, h2⟩; exact h1
          · simp [e]
end
set_option maxRecDepth 100000 in
set_option maxHeartbeats 25600000 in
theorem conditions_walk {w : World} {T : Th} {F : List Int} {fa ra ba ea : Option Addr} {fc rc bc ec : Nat} (h : TA w.heap.size w T fa fc ra rc ba bc) (hF : Ints w.heap.size w F (.slice ea F.length ec)) :
    Calls Try.prog 3 #[tv T fa fc ra rc ba bc, .slice ea F.length ec] w fun e w' => e = .returned (.bool true) ∧ Below w.heap.size w w' := by
  obtain ⟨iB, hiB, zB0, zB1, zB2⟩ := info_parts infoBo
  obtain ⟨iI, hiI, zI0, zI1, zI2⟩ := info_parts infoI
  have HL0 := hide h
  have hFlim := hF.lim
  have hB := below_new w (.cells #[.int .i64 T.lits, .slice fa T.foes.length fc, .slice ra T.rules.length rc, .slice ba T.beats.length bc] 25)
  have hX := heap_alloc_new w (.cells #[.int .i64 T.lits, .slice fa T.foes.length fc, .slice ra T.rules.length rc, .slice ba T.beats.length bc] 25)
  have HLz : Hid (∀ X, Below (w.alloc (.cells #[.int .i64 T.lits, .slice fa T.foes.length fc, .slice ra T.rules.length rc, .slice ba T.beats.length bc] 25)).heap.size (w.alloc (.cells #[.int .i64 T.lits, .slice fa T.foes.length fc, .slice ra T.rules.length rc, .slice ba T.beats.length bc] 25)) X → TA X.heap.size X T fa fc ra rc ba bc) := hide fun X hX => TR.go hX (TR.go hB h)
  have HFz : Hid (∀ X, Below (w.alloc (.cells #[.int .i64 T.lits, .slice fa T.foes.length fc, .slice ra T.rules.length rc, .slice ba T.beats.length bc] 25)).heap.size (w.alloc (.cells #[.int .i64 T.lits, .slice fa T.foes.length fc, .slice ra T.rules.length rc, .slice ba T.beats.length bc] 25)) X → Ints X.heap.size X F (.slice ea F.length ec)) := hide fun X hX => Ints.go hX (Ints.go hB hF)
  have HXz : Hid (∀ X, Below (w.alloc (.cells #[.int .i64 T.lits, .slice fa T.foes.length fc, .slice ra T.rules.length rc, .slice ba T.beats.length bc] 25)).heap.size (w.alloc (.cells #[.int .i64 T.lits, .slice fa T.foes.length fc, .slice ra T.rules.length rc, .slice ba T.beats.length bc] 25)) X → X.heap[w.heap.size]? = some (.cells #[.int .i64 T.lits, .slice fa T.foes.length fc, .slice ra T.rules.length rc, .slice ba T.beats.length bc] 25 (0, 0))) := hide fun X hb => (hb.block _ (loc_lt hX)).trans hX
  have HB := hide hB
  obtain ⟨e0, he⟩ : ∃ a, faultM T F = a := ⟨_, rfl⟩
  have HE := hide he
  clear h hF hB hX he
  have CW := hide works_any
  go_enter Try.func3, Try.ntmps3
  go_upto_region 1 with fail
  generalize w.alloc (.cells #[.int .i64 T.lits, .slice fa T.foes.length fc, .slice ra T.rules.length rc, .slice ba T.beats.length bc] 25) = W at *
  go_upto_region 3 with (go_at_call 7; refine (CW.out _).mono ?_; rintro _ w1 ⟨rfl, hw1⟩; have HW1 := hide hw1; clear hw1)
  obtain ⟨-, c0, c1, c2, c3⟩ := Bt.of (HXz.out _ HW1.out)
  by_cases ha : e0 = 0
  · subst ha
    obtain ⟨-, hnm, hn, hn4, hrl, hbl, hfp⟩ := fault_ok HE.out
    obtain ⟨n, hnn⟩ : ∃ n, T.lits.toNat = n := ⟨_, rfl⟩
    rw [hnn] at hnm hn hn4
    have HN := hide hnn
    have HN2 := hide hn
    have HNM := hide hnm
    have HBL := hide hbl
    have HFP := hide hfp
    have HSL : Hid ((sgM T F).length = n) := hide (by rw [sgM_len, hnn])
    have hm := fun X => run_make_fix (P := Try.prog) Try.underlying26 hiI zI0 zI1 rfl n (by rw [zI2]; omega) (by unfold maxLen; omega) X
    have hsum := sel_sum (sg := sgM T F) (fun q hq => (sgM_at (by rw [sgM_len] at hq; exact hq)).2.2)
    rw [HSL.out] at hsum
    have HSP := hide (selM_in (sg := sgM T F) (i := 1))
    have HSM := hide (selM_in (sg := sgM T F) (i := 2))
    rw [HSL.out] at HSP HSM
    have HAT : Hid (∀ q : Nat, q < n → ((sgM T F).getD q 0 = 1 ↔ PD T F q) ∧ ((sgM T F).getD q 0 = 2 ↔ MD T F q)) := hide fun q hq => ⟨(sgM_at (by rw [hnn]; exact hq)).1, (sgM_at (by rw [hnn]; exact hq)).2.1⟩
    have CP := hide (plus_ok (HLz.out _ HW1.out) (HFz.out _ HW1.out) HE.out)
    have CM0 : Hid (∀ X, Below W.heap.size W X → Calls Try.prog 9 #[tv T fa fc ra rc ba bc, .slice ea F.length ec] X fun e w' => ∃ xa xc, e = .returned (.tuple #[.slice xa (selM (sgM T F) 2).length xc, .int .i64 0]) ∧ At1 w' xa (ints (selM (sgM T F) 2)) ∧ Below X.heap.size X w') := hide fun X hX => minus_ok (HLz.out _ hX) (HFz.out _ hX) HE.out
    have CZ0 : Hid (∀ X, Below W.heap.size W X → Calls Try.prog 10 #[tv T fa fc ra rc ba bc, .slice ea F.length ec] X fun e w' => ∃ xa xc, e = .returned (.tuple #[.slice xa (selM (sgM T F) 0).length xc, .int .i64 0]) ∧ At1 w' xa (ints (selM (sgM T F) 0)) ∧ Below X.heap.size X w') := hide fun X hX => neither_ok (HLz.out _ hX) (HFz.out _ hX) HE.out
    generalize selM (sgM T F) 1 = SP at *
    generalize selM (sgM T F) 2 = SM at *
    generalize selM (sgM T F) 0 = SZ at *
    clear hnm hn hbl hnn hfp
    go_upto_region 4 with (go_at_call 8; refine CP.out.mono ?_; rintro _ w2 ⟨xa, xc, rfl, hat, hw2⟩; have HA1 := hide hat; have HW2 := hide (HW1.out.trans (hw2.mono HW1.out.size)); clear hat hw2)
    clear c0 c1 c2 c3 CP
    obtain ⟨-, c0, c1, c2, c3⟩ := Bt.of (HXz.out _ HW2.out)
    have CM := hide (CM0.out _ HW2.out)
    go_upto_region 5 with (go_at_call 9; refine CM.out.mono ?_; rintro _ w3 ⟨ya, yc, rfl, hat, hw3⟩; have HA2 := hide hat; have HW3 := hide (HW2.out.trans (hw3.mono HW2.out.size)); have HA1' := hide (HA1.out.below hw3); clear hat hw3)
    clear c0 c1 c2 c3 CM HA1
    obtain ⟨-, c0, c1, c2, c3⟩ := Bt.of (HXz.out _ HW3.out)
    have CZ := hide (CZ0.out _ HW3.out)
    go_upto_region 8 with (go_at_call 10; refine CZ.out.mono ?_; rintro _ w4 ⟨za, zc, rfl, -, hw4⟩; have HW4 := hide (HW3.out.trans (hw4.mono HW3.out.size)); have HA1 := hide (HA1'.out.below hw4); have HA2' := hide (HA2.out.below hw4); clear hw4)
    clear c0 c1 c2 c3 CZ HA1' HA2
    obtain ⟨-, c0, c1, c2, c3⟩ := Bt.of (HXz.out _ HW4.out)
    rw [HN2.out] at c0
    have CK := hide (marked_any (c := xc) HA1.out hn4 (by omega) HSP.out.1 HSP.out.2.1)
    go_upto_region 9 with (go_at_call 11; refine CK.out.mono ?_; rintro _ w5 ⟨pr, P, rfl, hmk, hpf, -, hw5⟩; have HMP := hide hmk; have HPF := hide hpf; have HW5 := hide (HW4.out.trans (hw5.mono HW4.out.size)); have HA2 := hide (HA2'.out.below hw5); clear hmk hpf hw5)
    clear c0 c1 c2 c3 CK HA2' HA1
    obtain ⟨-, c0, c1, c2, c3⟩ := Bt.of (HXz.out _ HW5.out)
    rw [HN2.out] at c0
    have CK := hide (marked_any (c := yc) HA2.out hn4 (by omega) HSM.out.1 HSM.out.2.1)
    go_upto_region 10 with (go_at_call 11; refine CK.out.mono ?_; rintro _ w6 ⟨mr, M, rfl, hmk, hpf, -, hw6⟩; have HMM := hide hmk; have HMF := hide hpf; have HW6 := hide (HW5.out.trans (hw6.mono HW5.out.size)); have HPF6 := hide (HPF.out.keep (hw6.block _ HPF.out.lt)); clear hmk hpf hw6)
    clear c0 c1 c2 c3 CK HA2 HPF
    obtain ⟨-, c0, c1, c2, c3⟩ := Bt.of (HXz.out _ HW6.out)
    rw [HN2.out] at c0
    go_upto_region 12 with fail
    have CK := hide (marked_any (c := ec) (HFz.out _ HW6.out).at1 hn4 hFlim HNM.out.fact HFP.out)
    go_upto_region 13 with (go_at_call 11; refine CK.out.mono ?_; rintro _ w7 ⟨fr, Fm, rfl, hmk, hpf, -, hw7⟩; have HMFm := hide hmk; have HFF := hide hpf; have HW7 := hide (HW6.out.trans (hw7.mono HW6.out.size)); have HPF7 := hide (HPF6.out.keep (hw7.block _ HPF6.out.lt)); have HMF7 := hide (HMF.out.keep (hw7.block _ HMF.out.lt)); clear hmk hpf hw7)
    clear c0 c1 c2 c3 CK HPF6 HMF
    obtain ⟨-, c0, c1, c2, c3⟩ := Bt.of (HXz.out _ HW7.out)
    rw [HN2.out] at c0
    go_upto_region 15 with fail
    have hA := below_new w7 (.cells (Array.replicate n (.int .i64 0)) 3)
    obtain ⟨tx, htx⟩ : ∃ tx : List Value, tx = [.int .i64 T.lits, .slice fa T.foes.length fc, .slice ra T.rules.length rc, .slice ba T.beats.length bc] := ⟨_, rfl⟩
    have HTX := hide htx
    have HST : Hid (Cst pr mr fr w7.heap.size w.heap.size P M Fm (List.replicate n 0) tx (w7.alloc (.cells (Array.replicate n (.int .i64 0)) 3))) := hide ⟨HPF7.out.keep (hA.block _ HPF7.out.lt), HMF7.out.keep (hA.block _ HMF7.out.lt), HFF.out.keep (hA.block _ HFF.out.lt), by unfold Fx; rw [heap_alloc_new, ints_rep], by rw [htx]; exact (hA.block _ (loc_lt (HXz.out _ HW7.out))).trans (HXz.out _ HW7.out)⟩
    have HG0 := HB.out.trans (HW7.out.mono HB.out.size)
    have HBr : Hid (Below w.heap.size w (w7.alloc (.cells (Array.replicate n (.int .i64 0)) 3))) := hide (HG0.trans (hA.mono HG0.size))
    have HCL : Hid (w.heap.size ≤ w7.heap.size) := hide HG0.size
    generalize w7.alloc (.cells (Array.replicate n (.int .i64 0)) 3) = w8 at *
    clear hA c0 c1 c2 c3 hm HPF7 HMF7 HFF HG0 htx hsum
    generalize w7.heap.size = cr at *
    have HCT : Hid (∀ (C : List Int) (X : World), Cst pr mr fr cr w.heap.size P M Fm C tx X → X.cell? ⟨w.heap.size, 0, none⟩ = some (.int .i64 n) ∧ X.cell? ⟨w.heap.size, 2, none⟩ = some (.slice ra T.rules.length rc)) := hide fun C X h => ⟨by have := h.tb.get (i := 0) (v := .int .i64 T.lits) (by rw [HTX.out]; rfl); rw [HN2.out] at this; exact this, h.tb.get (i := 2) (by rw [HTX.out]; rfl)⟩
    go_loopw [18] (fun x wr => ∃ (k : Nat) (C : List Int), k ≤ n ∧ x = .int .i64 k ∧ Hid (Ca0 F n k C) ∧ Hid (Cst pr mr fr cr w.heap.size P M Fm C tx wr) ∧ Hid (Below w.heap.size w wr)) (fun x _ => n - (intOf x).toNat)
    case atStart => exact ⟨0, _, by omega, rfl, hide (Ca0.start F n), HST, HBr⟩
    case round =>
      clear HST HBr
      obtain ⟨k, C, hk, rfl, HC0, HST, HBr⟩ := hrel
      obtain ⟨ct, -⟩ := HCT.out _ _ HST.out
      by_cases hlt : k < n
      · have cf := HST.out.ff.get (bool_at (R := Fm) (k := k) (by rw [HMFm.out.ln]; exact hlt))
        have hfe := HMFm.out.at_ k hlt
        have HLT := hide hlt
        by_cases hin : (k : Int) ∈ F
        · have e1 : Fm.getD k false = true := by rw [hfe]; simpa using hin
          rw [e1] at cf
          have cc := HST.out.fc.get (int_at (l := C) (k := k) (by rw [HC0.out.ln]; exact hlt))
          have fc2 := HST.out.fc.frz k
          have HC1 := hide (HC0.out.yes hlt hin)
          have HS1 := hide (HST.out.set k 1)
          have HB1 := hide (HBr.out.setCell (p := ⟨cr, k, none⟩) HCL.out (.int .i64 1))
          clear hfe hin e1
          go_wp2_with fail
          go_roundw
          case rel => exact ⟨k + 1, _, by have := HLT.out; omega, by go_num, HC1, HS1, HB1⟩
          case measure => have := HLT.out; simp [intOf]; omega
        · have e1 : Fm.getD k false = false := by rw [hfe]; simpa using hin
          rw [e1] at cf
          have HC1 := hide (HC0.out.no hin)
          clear hfe hin e1
          go_wp2_with fail
          go_roundw
          case rel => exact ⟨k + 1, _, by have := HLT.out; omega, by go_num, HC1, HST, HBr⟩
          case measure => have := HLT.out; simp [intOf]; omega
      · have hkn : n = k := by omega
        subst hkn
        have HCN := hide (HC0.out.can (T := T) (sg := sgM T F))
        clear hlt
        go_upto_region 20 with fail
        clear ct
        go_loopw [19] (fun x wr => ∃ (k : Nat) (C : List Int), k ≤ T.rules.length ∧ x = .int .i64 k ∧ Hid (Can T F (sgM T F) n k C) ∧ Hid (Cst pr mr fr cr w.heap.size P M Fm C tx wr) ∧ Hid (Below w.heap.size w wr)) (fun x _ => T.rules.length - (intOf x).toNat)
        case atStart => exact ⟨0, C, by omega, rfl, HCN, HST, HBr⟩
        case round =>
          clear HCN HST HBr HC0
          obtain ⟨i, C, hi, rfl, HCN, HST, HBr⟩ := hrel
          obtain ⟨-, ct⟩ := HCT.out _ _ HST.out
          by_cases hil : i < T.rules.length
          · obtain ⟨r, hr⟩ := get_at hil
            obtain ⟨gr, go, bd, bp, rfl, hgr, x0, x1, x2, -, hbl2, hbody⟩ := at_R (Rules.keep HBr.out.block HL0.out.rules) hr
            have hmem := List.mem_of_getElem? hr
            have hA := below_new wr (.cells #[.int .i64 r.kind, .int .i64 r.head, .slice bd r.body.length bp] 36)
            have HQ : Hid (Fx wr.heap.size 36 [.int .i64 r.kind, .int .i64 r.head, .slice bd r.body.length bp] (wr.alloc (.cells #[.int .i64 r.kind, .int .i64 r.head, .slice bd r.body.length bp] 36))) := hide (heap_alloc_new wr _)
            have HSq := hide (HST.out.go hA)
            have HBq := hide (HBr.out.trans (hA.mono HBr.out.size))
            have HIL := hide hil
            have HRr := hide hr
            by_cases hk1 : r.kind = 1
            · have HNX : Hid (∀ al de : Bool, (al = true ↔ ∀ x ∈ r.body, gi (sgM T F) x = 1) → (de = true ↔ ∃ x ∈ r.body, gi (sgM T F) x = 2) → ∀ y : Nat, r.head = (y : Int) → y < n → Can T F (sgM T F) n (i + 1) (if al then C.set y 1 else if de then C else if C.getD y 0 = 0 then C.set y 2 else C)) := hide fun al de h1 h2 y h3 h4 => HCN.out.next hr hk1 h3 h4 h1 h2
              have hh := HNM.out.head r hmem
              have HBI := hide (HNM.out.body r hmem)
              have HBD := hide (hbody.keep fun g hg => (HBr.out.block g hg).symm)
              have hb16 := HBL.out r hmem
              obtain ⟨y, hy⟩ := Int.eq_ofNat_of_zero_le hh.1
              have hyn : y < n := by omega
              have HY := hide hy
              rw [hk1, hy] at HQ HSq HBq
              rw [hk1] at x0
              rw [hy] at x1
              clear hr hmem hA hbody hh hk1 hy hbl2 HST HBr
              go_upto_region 26 with fail
              generalize wr.alloc (.cells #[.int .i64 1, .int .i64 y, .slice bd r.body.length bp] 36) = wq at *
              generalize wr.heap.size = q0 at *
              clear x0 x1 x2 ct
              have y2 := HQ.out.get (i := 2) rfl
              go_loopw [21, 22, 23] (fun xa xd x wz => ∃ (j : Nat) (al de : Bool), j ≤ r.body.length ∧ xa = .bool al ∧ xd = .bool de ∧ x = .int .i64 j ∧ Hid (al = true ↔ ∀ x ∈ r.body.take j, gi (sgM T F) x = 1) ∧ Hid (de = true ↔ ∃ x ∈ r.body.take j, gi (sgM T F) x = 2) ∧ wz = wq) (fun _ _ x _ => r.body.length - (intOf x).toNat)
              case atStart => exact ⟨0, true, false, by omega, rfl, rfl, rfl, hide (by simp), hide (by simp), rfl⟩
              case round =>
                obtain ⟨j, al, de, hj, rfl, rfl, rfl, HAL, HDE, rfl⟩ := hrel
                by_cases hjl : j < r.body.length
                · obtain ⟨x, hx⟩ := get_at hjl
                  obtain ⟨gx, ox, rfl, hgx, cx⟩ := at_I (HBD.out.keep HBq.out.block) hx
                  obtain ⟨xm, rfl⟩ := Int.eq_ofNat_of_zero_le (HBI.out x (List.mem_of_getElem? hx)).1
                  have hxn : xm < n := by have := (HBI.out _ (List.mem_of_getElem? hx)).2; omega
                  have cp := HSq.out.fp.get (bool_at (R := P) (k := xm) (by rw [HMP.out.ln]; exact hxn))
                  have cm := HSq.out.fm.get (bool_at (R := M) (k := xm) (by rw [HMM.out.ln]; exact hxn))
                  obtain ⟨pb, hpb⟩ : ∃ b, P.getD xm false = b := ⟨_, rfl⟩
                  obtain ⟨mb, hmb⟩ : ∃ b, M.getD xm false = b := ⟨_, rfl⟩
                  have hp1 : pb = true ↔ gi (sgM T F) (xm : Int) = 1 := by rw [← hpb, HMP.out.at_ xm hxn, gi_nat, decide_eq_true_eq]; exact HSP.out.2.2 xm hxn
                  have hm1 : mb = true ↔ gi (sgM T F) (xm : Int) = 2 := by rw [← hmb, HMM.out.at_ xm hxn, gi_nat, decide_eq_true_eq]; exact HSM.out.2.2 xm hxn
                  rw [hpb] at cp
                  rw [hmb] at cm
                  have HN1 : Hid (al = true → (pb = true ↔ ∀ x ∈ r.body.take (j + 1), gi (sgM T F) x = 1)) := hide (by
                    intro e
                    have h1 := HAL.out.1 e
                    rw [take_snoc hx, hp1]
                    constructor
                    · intro h2 z hz
                      rcases List.mem_append.1 hz with hz | hz
                      · exact h1 z hz
                      · have : z = (xm : Int) := by simpa using hz
                        rw [this]; exact h2
                    · intro h2; exact h2 _ (by simp))
                  have HN1f : Hid (al = false → (false = true ↔ ∀ x ∈ r.body.take (j + 1), gi (sgM T F) x = 1)) := hide (by
                    intro e
                    constructor
                    · intro h; cases h
                    · intro h2
                      have := HAL.out.2 (fun z hz => h2 z (by rw [take_snoc hx]; exact List.mem_append_left _ hz))
                      rw [e] at this; cases this)
                  have HN2t : Hid (de = true → (true = true ↔ ∃ x ∈ r.body.take (j + 1), gi (sgM T F) x = 2)) := hide (by
                    intro e
                    obtain ⟨z, hz, e2⟩ := HDE.out.1 e
                    exact ⟨fun _ => ⟨z, by rw [take_snoc hx]; exact List.mem_append_left _ hz, e2⟩, fun _ => rfl⟩)
                  have HN2f : Hid (de = false → (mb = true ↔ ∃ x ∈ r.body.take (j + 1), gi (sgM T F) x = 2)) := hide (by
                    intro e
                    rw [take_snoc hx, hm1]
                    constructor
                    · intro h2; exact ⟨_, by simp, h2⟩
                    · rintro ⟨z, hz, e2⟩
                      rcases List.mem_append.1 hz with hz | hz
                      · have := HDE.out.2 ⟨z, hz, e2⟩
                        rw [e] at this; cases this
                      · have : z = (xm : Int) := by simpa using hz
                        rw [← this]; exact e2)
                  have HJL := hide hjl
                  clear hx hpb hmb hp1 hm1 HAL HDE
                  cases al <;> cases de
                  · go_wp2_with fail
                    go_roundw
                    case rel => exact ⟨j + 1, _, _, by have := HJL.out; omega, rfl, rfl, by go_num, hide (HN1f.out rfl), hide (HN2f.out rfl), by first | trivial | rfl⟩
                    case measure => have := HJL.out; simp [intOf]; omega
                  · go_wp2_with fail
                    go_roundw
                    case rel => exact ⟨j + 1, _, _, by have := HJL.out; omega, rfl, rfl, by go_num, hide (HN1f.out rfl), hide (HN2t.out rfl), by first | trivial | rfl⟩
                    case measure => have := HJL.out; simp [intOf]; omega
                  · go_wp2_with fail
                    go_roundw
                    case rel => exact ⟨j + 1, _, _, by have := HJL.out; omega, rfl, rfl, by go_num, hide (HN1.out rfl), hide (HN2f.out rfl), by first | trivial | rfl⟩
                    case measure => have := HJL.out; simp [intOf]; omega
                  · go_wp2_with fail
                    go_roundw
                    case rel => exact ⟨j + 1, _, _, by have := HJL.out; omega, rfl, rfl, by go_num, hide (HN1.out rfl), hide (HN2t.out rfl), by first | trivial | rfl⟩
                    case measure => have := HJL.out; simp [intOf]; omega
                · have hjb : r.body.take j = r.body := List.take_of_length_le (by omega)
                  have HN := hide (HNX.out al de (by have := HAL.out; rw [hjb] at this; exact this) (by have := HDE.out; rw [hjb] at this; exact this) y HY.out hyn)
                  have HNB : Hid (al = true → de = true → False) := hide (by
                    intro h1 h2
                    obtain ⟨z, hz, e2⟩ := HDE.out.1 h2
                    have := HAL.out.1 h1 z hz
                    omega)
                  have y1 := HQ.out.get (i := 1) rfl
                  have cc := HSq.out.fc.get (int_at (l := C) (k := y) (by rw [HCN.out.ln]; exact hyn))
                  have fc2 := HSq.out.fc.frz y
                  clear hjb HAL HDE
                  cases al with
                  | true =>
                    cases de with
                    | true => exact (HNB.out rfl rfl).elim
                    | false =>
                      have HS1 := hide (HSq.out.set y 1)
                      have HB1 := hide (HBq.out.setCell (p := ⟨cr, y, none⟩) HCL.out (.int .i64 1))
                      have HQ1 := hide (HQ.out.keep (other_set (i := y) (v := .int .i64 1) (fx_ne HQ.out HSq.out.fc (by decide))))
                      have y1' := HQ1.out.get (i := 1) rfl
                      have cc1 : (wr.setCell ⟨cr, y, none⟩ (.int .i64 1)).cell? ⟨cr, y, none⟩ = some (.int .i64 1) := HS1.out.fc.get (by unfold ints; rw [List.getElem?_map, List.getElem?_set_self (by rw [HCN.out.ln]; exact hyn)]; rfl)
                      go_wp2_with fail
                      go_roundw
                      case rel => exact ⟨i + 1, _, by have := HIL.out; omega, by go_num, HN, HS1, HB1⟩
                      case measure => have := HIL.out; simp [intOf]; omega
                  | false =>
                    cases de with
                    | true =>
                      go_wp2_with fail
                      go_roundw
                      case rel => exact ⟨i + 1, _, by have := HIL.out; omega, by go_num, HN, HSq, HBq⟩
                      case measure => have := HIL.out; simp [intOf]; omega
                    | false =>
                      by_cases h0 : C.getD y 0 = 0
                      · rw [h0] at cc
                        have HN2 : Hid (Can T F (sgM T F) n (i + 1) (C.set y 2)) := hide (by have := HN.out; rw [if_neg (by decide), if_neg (by decide), if_pos h0] at this; exact this)
                        have HS1 := hide (HSq.out.set y 2)
                        have HB1 := hide (HBq.out.setCell (p := ⟨cr, y, none⟩) HCL.out (.int .i64 2))
                        clear h0 HN
                        go_wp2_with fail
                        go_roundw
                        case rel => exact ⟨i + 1, _, by have := HIL.out; omega, by go_num, HN2, HS1, HB1⟩
                        case measure => have := HIL.out; simp [intOf]; omega
                      · have HN2 : Hid (Can T F (sgM T F) n (i + 1) C) := hide (by have := HN.out; rw [if_neg (by decide), if_neg (by decide), if_neg h0] at this; exact this)
                        have h1 : (C.getD y 0 == 0) = false := beq_eq_false_iff_ne.2 h0
                        clear h0 HN
                        generalize C.getD y 0 = cv at *
                        go_wp2_with fail
                        go_roundw
                        case rel => exact ⟨i + 1, C, by have := HIL.out; omega, by go_num, HN2, HSq, HBq⟩
                        case measure => have := HIL.out; simp [intOf]; omega
            · have hk2 : (r.kind != 1) = true := by simpa using hk1
              have HC1 := hide (HCN.out.skip hr hk1)
              clear hr hmem hA hbody hk1
              go_wp2_with fail
              go_roundw
              case rel => exact ⟨i + 1, C, by have := HIL.out; omega, by go_num, HC1, HSq, HBq⟩
              case measure => have := HIL.out; simp [intOf]; omega
          · have hin : i = T.rules.length := by omega
            subst hin
            clear hil
            go_upto_region 35 with fail
            clear ct
            go_loopw [24] (fun x wr => ∃ q : Nat, q ≤ n ∧ x = .int .i64 q ∧ Hid (Cst pr mr fr cr w.heap.size P M Fm C tx wr) ∧ Hid (Below w.heap.size w wr)) (fun x _ => n - (intOf x).toNat)
            case atStart => exact ⟨0, by omega, rfl, HST, HBr⟩
            case round =>
              clear HST HBr
              obtain ⟨q, hq, rfl, HST, HBr⟩ := hrel
              obtain ⟨ct, -⟩ := HCT.out _ _ HST.out
              by_cases hql : q < n
              · have HQL := hide hql
                have cp := HST.out.fp.get (bool_at (R := P) (k := q) (by rw [HMP.out.ln]; exact hql))
                have cm := HST.out.fm.get (bool_at (R := M) (k := q) (by rw [HMM.out.ln]; exact hql))
                have cc := HST.out.fc.get (int_at (l := C) (k := q) (by rw [HCN.out.ln]; exact hql))
                have hp1 : P.getD q false = true ↔ C.getD q 0 = 1 := by
                  rw [HMP.out.at_ q hql, decide_eq_true_eq, HSP.out.2.2 q hql, (HAT.out q hql).1, HCN.out.one q hql]
                  constructor
                  · intro h
                    rcases h.out with h | ⟨R, hR, hk, hh, hb⟩
                    · exact .inl h
                    · obtain ⟨a, ha, e⟩ := List.mem_iff_getElem.1 hR
                      refine .inr ⟨a, R, ha, by rw [List.getElem?_eq_getElem ha, e], hk, hh, fun x hx => ?_⟩
                      have hx0 := HNM.out.body R hR x hx
                      obtain ⟨xm, rfl⟩ := Int.eq_ofNat_of_zero_le hx0.1
                      rw [gi_nat]
                      exact (HAT.out xm (by omega)).1.2 (hb _ hx)
                  · rintro (h | ⟨a, R, ha, hR, hk, hh, hb⟩)
                    · exact .fact h
                    · have hmem := List.mem_of_getElem? hR
                      rw [← hh]
                      refine .rule hmem hk fun x hx => ?_
                      have hx0 := HNM.out.body R hmem x hx
                      have h1 := hb x hx
                      obtain ⟨xm, rfl⟩ := Int.eq_ofNat_of_zero_le hx0.1
                      rw [gi_nat] at h1
                      exact (HAT.out xm (by omega)).1.1 h1
                have hm1 : M.getD q false = true ↔ C.getD q 0 = 0 := by
                  rw [HMM.out.at_ q hql, decide_eq_true_eq, HSM.out.2.2 q hql, (HAT.out q hql).2, HCN.out.nil q hql]
                  constructor
                  · intro h
                    obtain ⟨h1, h2⟩ := h.out
                    refine ⟨h1, fun a R ha hR hk hh => ?_⟩
                    have hmem := List.mem_of_getElem? hR
                    obtain ⟨x, hx, hmx⟩ := h2 R hmem hk hh
                    have hx0 := HNM.out.body R hmem x hx
                    obtain ⟨xm, rfl⟩ := Int.eq_ofNat_of_zero_le hx0.1
                    exact ⟨_, hx, by rw [gi_nat]; exact (HAT.out xm (by omega)).2.2 hmx⟩
                  · rintro ⟨h1, h2⟩
                    refine MD.of h1 fun R hR hk hh => ?_
                    obtain ⟨a, ha, e⟩ := List.mem_iff_getElem.1 hR
                    obtain ⟨x, hx, e2⟩ := h2 a R ha (by rw [List.getElem?_eq_getElem ha, e]) hk hh
                    have hx0 := HNM.out.body R hR x hx
                    obtain ⟨xm, rfl⟩ := Int.eq_ofNat_of_zero_le hx0.1
                    rw [gi_nat] at e2
                    exact ⟨_, hx, (HAT.out xm (by omega)).2.1 e2⟩
                obtain ⟨pb, hpb⟩ : ∃ b, P.getD q false = b := ⟨_, rfl⟩
                obtain ⟨mb, hmb⟩ : ∃ b, M.getD q false = b := ⟨_, rfl⟩
                obtain ⟨cv, hcv⟩ : ∃ v, C.getD q 0 = v := ⟨_, rfl⟩
                rw [hpb, hcv] at hp1
                rw [hmb, hcv] at hm1
                rw [hpb] at cp
                rw [hmb] at cm
                rw [hcv] at cc
                have d1 : (cv == 1) = pb := by
                  cases pb with
                  | true => rw [hp1.1 rfl]; rfl
                  | false => exact beq_eq_false_iff_ne.2 fun e => by have := hp1.2 e; cases this
                have d2 : (cv == 0) = mb := by
                  cases mb with
                  | true => rw [hm1.1 rfl]; rfl
                  | false => exact beq_eq_false_iff_ne.2 fun e => by have := hm1.2 e; cases this
                have hnb : ¬ (pb = true ∧ mb = true) := by
                  rintro ⟨e1, e2⟩
                  have h1 := hp1.1 e1
                  have h2 := hm1.1 e2
                  omega
                clear hp1 hm1 hpb hmb hcv
                have hcs : (pb = true ∧ mb = false) ∨ (pb = false ∧ mb = true) ∨ (pb = false ∧ mb = false) := by
                  cases pb <;> cases mb
                  · exact .inr (.inr ⟨rfl, rfl⟩)
                  · exact .inr (.inl ⟨rfl, rfl⟩)
                  · exact .inl ⟨rfl, rfl⟩
                  · exact absurd ⟨rfl, rfl⟩ hnb
                clear hnb
                rcases hcs with ⟨rfl, rfl⟩ | ⟨rfl, rfl⟩ | ⟨rfl, rfl⟩
                · go_upto_region 37 with fail
                  go_quiet (fail)
                  have HST' : Hid (Cst pr mr fr cr w.heap.size P M Fm C tx (wr.drewN nq)) := hide ⟨HST.out.fp, HST.out.fm, HST.out.ff, HST.out.fc, HST.out.tb⟩
                  have HB' : Hid (Below w.heap.size w (wr.drewN nq)) := hide ⟨HBr.out.os, HBr.out.tape, HBr.out.output, HBr.out.size, HBr.out.block⟩
                  clear cp cm cc d1 d2 HST HBr ct
                  generalize wr.drewN nq = w9 at *
                  go_wp2_with fail
                  go_roundw
                  case rel => exact ⟨q + 1, by have := HQL.out; omega, by go_num, HST', HB'⟩
                  case measure => have := HQL.out; simp [intOf]; omega
                · go_upto_region 37 with fail
                  go_quiet (fail)
                  have HST' : Hid (Cst pr mr fr cr w.heap.size P M Fm C tx (wr.drewN nq)) := hide ⟨HST.out.fp, HST.out.fm, HST.out.ff, HST.out.fc, HST.out.tb⟩
                  have HB' : Hid (Below w.heap.size w (wr.drewN nq)) := hide ⟨HBr.out.os, HBr.out.tape, HBr.out.output, HBr.out.size, HBr.out.block⟩
                  clear cp cm cc d1 d2 HST HBr ct
                  generalize wr.drewN nq = w9 at *
                  go_wp2_with fail
                  go_roundw
                  case rel => exact ⟨q + 1, by have := HQL.out; omega, by go_num, HST', HB'⟩
                  case measure => have := HQL.out; simp [intOf]; omega
                · go_upto_region 37 with fail
                  go_quiet (fail)
                  have HST' : Hid (Cst pr mr fr cr w.heap.size P M Fm C tx (wr.drewN nq)) := hide ⟨HST.out.fp, HST.out.fm, HST.out.ff, HST.out.fc, HST.out.tb⟩
                  have HB' : Hid (Below w.heap.size w (wr.drewN nq)) := hide ⟨HBr.out.os, HBr.out.tape, HBr.out.output, HBr.out.size, HBr.out.block⟩
                  clear cp cm cc d1 d2 HST HBr ct
                  generalize wr.drewN nq = w9 at *
                  go_wp2_with fail
                  go_roundw
                  case rel => exact ⟨q + 1, by have := HQL.out; omega, by go_num, HST', HB'⟩
                  case measure => have := HQL.out; simp [intOf]; omega
              · go_wp2_with fail
                go_ret
                exact ⟨rfl, HBr.out⟩
  · have hab2 : (e0 != 0) = true := by simpa using ha
    have hab3 : (e0 == e0) = true := by simp
    have CH := hide (plus_no (HLz.out _ HW1.out) (HFz.out _ HW1.out) HE.out ha)
    go_upto_region 4 with (go_at_call 8; refine CH.out.mono ?_; rintro _ w2 ⟨rfl, hw2⟩; have HW2 := hide (HW1.out.trans (hw2.mono HW1.out.size)); clear hw2)
    clear c0 c1 c2 c3 CH
    obtain ⟨-, c0, c1, c2, c3⟩ := Bt.of (HXz.out _ HW2.out)
    have CN := hide (minus_no (HLz.out _ HW2.out) (HFz.out _ HW2.out) HE.out ha)
    go_upto_region 5 with (go_at_call 9; refine CN.out.mono ?_; rintro _ w3 ⟨rfl, hw3⟩; have HW3 := hide (HW2.out.trans (hw3.mono HW2.out.size)); clear hw3)
    clear c0 c1 c2 c3 CN
    obtain ⟨-, c0, c1, c2, c3⟩ := Bt.of (HXz.out _ HW3.out)
    have CN := hide (neither_no (HLz.out _ HW3.out) (HFz.out _ HW3.out) HE.out ha)
    go_wp2_with (go_at_call 10; refine CN.out.mono ?_; rintro _ w4 ⟨rfl, hw4⟩; have HW4 := hide (HW3.out.trans (hw4.mono HW3.out.size)); clear hw4)
    go_ret
    exact ⟨rfl, HB.out.trans (HW4.out.mono HB.out.size)⟩
end Go.Proofs.Ytdholifacnnjcaa
