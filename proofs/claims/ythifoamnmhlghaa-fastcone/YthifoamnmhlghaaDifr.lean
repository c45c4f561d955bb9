/- Differ, walked. -/
import Derived.Test.YthifoamnmhlghaaDifJ
import Derived.Test.YthifoamnmhlghaaInv9
namespace Go.Proofs.Ythifoamnmhlghaa.Fa
open Go.RowKit Rg

section
variable {w : World} {T : Th} {A B : List Int} {fa ra ba ea xa : Option Addr} {fc rc bc ec xc : Nat}
theorem run_marks {m : List Int} {n k : Nat} (h : TA w.heap.size w T fa fc ra rc ba bc) (hF : Ints w.heap.size w A (.slice ea A.length ec)) (hp : Pf T A n) (hs_ : Sol T A m k) :
    Calls Try.prog 18 #[tv T fa fc ra rc ba bc, .slice ea A.length ec] w fun o w' => ∃ K va, o = .returned (ptr K) ∧ w'.cell? ⟨K, 18, none⟩ = some (.slice va n n) ∧ w'.ownsRow 0 32 1 (.slice va n n) n (u8s m) ∧ Below w.heap.size w w' := by
  refine (run_ends (P := fun _ => True) h hF hp trivial fun _ _ _ _ => trivial).mono ?_
  rintro o w' ⟨K, va, e, rfl, -, h18, ⟨m2, k2, hs2, how, -⟩, -, -, -, -, hb⟩
  obtain rfl := sol_one hs2 hs_
  exact ⟨K, va, rfl, h18, owns_down how (Nat.zero_le _), hb⟩
set_option maxRecDepth 100000 in
set_option maxHeartbeats 12800000 in
theorem Differ_ok {mA mB : List Int} {n kA kB : Nat} (h : TA w.heap.size w T fa fc ra rc ba bc) (hA : Ints w.heap.size w A (.slice ea A.length ec)) (hB : Ints w.heap.size w B (.slice xa B.length xc)) (h0 : faultM T A = 0) (h1 : faultM T B = 0) (hn : T.lits.toNat = n) (hsA : Sol T A mA kA) (hsB : Sol T B mB kB) :
    Calls Try.prog 14 #[tv T fa fc ra rc ba bc, .slice ea A.length ec, .slice xa B.length xc] w fun e w' => ∃ va vc, e = .returned (.tuple #[.slice va (soL (difP mA mB) n).length vc, .int .i64 0]) ∧ w'.ownsRow w.heap.size 3 1 (.slice va (soL (difP mA mB) n).length vc) (soL (difP mA mB) n).length (ints (soL (difP mA mB) n)) ∧ Below w.heap.size w w' := by
  have hBw := below_new w (.cells #[.int .i64 T.lits, .slice fa T.foes.length fc, .slice ra T.rules.length rc, .slice ba T.beats.length bc] 25)
  have hX := heap_alloc_new w (.cells #[.int .i64 T.lits, .slice fa T.foes.length fc, .slice ra T.rules.length rc, .slice ba T.beats.length bc] 25)
  have CF := hide (fault_any (TR.go hBw h) (Ints.go hBw hA))
  rw [h0] at CF
  have hpA : Pf T A n := by rw [← hn]; exact pf_of h0
  have hpB : Pf T B n := by rw [← hn]; exact pf_of h1
  have HPA := hide hpA
  have HPB := hide hpB
  have HSA := hide hsA
  have HSB := hide hsB
  have HRB : Hid (risesM B T.lits = true) := hide (by
    unfold faultM at h1
    by_cases hc : (checkM T).1 ≠ 0
    · rw [if_pos hc] at h1; exact absurd h1 hc
    · rw [if_neg hc] at h1
      cases e : risesM B T.lits with
      | true => rfl
      | false => rw [e] at h1; simp at h1)
  have HTA := hide (TR.go hBw h)
  have HA := hide (Ints.go hBw hA)
  have HB := hide (Ints.go hBw hB)
  have HBw := hide hBw
  have HX := hide hX
  clear h hBw hA hB h0 h1 hn hpA hpB hsA hsB
  go_enter Try.func14, Try.ntmps14
  go_upto_region 1 with fail
  generalize w.alloc (.cells #[.int .i64 T.lits, .slice fa T.foes.length fc, .slice ra T.rules.length rc, .slice ba T.beats.length bc] 25) = W at *
  obtain ⟨-, c0, c1, c2, c3⟩ := Bt.of hX
  clear hX
  go_upto_region 4 with (go_at_call 17; refine CF.out.mono ?_; rintro _ w1 ⟨rfl, hw1⟩; have HW1 := hide hw1; clear hw1)
  have HX1 := hide ((HW1.out.block _ (loc_lt HX.out)).trans HX.out)
  have HTA1 := hide (TR.go HW1.out HTA.out)
  have HA1 := hide (Ints.go HW1.out HA.out)
  have HB1 := hide (Ints.go HW1.out HB.out)
  have HBw1 := hide (HBw.out.trans (HW1.out.mono HBw.out.size))
  have CC := hide (checkFacts_any (T := T) (fa := fa) (fc := fc) (ra := ra) (rc := rc) (ba := ba) (bc := bc) HB1.out)
  rw [HRB.out] at CC
  clear c0 c1 c2 c3 CF HX HTA HA HB HBw HW1
  obtain ⟨-, c0, c1, c2, c3⟩ := Bt.of HX1.out
  go_upto_region 7 with (go_at_call 22; refine CC.out.mono ?_; rintro _ w2 ⟨rfl, hw2⟩; have HW2 := hide hw2; clear hw2)
  have HX2 := hide ((HW2.out.block _ (loc_lt HX1.out)).trans HX1.out)
  have HTA2 := hide (TR.go HW2.out HTA1.out)
  have HA2 := hide (Ints.go HW2.out HA1.out)
  have HB2 := hide (Ints.go HW2.out HB1.out)
  have HBw2 := hide (HBw1.out.trans (HW2.out.mono HBw1.out.size))
  clear c0 c1 c2 c3 CC HX1 HTA1 HA1 HB1 HBw1 HW2
  have HCT : Hid (∀ X, Below w2.heap.size w2 X → X.cell? ⟨w.heap.size, 0, none⟩ = some (.int .i64 T.lits) ∧ X.cell? ⟨w.heap.size, 1, none⟩ = some (.slice fa T.foes.length fc) ∧ X.cell? ⟨w.heap.size, 2, none⟩ = some (.slice ra T.rules.length rc) ∧ X.cell? ⟨w.heap.size, 3, none⟩ = some (.slice ba T.beats.length bc)) := hide fun X hX => by
    obtain ⟨-, c0, c1, c2, c3⟩ := Bt.of ((hX.block _ (loc_lt HX2.out)).trans HX2.out)
    exact ⟨c0, c1, c2, c3⟩
  have CRA := hide fun (X : World) (hX : Below w2.heap.size w2 X) => run_marks (TR.go hX HTA2.out) (Ints.go hX HA2.out) HPA.out HSA.out
  have CRB := hide fun (X : World) (hX : Below w2.heap.size w2 X) => run_marks (TR.go hX HTA2.out) (Ints.go hX HB2.out) HPB.out HSB.out
  have e18 : Hid (∀ args w', (callFunc 18 args).run Try.prog w' = .ok (.enter 18 args) w') := hide (enters_go Try.func18 (by kernel_rfl) (by kernel_rfl))
  refine Rg2.region_j NoE (Jd w.heap.size n mA mB (tv T fa fc ra rc ba bc) (.slice ea A.length ec) (.slice xa B.length xc) w2) (by kernel_rfl) (by kernel_rfl) ?_ (Rg2.steps_j ⟨?_, ?_, ?_, ?_, ?_, ?_, ?_, ?_, ?_, ?_, ?_, ?_, ?_, ?_, ?_, ?_, trivial⟩) ?_ ?_
  · exact ⟨(Below.refl w2.heap.size w2).drew, rfl, rfl, rfl, fun i d _ hL => (by cases hL), fun hL => (by cases hL), fun hL => (by cases hL), fun hL => (by cases hL)⟩
  · intro ρ X L hc hf hL hd hcl hJ
    have k3 : ρ (.tmp 3) = ptr w.heap.size := hJ.s3
    obtain ⟨c0, c1, c2, c3⟩ := HCT.out X hJ.low
    refine does_value (v := .agg #[.int .i64 T.lits, .slice fa T.foes.length fc, .slice ra T.rules.length rc, .slice ba T.beats.length bc]) (w' := X) ?_ (hJ.put (i := 0) (d := 24) rfl hL (Below.refl _ _) (rfl) (fun e => absurd e (by decide)))
    clear hd hcl hJ hL
    go_simp
  · intro ρ X L hc hf hL hd hcl hJ
    have k1 : ρ (.tmp 1) = .slice ea A.length ec := hJ.s1
    refine does_value (v := .slice ea A.length ec) (w' := X) ?_ (hJ.put (i := 1) (d := 25) rfl hL (Below.refl _ _) (rfl) (fun e => absurd e (by decide)))
    clear hd hcl hJ hL
    go_simp
  · intro ρ X L hc hf hL hd hcl hJ
    have k24 : ρ (.tmp 24) = tv T fa fc ra rc ba bc := hJ.at_ 0 24 rfl (hd ⟨0, .data⟩ (by simp) rfl)
    have k25 : ρ (.tmp 25) = .slice ea A.length ec := hJ.at_ 1 25 rfl (hd ⟨1, .data⟩ (by simp) rfl)
    have hC := CRA.out X hJ.low
    have he := e18.out #[tv T fa fc ra rc ba bc, .slice ea A.length ec] X
    refine does_call (f := 18) (args := #[tv T fa fc ra rc ba bc, .slice ea A.length ec]) (w' := X) ?_ hC ?_
    · clear hd hcl hJ hL hC
      go_simp
    · rintro _ Y ⟨K, va, rfl, h18, how, hb⟩
      exact ⟨_, rfl, hJ.put (i := 2) (d := 26) rfl hL hb ⟨K, va, rfl, h18, how⟩ (fun e => absurd e (by decide))⟩
  · intro ρ X L hc hf hL hd hcl hJ
    have h1 : Rm n mA (ρ (.tmp 26)) X := hJ.at_ 2 26 rfl (hd ⟨2, .data⟩ (by simp) rfl)
    obtain ⟨K, va, k26, h18, how⟩ := h1
    refine does_value (v := ptr K) (w' := X) ?_ (hJ.put (i := 3) (d := 27) rfl hL (Below.refl _ _) ⟨K, va, rfl, h18, how⟩ (fun e => absurd e (by decide)))
    clear hd hcl hJ hL
    go_simp
  · intro ρ X L hc hf hL hd hcl hJ
    have h1 : Rm n mA (ρ (.tmp 27)) X := hJ.at_ 3 27 rfl (hd ⟨3, .data⟩ (by simp) rfl)
    obtain ⟨K, va, k27, h18, how⟩ := h1
    refine does_value (v := .pointer (some ⟨K, 18, none⟩)) (w' := X) ?_ (hJ.put (i := 4) (d := 28) rfl hL (Below.refl _ _) ⟨K, va, rfl, h18, how⟩ (fun e => absurd e (by decide)))
    clear hd hcl hJ hL
    go_simp
  · intro ρ X L hc hf hL hd hcl hJ
    have h1 : Rp n mA (ρ (.tmp 28)) X := hJ.at_ 4 28 rfl (hd ⟨4, .data⟩ (by simp) rfl)
    obtain ⟨K, va, k28, h18, how⟩ := h1
    refine does_value (v := .slice va n n) (w' := X) ?_ (hJ.put (i := 5) (d := 29) rfl hL (Below.refl _ _) ⟨va, rfl, how⟩ (fun e => absurd e (by decide)))
    clear hd hcl hJ hL
    go_simp
  · intro ρ X L hc hf hL hd hcl hJ
    have k3 : ρ (.tmp 3) = ptr w.heap.size := hJ.s3
    obtain ⟨c0, c1, c2, c3⟩ := HCT.out X hJ.low
    refine does_value (v := .agg #[.int .i64 T.lits, .slice fa T.foes.length fc, .slice ra T.rules.length rc, .slice ba T.beats.length bc]) (w' := X) ?_ (hJ.put (i := 6) (d := 30) rfl hL (Below.refl _ _) (rfl) (fun e => absurd e (by decide)))
    clear hd hcl hJ hL
    go_simp
  · intro ρ X L hc hf hL hd hcl hJ
    have k1 : ρ (.tmp 2) = .slice xa B.length xc := hJ.s2
    refine does_value (v := .slice xa B.length xc) (w' := X) ?_ (hJ.put (i := 7) (d := 31) rfl hL (Below.refl _ _) (rfl) (fun e => absurd e (by decide)))
    clear hd hcl hJ hL
    go_simp
  · intro ρ X L hc hf hL hd hcl hJ
    have k24 : ρ (.tmp 30) = tv T fa fc ra rc ba bc := hJ.at_ 6 30 rfl (hd ⟨6, .data⟩ (by simp) rfl)
    have k25 : ρ (.tmp 31) = .slice xa B.length xc := hJ.at_ 7 31 rfl (hd ⟨7, .data⟩ (by simp) rfl)
    have hC := CRB.out X hJ.low
    have he := e18.out #[tv T fa fc ra rc ba bc, .slice xa B.length xc] X
    refine does_call (f := 18) (args := #[tv T fa fc ra rc ba bc, .slice xa B.length xc]) (w' := X) ?_ hC ?_
    · clear hd hcl hJ hL hC
      go_simp
    · rintro _ Y ⟨K, va, rfl, h18, how, hb⟩
      exact ⟨_, rfl, hJ.put (i := 8) (d := 32) rfl hL hb ⟨K, va, rfl, h18, how⟩ (fun e => absurd e (by decide))⟩
  · intro ρ X L hc hf hL hd hcl hJ
    have h1 : Rm n mB (ρ (.tmp 32)) X := hJ.at_ 8 32 rfl (hd ⟨8, .data⟩ (by simp) rfl)
    obtain ⟨K, va, k26, h18, how⟩ := h1
    refine does_value (v := ptr K) (w' := X) ?_ (hJ.put (i := 9) (d := 33) rfl hL (Below.refl _ _) ⟨K, va, rfl, h18, how⟩ (fun e => absurd e (by decide)))
    clear hd hcl hJ hL
    go_simp
  · intro ρ X L hc hf hL hd hcl hJ
    have h1 : Rm n mB (ρ (.tmp 33)) X := hJ.at_ 9 33 rfl (hd ⟨9, .data⟩ (by simp) rfl)
    obtain ⟨K, va, k27, h18, how⟩ := h1
    refine does_value (v := .pointer (some ⟨K, 18, none⟩)) (w' := X) ?_ (hJ.put (i := 10) (d := 34) rfl hL (Below.refl _ _) ⟨K, va, rfl, h18, how⟩ (fun e => absurd e (by decide)))
    clear hd hcl hJ hL
    go_simp
  · intro ρ X L hc hf hL hd hcl hJ
    have h1 : Rp n mB (ρ (.tmp 34)) X := hJ.at_ 10 34 rfl (hd ⟨10, .data⟩ (by simp) rfl)
    obtain ⟨K, va, k28, h18, how⟩ := h1
    refine does_value (v := .slice va n n) (w' := X) ?_ (hJ.put (i := 11) (d := 35) rfl hL (Below.refl _ _) ⟨va, rfl, how⟩ (fun e => absurd e (by decide)))
    clear hd hcl hJ hL
    go_simp
  · intro ρ X L hc hf hL hd hcl hJ
    refine does_value (v := ptr X.heap.size) (w' := X.alloc (.cells #[.slice none 0 0] 28)) ?_ (hJ.put (i := 12) (d := 10) rfl hL (below_new _ _) ⟨X.heap.size, _, rfl, hJ.low.size, heap_alloc_new X _⟩ (fun _ => ⟨_, rfl, Nat.le_refl _⟩))
    clear hd hcl hJ hL
    go_simp
  · intro ρ X L hc hf hL hd hcl hJ
    refine does_value (v := ptr X.heap.size) (w' := X.alloc (.cells #[.slice none 0 0] 28)) ?_ (hJ.put (i := 13) (d := 11) rfl hL (below_new _ _) ⟨X.heap.size, _, rfl, hJ.low.size, heap_alloc_new X _⟩ (fun _ => ⟨_, rfl, Nat.le_refl _⟩))
    clear hd hcl hJ hL
    go_simp
  · intro ρ X L hc hf hL hd hcl hJ
    obtain ⟨b, x, k10, hfx, hJ2⟩ := hJ.fill1 (v := undef) (hd ⟨5, .data⟩ (by simp) rfl) (hd ⟨12, .data⟩ (by simp) rfl)
    have h1 : Mv n mA (ρ (.tmp 29)) X := hJ.at_ 5 29 rfl (hd ⟨5, .data⟩ (by simp) rfl)
    obtain ⟨va, k29, -⟩ := h1
    have c0 := hfx.get (i := 0) rfl
    have f0 := hfx.frz 0
    refine does_skip (w' := X.setCell ⟨b, 0, none⟩ (ρ (.tmp 29))) ?_ hJ2
    clear hd hcl hJ hJ2 hL
    go_simp
  · intro ρ X L hc hf hL hd hcl hJ
    obtain ⟨b, x, k10, hfx, hJ2⟩ := hJ.fill2 (v := undef) (hd ⟨11, .data⟩ (by simp) rfl) (hd ⟨13, .data⟩ (by simp) rfl)
    have h1 : Mv n mB (ρ (.tmp 35)) X := hJ.at_ 11 35 rfl (hd ⟨11, .data⟩ (by simp) rfl)
    obtain ⟨va, k29, -⟩ := h1
    have c0 := hfx.get (i := 0) rfl
    have f0 := hfx.frz 0
    refine does_skip (w' := X.setCell ⟨b, 0, none⟩ (ρ (.tmp 35))) ?_ hJ2
    clear hd hcl hJ hJ2 hL
    go_simp
  · intro c a' X _ hE
    exact hE.elim
  · rintro ⟨tmm, df⟩ w3 hsz hdf ⟨L, hL, hJ⟩ hold
    simp only at hdf hsz
    subst hdf
    obtain ⟨b1, b2, e10, e11, hb1, hb2, hlow⟩ := hJ.done (sol_len HPA.out HSA.out) (sol_len HPB.out HSB.out) (hL 14 (by decide)) (hL 15 (by decide))
    have e10 : tmm.getD 10 undef = ptr b1 := e10
    have e11 : tmm.getD 11 undef = ptr b2 := e11
    have htm := frame_keep 10 35 (by kernel_rfl) hsz hold
    simp only [zr, Nat.reduceLT, Nat.reduceAdd, true_or, or_true, or_self, if_true, if_false, e10, e11] at htm
    rw [htm]
    have CL := hide (literals_any (T := T) (fa := fa) (fc := fc) (ra := ra) (rc := rc) (ba := ba) (bc := bc) HPA.out.ln HPA.out.n4 (dif_ts hb1 hb2 HPA.out.n4))
    obtain ⟨c0, c1, c2, c3⟩ := HCT.out w3 hlow
    have HB3 := hide (HBw2.out.trans (hlow.mono HBw2.out.size))
    clear htm hJ hL hold hsz e10 e11 hb1 hb2 hlow HCT CRA CRB e18 HX2 HTA2 HA2 HB2 HBw2
    generalize tmm.getD 12 undef = x12
    generalize tmm.getD 13 undef = x13
    generalize tmm.getD 14 undef = x14
    generalize tmm.getD 15 undef = x15
    generalize tmm.getD 16 undef = x16
    generalize tmm.getD 17 undef = x17
    generalize tmm.getD 18 undef = x18
    generalize tmm.getD 19 undef = x19
    generalize tmm.getD 20 undef = x20
    generalize tmm.getD 21 undef = x21
    generalize tmm.getD 22 undef = x22
    generalize tmm.getD 23 undef = x23
    generalize tmm.getD 24 undef = x24
    generalize tmm.getD 25 undef = x25
    generalize tmm.getD 26 undef = x26
    generalize tmm.getD 27 undef = x27
    generalize tmm.getD 28 undef = x28
    generalize tmm.getD 29 undef = x29
    generalize tmm.getD 30 undef = x30
    generalize tmm.getD 31 undef = x31
    generalize tmm.getD 32 undef = x32
    generalize tmm.getD 33 undef = x33
    generalize tmm.getD 34 undef = x34
    generalize tmm.getD 35 undef = x35
    go_wp2_with (go_at_call 23; refine CL.out.mono ?_; rintro _ w4 ⟨va, vc, rfl, hown, hb4⟩; have HO := hide hown; have HB4 := hide hb4; clear hown hb4)
    go_ret2
    exact ⟨va, vc, rfl, owns_down HO.out HB3.out.size, HB3.out.trans (HB4.out.mono HB3.out.size)⟩
set_option maxRecDepth 100000 in
set_option maxHeartbeats 6400000 in
theorem Differ_bad (h : TA w.heap.size w T fa fc ra rc ba bc) (hA : Ints w.heap.size w A (.slice ea A.length ec)) (hB : Ints w.heap.size w B (.slice xa B.length xc)) (h0 : faultM T A ≠ 0 ∨ faultM T A = 0 ∧ risesM B T.lits = false) :
    Calls Try.prog 14 #[tv T fa fc ra rc ba bc, .slice ea A.length ec, .slice xa B.length xc] w fun e w' => ∃ c : Int, (c != 0) = true ∧ e = .returned (.tuple #[.slice none 0 0, .int .i64 c]) ∧ Below w.heap.size w w' := by
  have hBw := below_new w (.cells #[.int .i64 T.lits, .slice fa T.foes.length fc, .slice ra T.rules.length rc, .slice ba T.beats.length bc] 25)
  have hX := heap_alloc_new w (.cells #[.int .i64 T.lits, .slice fa T.foes.length fc, .slice ra T.rules.length rc, .slice ba T.beats.length bc] 25)
  have CF := hide (fault_any (TR.go hBw h) (Ints.go hBw hA))
  have HB := hide (Ints.go hBw hB)
  have HBw := hide hBw
  have HX := hide hX
  clear h hBw hA hB
  go_enter Try.func14, Try.ntmps14
  go_upto_region 1 with fail
  generalize w.alloc (.cells #[.int .i64 T.lits, .slice fa T.foes.length fc, .slice ra T.rules.length rc, .slice ba T.beats.length bc] 25) = W at *
  obtain ⟨-, c0, c1, c2, c3⟩ := Bt.of hX
  clear hX
  rcases h0 with h0 | ⟨h0, hr⟩
  · have hne : (faultM T A != 0) = true := by simpa using h0
    clear h0
    generalize faultM T A = e0 at *
    go_wp2_with (go_at_call 17; refine CF.out.mono ?_; rintro _ w1 ⟨rfl, hw1⟩; have HW1 := hide hw1; clear hw1)
    go_ret2
    exact ⟨e0, hne, rfl, HBw.out.trans (HW1.out.mono HBw.out.size)⟩
  · rw [h0] at CF
    have HR := hide hr
    clear h0 hr
    go_upto_region 4 with (go_at_call 17; refine CF.out.mono ?_; rintro _ w1 ⟨rfl, hw1⟩; have HW1 := hide hw1; clear hw1)
    have HX1 := hide ((HW1.out.block _ (loc_lt HX.out)).trans HX.out)
    have CC := hide (checkFacts_any (T := T) (fa := fa) (fc := fc) (ra := ra) (rc := rc) (ba := ba) (bc := bc) (Ints.go HW1.out HB.out))
    rw [HR.out] at CC
    have HB1 := hide (HBw.out.trans (HW1.out.mono HBw.out.size))
    clear c0 c1 c2 c3 CF HX HB HBw HW1
    obtain ⟨-, c0, c1, c2, c3⟩ := Bt.of HX1.out
    go_wp2_with (go_at_call 22; refine CC.out.mono ?_; rintro _ w2 ⟨rfl, hw2⟩; have HW2 := hide hw2; clear hw2)
    go_ret2
    exact ⟨181, rfl, rfl, HB1.out.trans (HW2.out.mono HB1.out.size)⟩
end
end Go.Proofs.Ythifoamnmhlghaa.Fa
