/- One step with both tables. -/
import Derived.Test.YtijpdoclmplclaaTwo
import Derived.BigFrame
import Derived.BigQuiet
import Derived.Deep.QuietTactic
namespace Go.Proofs.Ytijpdoclmplclaa
open Go.RowKit Go.Shelf Go.Maps

section
variable {w0 : World} {P R : Nat} {most : Int} {Z1 Z2 : Nat → Prop} {B M : Nat} {nv : Value} {d : Int} {sv av : Value} {l : List Bytes} {W : World}

/-- Both tables are there and the same. -/
def Both (w0 : World) (P R : Nat) (most : Int) (W : World) : Prop := ∃ (Z1 Z2 : Nat → Prop) (B M : Nat) (nv : Value) (d : Int) (sv av : Value) (l : List Bytes), Two w0 P R most Z1 Z2 B M nv d sv av l l W
abbrev stepV (what : Int) (s : ByteArray) (n : Int) : Value := .agg #[.int .i64 what, .string s, .int .i64 n]
abbrev stepB (what : Int) (s : ByteArray) (n : Int) (W : World) : World := W.alloc (.cells #[.int .i64 what, .string s, .int .i64 n] 37)

theorem below_box (what : Int) (s : ByteArray) (n : Int) (W : World) : Below W.heap.size W (stepB what s n W) := (Below.refl _ _).alloc (Nat.le_refl _) _
theorem box_cells {what : Int} {s : ByteArray} {n : Int} {W W' : World} (h : W'.heap[W.heap.size]? = (stepB what s n W).heap[W.heap.size]?) : W'.cell? ⟨W.heap.size, 0, none⟩ = some (.int .i64 what) ∧ W'.cell? ⟨W.heap.size, 1, none⟩ = some (.string s) ∧ W'.cell? ⟨W.heap.size, 2, none⟩ = some (.int .i64 n) := by
  have hb : W'.heap[W.heap.size]? = some (.cells #[.int .i64 what, .string s, .int .i64 n] 37 (0, 0)) := h.trans (heap_alloc_new W _)
  exact ⟨cell_of_row _ _ 0 _ _ _ hb, cell_of_row _ _ 1 _ _ _ hb, cell_of_row _ _ 2 _ _ _ hb⟩

set_option maxRecDepth 100000 in
set_option maxHeartbeats 6400000 in
theorem does_add (h : Two w0 P R most Z1 Z2 B M nv d sv av l l W) (s : ByteArray) (n : Int) :
    Calls Try.prog 15 #[ptr P, ptr R, stepV 0 s n] W fun e W' => e = .returned (.bool true) ∧ Both w0 P R most W' := by
  have h1 := (h.fit0.below (below_box 0 s n W)).fit1
  have hbx : ¬ (fun k => ((Z1 k ∧ k < W.heap.size) ∧ k < (stepB 0 s n W).heap.size) ∨ (stepB 0 s n W).heap.size ≤ k) W.heap.size := by
    rintro (a | a)
    · have := a.1.2; omega
    · simp at a; omega
  have hz : ∀ g, (stepB 0 s n W).heap.size ≤ g → (fun k => ((Z1 k ∧ k < W.heap.size) ∧ k < (stepB 0 s n W).heap.size) ∨ (stepB 0 s n W).heap.size ≤ k) g := fun g hg => .inr hg
  generalize (fun k => ((Z1 k ∧ k < W.heap.size) ∧ k < (stepB 0 s n W).heap.size) ∨ (stepB 0 s n W).heap.size ≤ k) = Y1 at h1 hbx hz
  generalize (fun k => (Z2 k ∧ k < W.heap.size) ∧ k < (stepB 0 s n W).heap.size) = Y2 at h1
  have CA : Hid (∀ Wx, Below (stepB 0 s n W).heap.size (stepB 0 s n W) Wx → Calls Try.prog 22 #[ptr B, .string s] Wx fun e w' => e = .returned (.tuple #[.int .i64 (addM most l s.data.toList).1, .int .i64 (addM most l s.data.toList).2.1]) ∧
      Hid (∃ nv' d' sv', Two w0 P R most Y1 Y2 B M nv' d' sv' av (addM most l s.data.toList).2.2 l w') ∧ w'.cell? ⟨W.heap.size, 1, none⟩ = some (.string s)) := by
    intro Wx hb
    have h2 := h1.below hb
    refine (add_any h2.tab s fun g hg => hz g (Nat.le_trans hb.size hg)).mono ?_
    rintro e w' ⟨he, ⟨nv', d', sv', hT⟩, hf⟩
    have hlt : W.heap.size < (stepB 0 s n W).heap.size := by simp
    exact ⟨he, hide ⟨nv', d', sv', h2.step1 hT hf⟩, (box_cells ((hf.block _ (Nat.lt_of_lt_of_le hlt hb.size) hbx).trans (hb.block _ hlt))).2.1⟩
  have CR : Hid (∀ nv' d' sv' w', Two w0 P R most Y1 Y2 B M nv' d' sv' av (addM most l s.data.toList).2.2 l w' → Calls Try.prog 35 #[ptr R, .string s] w' fun e w'' => e = .returned (.tuple #[.int .i64 (addM most l s.data.toList).1, .int .i64 (addM most l s.data.toList).2.1]) ∧
      Hid (Both w0 P R most w'')) := by
    intro nv' d' sv' w' ht
    have h2 := ht.fit2
    refine (radd_any h2.ref s fun g hg => .inr hg).mono ?_
    rintro e w'' ⟨he, ⟨av', hT⟩, hf⟩
    exact ⟨he, hide ⟨_, _, _, _, _, _, _, _, _, h2.step2 hT hf⟩⟩
  generalize (addM most l s.data.toList).1 = an at CA CR
  generalize (addM most l s.data.toList).2.1 = ae at CA CR
  generalize (addM most l s.data.toList).2.2 = l' at CA CR
  obtain ⟨p0, pf⟩ := h1.cellP
  obtain ⟨k0, k1, k2⟩ := box_cells (W := W) (what := 0) (s := s) (n := n) rfl
  have CN := hide num_any
  have BD : Hid (Below (stepB 0 s n W).heap.size (stepB 0 s n W) (stepB 0 s n W).drew) := (Below.refl _ _).drew
  clear h h1 hz hbx
  go_enter Try.func15, Try.ntmps15
  go_upto_region 3 with fail
  go_cut [7, 8] from 24 to 32 (fun x y wc => x = .int .i64 an ∧ y = .int .i64 ae ∧ Hid (∃ nv' d' sv', Two w0 P R most Y1 Y2 B M nv' d' sv' av l' l wc) ∧ wc.cell? ⟨W.heap.size, 1, none⟩ = some (.string s))
  case first =>
    go_region_with (go_at_call 22; refine (CA.out _ BD.out).mono ?_; rintro _ w1 ⟨rfl, HT1, q1⟩)
    all_goals (go_wp2_with fail; go_meet)
    all_goals exact ⟨rfl, rfl, HT1, q1⟩
  case rest =>
    obtain ⟨rfl, rfl, HT1, q1⟩ := hcut
    obtain ⟨nv', d', sv', ht⟩ := HT1.out
    have C2 := hide (CR.out nv' d' sv' wc ht)
    clear ht HT1 CA CR
    go_wp2_with fail
    refine C2.out.mono ?_
    rintro _ w3 ⟨rfl, HB3⟩
    clear q1 C2
    go_wp2_with (go_at_call 13; refine (CN.out _ _).mono ?_; rintro _ wn ⟨rfl, hwn⟩; subst wn)
    go_ret
    exact ⟨rfl, HB3.out⟩

set_option maxRecDepth 100000 in
set_option maxHeartbeats 6400000 in
theorem does_find (h : Two w0 P R most Z1 Z2 B M nv d sv av l l W) (s : ByteArray) (n : Int) (hs : s.size ≤ maxLen) :
    Calls Try.prog 15 #[ptr P, ptr R, stepV 1 s n] W fun e W' => e = .returned (.bool true) ∧ Both w0 P R most W' := by
  have h1 := h.fit0.below (below_box 1 s n W)
  have HE : Hid (∀ q, Both w0 P R most ((stepB 1 s n W).drewN q)) := hide fun q => ⟨_, _, _, _, _, _, _, _, _, h1.below (below_drewN _ q)⟩
  have CA := hide fun q => find_any (h1.below (below_drewN _ q)).tab s hs
  have CR := hide fun q => rfind_any (h1.below (below_drewN _ q)).ref s
  generalize (posB l s.data.toList : Int) = an at CA CR
  generalize decide (s.data.toList ∈ l) = ab at CA CR
  obtain ⟨p0, pf⟩ := h1.cellP
  obtain ⟨k0, k1, k2⟩ := box_cells (W := W) (what := 1) (s := s) (n := n) rfl
  clear h h1
  go_enter Try.func15, Try.ntmps15
  go_upto_region 7 with fail
  go_quiet ((go_at_call 23; exact Calls.quiet_of_same (CA.out _)))
  go_wp2_with (go_at_call 36; refine (CR.out _).mono ?_; rintro _ w1 ⟨rfl, hw1⟩; subst w1)
  go_ret
  exact ⟨rfl, HE.out _⟩

set_option maxRecDepth 100000 in
set_option maxHeartbeats 6400000 in
theorem does_name (h : Two w0 P R most Z1 Z2 B M nv d sv av l l W) (s : ByteArray) (n : Int) :
    Calls Try.prog 15 #[ptr P, ptr R, stepV 2 s n] W fun e W' => e = .returned (.bool true) ∧ Both w0 P R most W' := by
  have h1 := h.fit0.below (below_box 2 s n W)
  have CA : Hid (∀ Wx, Below (stepB 2 s n W).heap.size (stepB 2 s n W) Wx → Calls Try.prog 24 #[ptr B, .int .i64 n] Wx fun e w' => e = .returned (.tuple #[str (nameM l n).1, .int .i64 (nameM l n).2]) ∧
      Hid (Two w0 P R most (fun k => Z1 k ∧ k < W.heap.size) (fun k => Z2 k ∧ k < W.heap.size) B M nv d sv av l l w') ∧ w'.cell? ⟨W.heap.size, 2, none⟩ = some (.int .i64 n)) := by
    intro Wx hb
    have h2 := h1.below hb
    refine (name_any h2.tab n).mono ?_
    rintro e w' ⟨he, hb'⟩
    have hlt : W.heap.size < (stepB 2 s n W).heap.size := by simp
    exact ⟨he, hide (h2.below hb'), (box_cells ((hb'.block _ (Nat.lt_of_lt_of_le hlt hb.size)).trans (hb.block _ hlt))).2.2⟩
  have CR := hide fun w' (h : Two w0 P R most (fun k => Z1 k ∧ k < W.heap.size) (fun k => Z2 k ∧ k < W.heap.size) B M nv d sv av l l w') => rname_any h.ref n
  generalize (nameM l n).1 = an at CA CR
  generalize (nameM l n).2 = ae at CA CR
  unfold str at CA CR
  obtain ⟨p0, pf⟩ := h1.cellP
  obtain ⟨k0, k1, k2⟩ := box_cells (W := W) (what := 2) (s := s) (n := n) rfl
  have CN := hide num_any
  have BD : Hid (Below (stepB 2 s n W).heap.size (stepB 2 s n W) (stepB 2 s n W).drew) := (Below.refl _ _).drew
  clear h h1
  go_enter Try.func15, Try.ntmps15
  go_upto_region 11 with fail
  go_cut [15, 16] from 77 to 85 (fun x y wc => x = .string ⟨an.toArray⟩ ∧ y = .int .i64 ae ∧ Hid (Two w0 P R most (fun k => Z1 k ∧ k < W.heap.size) (fun k => Z2 k ∧ k < W.heap.size) B M nv d sv av l l wc) ∧ wc.cell? ⟨W.heap.size, 2, none⟩ = some (.int .i64 n))
  case first =>
    go_region_with (go_at_call 24; refine (CA.out _ BD.out).mono ?_; rintro _ w1 ⟨rfl, HT1, q1⟩)
    all_goals (go_wp2_with fail; go_meet)
    all_goals exact ⟨rfl, rfl, HT1, q1⟩
  case rest =>
    obtain ⟨rfl, rfl, HT1, q1⟩ := hcut
    have C2 := hide (CR.out wc HT1.out)
    clear CA CR
    go_wp2_with fail
    refine C2.out.mono ?_
    rintro _ w3 ⟨rfl, hw3⟩
    subst w3
    clear q1 C2
    go_wp2_with (go_at_call 13; refine (CN.out _ _).mono ?_; rintro _ wn ⟨rfl, hwn⟩; subst wn)
    go_ret
    exact ⟨rfl, ⟨_, _, _, _, _, _, _, _, _, HT1.out⟩⟩

set_option maxRecDepth 100000 in
set_option maxHeartbeats 6400000 in
theorem does_sorted (h : Two w0 P R most Z1 Z2 B M nv d sv av l l W) (s : ByteArray) (n : Int) :
    Calls Try.prog 15 #[ptr P, ptr R, stepV 3 s n] W fun e W' => e = .returned (.bool true) ∧ Both w0 P R most W' := by
  have h1 := (h.fit0.below (below_box 3 s n W)).fit1
  have hz : ∀ g, (stepB 3 s n W).heap.size ≤ g → (fun k => ((Z1 k ∧ k < W.heap.size) ∧ k < (stepB 3 s n W).heap.size) ∨ (stepB 3 s n W).heap.size ≤ k) g := fun g hg => .inr hg
  generalize (fun k => ((Z1 k ∧ k < W.heap.size) ∧ k < (stepB 3 s n W).heap.size) ∨ (stepB 3 s n W).heap.size ≤ k) = Y1 at h1 hz
  generalize (fun k => (Z2 k ∧ k < W.heap.size) ∧ k < (stepB 3 s n W).heap.size) = Y2 at h1
  have H1 := hide h1
  have C1 := hide (sorted_any h1.tab hz)
  have HL := hide h1.tab.len2
  have HND := hide h1.tab.nodup
  obtain ⟨p0, pf⟩ := h1.cellP
  obtain ⟨k0, k1, k2⟩ := box_cells (W := W) (what := 3) (s := s) (n := n) rfl
  clear h h1 hz
  go_enter Try.func15, Try.ntmps15
  go_wp2_with fail
  refine C1.out.mono ?_
  rintro _ w2 ⟨va, vc, n0, sv2, rfl, hr2, hn2, hT2, hf2⟩
  have H2 := hide (H1.out.step1 (hT2.mono fun k _ h => h.1) hf2)
  have HR2 := hide (own_zero hr2)
  have C2 := hide (rsorted_any H2.out.ref HND.out)
  clear hr2 hn2 hT2 hf2 C1 H1 p0 pf k0 k1 k2
  go_wp2_with fail
  refine C2.out.mono ?_
  rintro _ w3 ⟨ra, rc, rfl, hr3, hb3⟩
  have H3 := hide (H2.out.below hb3)
  have C3 := hide (sameI_any (l := srt l) (w := w3) (va := .slice va l.length vc) (vb := .slice ra l.length rc) (by rw [srt_length]; exact owns_keep HR2.out fun g hg => hb3.block g (owns_lt HR2.out hg)) (by rw [srt_length]; exact own_zero hr3) (by rw [srt_length]; exact HL.out))
  clear hr3 hb3 C2 H2 HR2
  go_wp2_with fail
  refine C3.out.mono ?_
  rintro _ w4 ⟨rfl, hb4⟩
  have H4 := hide (H3.out.below hb4)
  clear hb4 C3
  go_wp2_with fail
  go_ret
  exact ⟨rfl, ⟨_, _, _, _, _, _, _, _, _, H4.out⟩⟩

set_option maxRecDepth 100000 in
set_option maxHeartbeats 6400000 in
theorem does_copy (h : Two w0 P R most Z1 Z2 B M nv d sv av l l W) (s : ByteArray) (n : Int) :
    Calls Try.prog 15 #[ptr P, ptr R, stepV 4 s n] W fun e W' => e = .returned (.bool true) ∧ Both w0 P R most W' := by
  have hlt : W.heap.size < (stepB 4 s n W).heap.size := by simp
  have hle := h.bel.size
  have hPW := loc_lt h.box
  have h1 := h.fit0.below (below_box 4 s n W)
  have y1 : ∀ k, (fun k => Z1 k ∧ k < W.heap.size) k → k < (stepB 4 s n W).heap.size := fun k a => Nat.lt_trans a.2 hlt
  have y2 : ∀ k, (fun k => Z2 k ∧ k < W.heap.size) k → k < (stepB 4 s n W).heap.size := fun k a => Nat.lt_trans a.2 hlt
  have hP2 : P < (stepB 4 s n W).heap.size := Nat.lt_trans hPW hlt
  have hlo : w0.heap.size ≤ (stepB 4 s n W).heap.size := by omega
  generalize (fun k => Z1 k ∧ k < W.heap.size) = Y1 at h1 y1
  generalize (fun k => Z2 k ∧ k < W.heap.size) = Y2 at h1 y2
  have H1 := hide h1
  have HY1 := hide y1
  have HY2 := hide y2
  have HP2 := hide hP2
  have HLO := hide hlo
  have C1 := hide (copy_any h1.tab)
  obtain ⟨p0, pf⟩ := h1.cellP
  obtain ⟨k0, k1, k2⟩ := box_cells (W := W) (what := 4) (s := s) (n := n) rfl
  clear h h1 y1 y2 hP2 hlo hlt hle hPW
  go_enter Try.func15, Try.ntmps15
  go_wp2_with fail
  refine C1.out.mono ?_
  rintro _ w2 ⟨Bx, Mx, nvx, rfl, hTx, hb2⟩
  have H2 := hide (H1.out.below hb2).fit1
  have HX2 := hide (hTx.mono (Z' := fun k => (stepB 4 s n W).heap.size ≤ k ∧ k < w2.heap.size) fun k hk h => ⟨h, hk⟩)
  have C2 := hide (add_any H2.out.tab ⟨#[122, 122, 122]⟩ fun g hg => .inr hg)
  obtain ⟨q0, qf⟩ := H2.out.cellP
  have HXN : Hid (∀ k, (fun k => (stepB 4 s n W).heap.size ≤ k ∧ k < w2.heap.size) k → ¬ (fun k => (Y1 k ∧ k < w2.heap.size) ∨ w2.heap.size ≤ k) k) := by
    rintro k ⟨a1, a2⟩ (b | b)
    · have := HY1.out k b.1; omega
    · omega
  have HX2N : Hid (∀ k, (fun k => (stepB 4 s n W).heap.size ≤ k ∧ k < w2.heap.size) k → ¬ (fun k => Y2 k ∧ k < w2.heap.size) k) := by
    rintro k ⟨a1, a2⟩ b
    have := HY2.out k b.1; omega
  have HXP : Hid (¬ (fun k => (stepB 4 s n W).heap.size ≤ k ∧ k < w2.heap.size) P) := by
    rintro ⟨a1, a2⟩
    have := HP2.out; omega
  have HXL : Hid (∀ k, (fun k => (stepB 4 s n W).heap.size ≤ k ∧ k < w2.heap.size) k → w0.heap.size ≤ k) := fun k a => Nat.le_trans HLO.out a.1
  have HZN : Hid (∀ g, w2.heap.size ≤ g → (fun k => (Y1 k ∧ k < w2.heap.size) ∨ w2.heap.size ≤ k) g) := fun g hg => .inr hg
  generalize (fun k => (stepB 4 s n W).heap.size ≤ k ∧ k < w2.heap.size) = ZX at HX2 HXN HX2N HXP HXL
  generalize (fun k => (Y1 k ∧ k < w2.heap.size) ∨ w2.heap.size ≤ k) = V1 at H2 C2 HXN HZN
  generalize (fun k => Y2 k ∧ k < w2.heap.size) = V2 at H2 HX2N
  generalize (addM most l (⟨#[122, 122, 122]⟩ : ByteArray).data.toList).1 = an at C2
  generalize (addM most l (⟨#[122, 122, 122]⟩ : ByteArray).data.toList).2.1 = ae at C2
  generalize (addM most l (⟨#[122, 122, 122]⟩ : ByteArray).data.toList).2.2 = l' at C2
  clear hTx hb2 C1 H1 p0 pf k0 k1 k2
  go_wp2_with fail
  refine C2.out.mono ?_
  rintro _ w3 ⟨rfl, ⟨nv3, d3, sv3, hT3⟩, hf3⟩
  have H3 := hide (H2.out.step1 hT3 hf3)
  have HX3 := hide (HX2.out.keep fun k hz hk => hf3.block k hk (HXN.out k hz))
  have C3 := hide (sorted_any H3.out.tab fun g hg => HZN.out g (Nat.le_trans hf3.size hg))
  obtain ⟨r0, rf⟩ := H3.out.cellP
  clear hT3 hf3 C2 H2 HX2 q0 qf
  go_wp2_with fail
  refine C3.out.mono ?_
  rintro _ w4 ⟨va, vc, n0, sv4, rfl, hr4, hn4, hT4, hf4⟩
  have H4 := hide (H3.out.step1 (hT4.mono fun k _ h => h.1) hf4)
  have HX4 := hide (HX3.out.keep fun k hz hk => hf4.block k hk (HXN.out k hz))
  obtain ⟨t0, tf⟩ := H4.out.cellP
  clear hr4 hn4 hT4 hf4 C3 H3 HX3 r0 rf
  go_wp2_with fail
  go_ret
  exact ⟨rfl, ⟨_, _, _, _, _, _, _, _, _, H4.out.turn HX4.out HX2N.out HXP.out HXL.out⟩⟩

set_option maxRecDepth 100000 in
set_option maxHeartbeats 6400000 in
theorem does_none (h : Two w0 P R most Z1 Z2 B M nv d sv av l l W) (what : Int) (s : ByteArray) (n : Int) (h0 : what ≠ 0) (h1 : what ≠ 1) (h2 : what ≠ 2) (h3 : what ≠ 3) (h4 : what ≠ 4) :
    Calls Try.prog 15 #[ptr P, ptr R, stepV what s n] W fun e W' => e = .returned (.bool true) ∧ Both w0 P R most W' := by
  have H1 := hide (h.fit0.below (below_box what s n W))
  obtain ⟨k0, k1, k2⟩ := box_cells (W := W) (what := what) (s := s) (n := n) rfl
  have e0 : (what == 0) = false := beq_eq_false_iff_ne.2 h0
  have e1 : (what == 1) = false := beq_eq_false_iff_ne.2 h1
  have e2 : (what == 2) = false := beq_eq_false_iff_ne.2 h2
  have e3 : (what == 3) = false := beq_eq_false_iff_ne.2 h3
  have e4 : (what == 4) = false := beq_eq_false_iff_ne.2 h4
  clear h
  go_enter Try.func15, Try.ntmps15
  go_wp2_with fail
  go_ret
  exact ⟨rfl, ⟨_, _, _, _, _, _, _, _, _, H1.out⟩⟩

theorem does_any (h : Both w0 P R most W) (what : Int) (s : ByteArray) (n : Int) (hs : s.size ≤ maxLen) :
    Calls Try.prog 15 #[ptr P, ptr R, stepV what s n] W fun e W' => e = .returned (.bool true) ∧ Both w0 P R most W' := by
  obtain ⟨Z1, Z2, B, M, nv, d, sv, av, l, h⟩ := h
  by_cases h0 : what = 0
  · subst h0; exact does_add h s n
  by_cases h1 : what = 1
  · subst h1; exact does_find h s n hs
  by_cases h2 : what = 2
  · subst h2; exact does_name h s n
  by_cases h3 : what = 3
  · subst h3; exact does_sorted h s n
  by_cases h4 : what = 4
  · subst h4; exact does_copy h s n
  exact does_none h what s n h0 h1 h2 h3 h4
end
end Go.Proofs.Ytijpdoclmplclaa
