/- CopyTheory: what it answers lies in memory of its own. -/
import Derived.Test.YthifoamnmhlghaaCpr
namespace Go.Proofs.Ythifoamnmhlghaa.Fa
open Go.RowKit

/-- A theory in memory of its own: its rules' and its beats' rows may be written. -/
structure Tow (b : Nat) (T : Th) (fv rv bv : Value) (xs ys : List Value) (Z : Nat → Prop) (w : World) : Prop where
  z : ∀ g, Z g → b ≤ g ∧ g < w.heap.size ∧ rv.ownBlock ≠ some g ∧ bv.ownBlock ≠ some g
  f : RZ Z 1 (cLz Z) w T.foes fv
  r : w.ownsRow b 42 3 rv T.rules.length xs
  re : ∀ i x, T.rules[i]? = some x → cRz Z w x ((xs.drop (i * 3)).take 3)
  b : w.ownsRow b 26 1 bv T.beats.length ys
  be : ∀ i x, T.beats[i]? = some x → cLz Z w x ((ys.drop (i * 1)).take 1)
theorem tow_of {b : Nat} {T : Th} {fv rv bv : Value} {W w1 v1 w2 v2 w3 w' : World} (hb : b ≤ W.heap.size) (hf : T.foes.length ≤ 140737488351232) (G1 : Gz 26 1 cLz W T.foes T.foes.length fv w1) (a1 : v1.heap.size = w1.heap.size) (G2 : Gz 42 3 cRz v1 T.rules T.rules.length rv w2) (a2 : v2.heap.size = w2.heap.size) (G3 : Gz 26 1 cLz v2 T.beats T.beats.length bv w3) (a3 : w'.heap.size = w3.heap.size)
    (e1 : ∀ g, W.heap.size ≤ g → g < w1.heap.size → w'.heap[g]? = w1.heap[g]?) (e2 : ∀ g, v1.heap.size ≤ g → g < w2.heap.size → w'.heap[g]? = w2.heap[g]?) (e3 : ∀ g, v2.heap.size ≤ g → g < w3.heap.size → w'.heap[g]? = w3.heap[g]?) : ∃ xs ys Z, Tow b T fv rv bv xs ys Z w' := by
  have d1 := Gz.done cLz_ag G1 hf
  obtain ⟨l1, -, -⟩ := G1
  obtain ⟨l2, -, Z2, xs, r2, z2, h2⟩ := G2
  obtain ⟨l3, -, Z3, ys, r3, z3, h3⟩ := G3
  have s1 := l1.size
  have s2 := l2.size
  have s3 := l3.size
  refine ⟨xs, ys, fun g => (W.heap.size ≤ g ∧ g < w1.heap.size) ∨ Z2 g ∨ Z3 g, fun g hg => ?_, ?_, ?_, fun i x hi => ?_, ?_, fun i x hi => ?_⟩
  · rcases hg with hg | hg | hg
    · refine ⟨by omega, by omega, fun e => ?_, fun e => ?_⟩
      · have := (r2.lt g e).1; omega
      · have := (r3.lt g e).1; omega
    · obtain ⟨p1, p2, p3⟩ := z2 g hg
      refine ⟨by omega, by omega, p3, fun e => ?_⟩
      have := (r3.lt g e).1; omega
    · obtain ⟨p1, p2, p3⟩ := z3 g hg
      refine ⟨by omega, by omega, fun e => ?_, p3⟩
      have := (r2.lt g e).2; omega
  · have hag : Ag (fun g => W.heap.size ≤ g ∧ g < w1.heap.size) (fun g => (W.heap.size ≤ g ∧ g < w1.heap.size) ∨ Z2 g ∨ Z3 g) w1 w' := fun g hg => ⟨.inl hg, e1 g hg.1 hg.2⟩
    exact RZ.keep d1 hag fun a xs => cLz_ag _ _ _ _ _ _ hag
  · exact owns_down (owns_keep r2 fun g hg => e2 g (r2.lt g hg).1 (r2.lt g hg).2) (by omega)
  · exact cRz_ag _ _ _ _ _ _ (fun g hg => ⟨.inr (.inl hg), e2 g (z2 g hg).1 (z2 g hg).2.1⟩) (h2 i x hi)
  · exact owns_down (owns_keep r3 fun g hg => e3 g (r3.lt g hg).1 (r3.lt g hg).2) (by omega)
  · exact cLz_ag _ _ _ _ _ _ (fun g hg => ⟨.inr (.inr hg), e3 g (z3 g hg).1 (z3 g hg).2.1⟩) (h3 i x hi)
/-- What a theory's lists may be long. -/
structure Sml (T : Th) : Prop where
  f : T.foes.length ≤ 1048576
  fr : ∀ (i : Nat) l, T.foes[i]? = some l → l.length ≤ 1048576
  r : T.rules.length ≤ 1048576
  rr : ∀ (i : Nat) x, T.rules[i]? = some x → x.body.length ≤ 1048576
  b : T.beats.length ≤ 1048576
  br : ∀ (i : Nat) l, T.beats[i]? = some l → l.length ≤ 1048576
set_option maxRecDepth 100000 in
set_option maxHeartbeats 6400000 in
theorem copyTheory_any {w : World} {T : Th} {fa ra ba : Option Addr} {fc rc bc : Nat} (h : TA w.heap.size w T fa fc ra rc ba bc) (hs : Sml T) :
    Calls Try.prog 21 #[tv T fa fc ra rc ba bc] w fun e w' => ∃ fa2 fc2 ra2 rc2 ba2 bc2 xs ys Z, e = .returned (tv T fa2 fc2 ra2 rc2 ba2 bc2) ∧ Tow w.heap.size T (.slice fa2 T.foes.length fc2) (.slice ra2 T.rules.length rc2) (.slice ba2 T.beats.length bc2) xs ys Z w' ∧ Below w.heap.size w w' := by
  have HS := hide hs
  have hF1 : Fx w.heap.size 25 [.int .i64 T.lits, .slice fa T.foes.length fc, .slice ra T.rules.length rc, .slice ba T.beats.length bc] (w.alloc (.cells #[.int .i64 T.lits, .slice fa T.foes.length fc, .slice ra T.rules.length rc, .slice ba T.beats.length bc] 25)) := heap_alloc_new w (.cells #[.int .i64 T.lits, .slice fa T.foes.length fc, .slice ra T.rules.length rc, .slice ba T.beats.length bc] 25)
  have hF2 : Fx (w.heap.size + 1) 25 [.int .i64 0, .slice none 0 0, .slice none 0 0, .slice none 0 0] ((w.alloc (.cells #[.int .i64 T.lits, .slice fa T.foes.length fc, .slice ra T.rules.length rc, .slice ba T.beats.length bc] 25)).alloc (.cells #[.int .i64 0, .slice none 0 0, .slice none 0 0, .slice none 0 0] 25)) := by
    have := heap_alloc_new (w.alloc (.cells #[.int .i64 T.lits, .slice fa T.foes.length fc, .slice ra T.rules.length rc, .slice ba T.beats.length bc] 25)) (.cells #[.int .i64 0, .slice none 0 0, .slice none 0 0, .slice none 0 0] 25)
    have e : (w.alloc (.cells #[.int .i64 T.lits, .slice fa T.foes.length fc, .slice ra T.rules.length rc, .slice ba T.beats.length bc] 25)).heap.size = w.heap.size + 1 := by simp
    rw [e] at this
    exact this
  have hB1 := below_new w (.cells #[.int .i64 T.lits, .slice fa T.foes.length fc, .slice ra T.rules.length rc, .slice ba T.beats.length bc] 25)
  have hB2 := below_new (w.alloc (.cells #[.int .i64 T.lits, .slice fa T.foes.length fc, .slice ra T.rules.length rc, .slice ba T.beats.length bc] 25)) (.cells #[.int .i64 0, .slice none 0 0, .slice none 0 0, .slice none 0 0] 25)
  have HF1 := hide (hF1.keep (hB2.block _ hF1.lt))
  have HF2 := hide hF2
  have HB := hide (hB1.trans (hB2.mono hB1.size))
  have HT := hide h
  clear hF1 hF2 hB1 hB2 h hs
  go_enter Try.func21, Try.ntmps21
  go_upto_region 1 with fail
  generalize (w.alloc (.cells #[.int .i64 T.lits, .slice fa T.foes.length fc, .slice ra T.rules.length rc, .slice ba T.beats.length bc] 25)).alloc (.cells #[.int .i64 0, .slice none 0 0, .slice none 0 0, .slice none 0 0] 25) = W at *
  have hl1 := HF1.out.lt
  have hl2 := HF2.out.lt
  have C1 := hide (copyLists_any (w := W) (TR.keep (fun g hg => HB.out.block g hg) HT.out).foes HB.out.size HS.out.f HS.out.fr)
  have q1 := HF1.out.get (i := 1) rfl
  go_upto_region 2 with (go_at_call 34; refine C1.out.mono ?_; rintro _ w1 ⟨fa2, fc2, rfl, hg⟩; have HG1 := hide hg; have HL1 := hide hg.low; clear hg; have q3 := (HF1.out.keep (HL1.out.block _ HF1.out.lt)).get (i := 1) rfl; have q4 := (HF1.out.keep (HL1.out.block _ HF1.out.lt)).frz 1)
  have HK1 : Hid (Fx w.heap.size 25 [.int .i64 T.lits, .slice fa2 T.foes.length fc2, .slice ra T.rules.length rc, .slice ba T.beats.length bc] (w1.setCell ⟨w.heap.size, 1, none⟩ (.slice fa2 T.foes.length fc2))) := hide ((HF1.out.keep (HL1.out.block _ HF1.out.lt)).set 1 _)
  have hs1 : (w1.setCell ⟨w.heap.size, 1, none⟩ (.slice fa2 T.foes.length fc2)).heap.size = w1.heap.size := by simp
  have HO1 : Hid (∀ g, g ≠ w.heap.size → (w1.setCell ⟨w.heap.size, 1, none⟩ (.slice fa2 T.foes.length fc2)).heap[g]? = w1.heap[g]?) := hide fun g hg => other_set hg
  have HBv1 := hide ((HB.out.trans (HL1.out.mono HB.out.size)).setCell (p := ⟨w.heap.size, 1, none⟩) (Nat.le_refl _) (.slice fa2 T.foes.length fc2))
  clear q1 q3 q4 C1
  generalize w1.setCell ⟨w.heap.size, 1, none⟩ (.slice fa2 T.foes.length fc2) = v1 at *
  have C2 := hide (copyRules_any (w := v1) (TR.keep (fun g hg => HBv1.out.block g hg) HT.out).rules HBv1.out.size HS.out.r HS.out.rr)
  have q2 := HK1.out.get (i := 2) rfl
  go_upto_region 3 with (go_at_call 35; refine C2.out.mono ?_; rintro _ w2 ⟨ra2, rc2, rfl, hg⟩; have HG2 := hide hg; have HL2 := hide hg.low; clear hg; have q3 := (HK1.out.keep (HL2.out.block _ HK1.out.lt)).get (i := 2) rfl; have q4 := (HK1.out.keep (HL2.out.block _ HK1.out.lt)).frz 2)
  have HK2 : Hid (Fx w.heap.size 25 [.int .i64 T.lits, .slice fa2 T.foes.length fc2, .slice ra2 T.rules.length rc2, .slice ba T.beats.length bc] (w2.setCell ⟨w.heap.size, 2, none⟩ (.slice ra2 T.rules.length rc2))) := hide ((HK1.out.keep (HL2.out.block _ HK1.out.lt)).set 2 _)
  have hs2 : (w2.setCell ⟨w.heap.size, 2, none⟩ (.slice ra2 T.rules.length rc2)).heap.size = w2.heap.size := by simp
  have HO2 : Hid (∀ g, g ≠ w.heap.size → (w2.setCell ⟨w.heap.size, 2, none⟩ (.slice ra2 T.rules.length rc2)).heap[g]? = w2.heap[g]?) := hide fun g hg => other_set hg
  have HBv2 := hide ((HBv1.out.trans (HL2.out.mono HBv1.out.size)).setCell (p := ⟨w.heap.size, 2, none⟩) (Nat.le_refl _) (.slice ra2 T.rules.length rc2))
  clear q2 q3 q4 C2
  generalize w2.setCell ⟨w.heap.size, 2, none⟩ (.slice ra2 T.rules.length rc2) = v2 at *
  have C3 := hide (copyLists_any (w := v2) (TR.keep (fun g hg => HBv2.out.block g hg) HT.out).beats HBv2.out.size HS.out.b HS.out.br)
  have q2 := HK2.out.get (i := 3) rfl
  go_upto_region 4 with (go_at_call 34; refine C3.out.mono ?_; rintro _ w3 ⟨ba2, bc2, rfl, hg⟩; have HG3 := hide hg; have HL3 := hide hg.low; clear hg; have q3 := (HK2.out.keep (HL3.out.block _ HK2.out.lt)).get (i := 3) rfl; have q4 := (HK2.out.keep (HL3.out.block _ HK2.out.lt)).frz 3)
  have HK3 : Hid (Fx w.heap.size 25 [.int .i64 T.lits, .slice fa2 T.foes.length fc2, .slice ra2 T.rules.length rc2, .slice ba2 T.beats.length bc2] (w3.setCell ⟨w.heap.size, 3, none⟩ (.slice ba2 T.beats.length bc2))) := hide ((HK2.out.keep (HL3.out.block _ HK2.out.lt)).set 3 _)
  have hs3 : (w3.setCell ⟨w.heap.size, 3, none⟩ (.slice ba2 T.beats.length bc2)).heap.size = w3.heap.size := by simp
  have HO3 : Hid (∀ g, g ≠ w.heap.size → (w3.setCell ⟨w.heap.size, 3, none⟩ (.slice ba2 T.beats.length bc2)).heap[g]? = w3.heap[g]?) := hide fun g hg => other_set hg
  have HBv3 := hide ((HBv2.out.trans (HL3.out.mono HBv2.out.size)).setCell (p := ⟨w.heap.size, 3, none⟩) (Nat.le_refl _) (.slice ba2 T.beats.length bc2))
  clear q2 q3 q4 C3
  generalize w3.setCell ⟨w.heap.size, 3, none⟩ (.slice ba2 T.beats.length bc2) = v3 at *
  have z1 := HL1.out.size
  have z2 := HL2.out.size
  have z3 := HL3.out.size
  have HR : Hid (Fx (w.heap.size + 1) 25 [.int .i64 0, .slice none 0 0, .slice none 0 0, .slice none 0 0] v3) := hide (HF2.out.keep (by rw [HO3.out _ (by omega), HL3.out.block _ (by omega), HO2.out _ (by omega), HL2.out.block _ (by omega), HO1.out _ (by omega), HL1.out.block _ (by omega)]))
  have HTW : Hid (∀ w', w'.heap.size = v3.heap.size → (∀ g, g ≠ w.heap.size + 1 → w'.heap[g]? = v3.heap[g]?) → ∃ xs ys Z, Tow w.heap.size T (.slice fa2 T.foes.length fc2) (.slice ra2 T.rules.length rc2) (.slice ba2 T.beats.length bc2) xs ys Z w') := hide fun w' hw hg => tow_of (by omega) (by have := HS.out.f; omega) HG1.out hs1 HG2.out hs2 HG3.out (by omega)
    (fun g h1 h2 => by rw [hg g (by omega), HO3.out _ (by omega), HL3.out.block _ (by omega), HO2.out _ (by omega), HL2.out.block _ (by omega), HO1.out _ (by omega)])
    (fun g h1 h2 => by rw [hg g (by omega), HO3.out _ (by omega), HL3.out.block _ (by omega), HO2.out _ (by omega)])
    (fun g h1 h2 => by rw [hg g (by omega), HO3.out _ (by omega)])
  clear HO1 HO2 HO3 HL1 HL2 HL3 HG1 HG2 HG3 HK1 HK2 HF1 HF2 hs1 hs2 hs3 HBv1 HBv2 HB HT z1 z2 z3
  have r0 := HK3.out.get (i := 0) rfl
  have r1 := HK3.out.get (i := 1) rfl
  have r2 := HK3.out.get (i := 2) rfl
  have r3 := HK3.out.get (i := 3) rfl
  have s0 := HR.out.get (i := 0) rfl
  have s1 := HR.out.get (i := 1) rfl
  have s2 := HR.out.get (i := 2) rfl
  have s3 := HR.out.get (i := 3) rfl
  have f0 := HR.out.frz 0
  have f1 := HR.out.frz 1
  have f2 := HR.out.frz 2
  have f3 := HR.out.frz 3
  go_wp2_with fail
  have HG5 := hide ((((HR.out.set 0 (.int .i64 T.lits)).set 1 (.slice fa2 T.foes.length fc2)).set 2 (.slice ra2 T.rules.length rc2)).set 3 (.slice ba2 T.beats.length bc2))
  have HB5 := hide ((((HBv3.out.setCell (p := ⟨w.heap.size + 1, 0, none⟩) (Nat.le_succ _) (.int .i64 T.lits)).setCell (p := ⟨w.heap.size + 1, 1, none⟩) (Nat.le_succ _) (.slice fa2 T.foes.length fc2)).setCell (p := ⟨w.heap.size + 1, 2, none⟩) (Nat.le_succ _) (.slice ra2 T.rules.length rc2)).setCell (p := ⟨w.heap.size + 1, 3, none⟩) (Nat.le_succ _) (.slice ba2 T.beats.length bc2))
  refine bodyPost_ret (results_cell_row rfl _ _ (w.heap.size + 1) 25 #[.int .i64 T.lits, .slice fa2 T.foes.length fc2, .slice ra2 T.rules.length rc2, .slice ba2 T.beats.length bc2] _ _ rfl HG5.out Try.underlying25 rfl (by kernel_rfl)) rfl ?_
  obtain ⟨xs, ys, Z, ht⟩ := HTW.out ((((v3.setCell ⟨w.heap.size + 1, 0, none⟩ (.int .i64 T.lits)).setCell ⟨w.heap.size + 1, 1, none⟩ (.slice fa2 T.foes.length fc2)).setCell ⟨w.heap.size + 1, 2, none⟩ (.slice ra2 T.rules.length rc2)).setCell ⟨w.heap.size + 1, 3, none⟩ (.slice ba2 T.beats.length bc2)) (by simp) (fun g hg => by rw [other_set hg, other_set hg, other_set hg, other_set hg])
  exact ⟨fa2, fc2, ra2, rc2, ba2, bc2, xs, ys, Z, rfl, ht, HB5.out⟩
end Go.Proofs.Ythifoamnmhlghaa.Fa
