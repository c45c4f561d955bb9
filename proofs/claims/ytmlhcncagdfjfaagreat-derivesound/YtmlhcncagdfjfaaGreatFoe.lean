import Derived.Test.YtmlhcncagdfjfaaGreatMem
import Derived.Test.YtmlhcncagdfjfaaGreatBackM
set_option maxRecDepth 100000
set_option maxHeartbeats 6400000
namespace Go.Proofs.YtmlhcncagdfjfaaGreat
open Go.RowKit
structure Bt (q : Nat) (a b c d : Value) (W : World) : Prop where
 box : W.heap[q]? = some (.cells #[a, b, c, d] 25 (0, 0))
 c0 : W.cell? ⟨q, 0, none⟩ = some a
 c1 : W.cell? ⟨q, 1, none⟩ = some b
 c2 : W.cell? ⟨q, 2, none⟩ = some c
 c3 : W.cell? ⟨q, 3, none⟩ = some d
theorem Bt.of {q : Nat} {a b c d : Value} {W : World} (h : W.heap[q]? = some (.cells #[a, b, c, d] 25 (0, 0))) : Bt q a b c d W :=
 ⟨h, cell_of_row W q 0 _ _ _ h, cell_of_row W q 1 _ _ _ h, cell_of_row W q 2 _ _ _ h, cell_of_row W q 3 _ _ _ h⟩
theorem Bt.new (w : World) (a b c d : Value) : Bt w.heap.size a b c d (w.alloc (.cells #[a, b, c, d] 25)) := Bt.of (heap_alloc_new w _)
theorem ae (w : World) (o : Obj) : Below w.heap.size w (w.alloc o) := (Below.refl _ w).alloc (Nat.le_refl _) _
abbrev tv (T : Th) (fa : Option Addr) (fc : Nat) (ra : Option Addr) (rc : Nat) (ba : Option Addr) (bc : Nat) : Value := .agg #[.int .i64 T.lits, .slice fa T.foes.length fc, .slice ra T.rules.length rc, .slice ba T.beats.length bc]
abbrev TA (N : Nat) (w : World) (T : Th) (fa : Option Addr) (fc : Nat) (ra : Option Addr) (rc : Nat) (ba : Option Addr) (bc : Nat) : Prop := TR N w T (.slice fa T.foes.length fc) (.slice ra T.rules.length rc) (.slice ba T.beats.length bc)
theorem qV {p : Int → Bool} {l : List Int} {k : Nat} {x : Int} (hx : l[k]? = some x) : (l.drop k).all p = (p x && (l.drop (k + 1)).all p) := by rw [aM hx]; rfl
theorem qL {w : World} {T : Th} {fa ra ba : Option Addr} {fc rc bc i : Nat} {l : List Int} (h : Lists w.heap.size w T.foes (.slice fa T.foes.length fc)) (hi : T.foes[i]? = some l) (hr : ∀ f ∈ l, 0 ≤ f ∧ f < (T.foes.length : Int)) :
    Calls Tryz.prog 103 #[tv T fa fc ra rc ba bc, .int .i64 i] w fun e w' => e = .returned (.bool (gF T.foes i l)) ∧ Below w.heap.size w w' := by
 have hB := ae w (.cells #[.int .i64 T.lits, .slice fa T.foes.length fc, .slice ra T.rules.length rc, .slice ba T.beats.length bc] 25)
 have hL := h.go hB
 have hX := Bt.new w (.int .i64 T.lits) (.slice fa T.foes.length fc) (.slice ra T.rules.length rc) (.slice ba T.beats.length bc)
 have Af : i < T.foes.length := (List.getElem?_eq_some_iff.1 hi).1
 have Ai := h.lim
 obtain ⟨o, ho⟩ : ∃ o, gF T.foes i l = o := ⟨_, rfl⟩
 rw [ho]
 have HO : Hid ((l.drop 0).all (fun f => decide ((i : Int) ∈ row T.foes f)) = o) := hide (by rw [List.drop_zero]; exact ho)
 clear h ho
 go_enter Tryz.func103, Tryz.ntmps103
 go_upto_region 1 with fail
 generalize w.alloc (.cells #[.int .i64 T.lits, .slice fa T.foes.length fc, .slice ra T.rules.length rc, .slice ba T.beats.length bc] 25) = W at *
 obtain ⟨-, c0, c1, c2, c3⟩ := hX
 obtain ⟨g, of, a2, c2', rfl, -, kc, Ad, Ag, hI⟩ := bH hL hi
 have HL := hide hL
 have HI := hide hI.at1
 have HB := hide hB
 have HR := hide hr
 clear hL hI hB hi hr
 go_wp2_with fail
 go_loop [13] (fun x => ∃ k : Nat, k ≤ l.length ∧ x = .int .i64 k ∧ Hid ((l.drop k).all (fun f => decide ((i : Int) ∈ row T.foes f)) = o)) (fun x => l.length - (intOf x).toNat)
 case atStart => exact ⟨0, by omega, rfl, HO⟩
 clear HO
 obtain ⟨k, hk, rfl, HK⟩ := hrel
 by_cases hlt : k < l.length
 ·obtain ⟨x, hx⟩ := am hlt
  obtain ⟨g1, o1, rfl, Ah⟩ := HI.out.get hx
  have Aa := HR.out x (List.mem_of_getElem? hx)
  obtain ⟨q, rfl⟩ := Int.eq_ofNat_of_zero_le Aa.1
  have hq : q < T.foes.length := by omega
  obtain ⟨m, hm⟩ := am hq
  obtain ⟨_, _, a3, c3', e, -, Ae, -, Ac, Ab⟩ := bH HL.out hm
  cases e
  have CH := hide (dc (c := c3') Ab.at1 Ac i)
  have HS := hide (qV (p := fun f => decide ((i : Int) ∈ row T.foes f)) hx)
  have HRow : Hid (row T.foes (q : Int) = m) := hide (bn (by simpa using hm))
  clear hx Ab Aa hm
  by_cases hin : (i : Int) ∈ m
  ·have HN : Hid ((l.drop (k + 1)).all (fun f => decide ((i : Int) ∈ row T.foes f)) = o) := hide (by
    have := HK.out
    rw [HS.out, HRow.out, decide_eq_true hin, Bool.true_and] at this
    exact this)
   rw [decide_eq_true hin] at CH
   clear HK HS HRow hin
   go_wp2_with (go_at_call 102; refine CH.out.mono ?_; rintro _ w1 ⟨rfl, hw⟩; subst w1)
   go_round
   case rel => exact ⟨k + 1, by omega, by go_num, HN⟩
   case measure => simp [intOf]; omega
  have HN : Hid (false = o) := hide (by
   have := HK.out
   rw [HS.out, HRow.out, decide_eq_false hin, Bool.false_and] at this
   exact this)
  rw [decide_eq_false hin] at CH
  clear HK HS HRow hin
  go_wp2_with (go_at_call 102; refine CH.out.mono ?_; rintro _ w1 ⟨rfl, hw⟩; subst w1)
  go_ret
  exact ⟨bC HN.out, HB.out⟩
 have HN : Hid (true = o) := hide (by
  have := HK.out
  rw [bV (by omega)] at this
  exact this)
 go_wp2_with fail
 go_ret
 exact ⟨bC HN.out, HB.out⟩
set_option maxRecDepth 100000
set_option maxHeartbeats 12800000
def iN (p : Int × Int) : Value := .tuple #[.int .i64 p.1, .int .i64 p.2]
theorem aU {p : Int × Int} {a b : Int} (h : (a, b) = p) : Ending.returned (.tuple #[.int .i64 a, .int .i64 b]) = .returned (iN p) := by rw [← h]; rfl
theorem kX {α : Type} {p : Nat → α → Bool} {l : List α} {k : Nat} {x : α} (hx : l[k]? = some x) (h : p k x = true) : bQ p k (l.drop k) = some k := by rw [aM hx, bQ, if_pos h]
theorem mg {α : Type} {p : Nat → α → Bool} {l : List α} {k : Nat} {x : α} (hx : l[k]? = some x) (h : p k x = false) : bQ p k (l.drop k) = bQ p (k + 1) (l.drop (k + 1)) := by rw [aM hx, bQ, if_neg (by rw [h]; decide)]
theorem pL {w : World} {T : Th} {fa ra ba : Option Addr} {fc rc bc : Nat} (h : TA w.heap.size w T fa fc ra rc ba bc) :
    Calls Tryz.prog 71 #[tv T fa fc ra rc ba bc] w fun e w' => e = .returned (iN (gh T)) ∧ Below w.heap.size w w' := by
 have hB := ae w (.cells #[.int .i64 T.lits, .slice fa T.foes.length fc, .slice ra T.rules.length rc, .slice ba T.beats.length bc] 25)
 have hL := TR.go hB h
 have hX := Bt.new w (.int .i64 T.lits) (.slice fa T.foes.length fc) (.slice ra T.rules.length rc) (.slice ba T.beats.length bc)
 have An := h.foes.lim
 obtain ⟨r, hr⟩ : ∃ r, gh T = r := ⟨_, rfl⟩
 rw [hr]
 unfold gh at hr
 clear h
 by_cases hne : (T.foes.length : Int) ≠ T.lits
 ·rw [if_pos hne] at hr
  have HR := hide hr
  have Al : ((T.foes.length : Int) != T.lits) = true := by simpa using hne
  clear hr hne
  have HB := hide hB
  clear hB hL
  go_enter Tryz.func71, Tryz.ntmps71
  go_upto_region 1 with fail
  generalize w.alloc (.cells #[.int .i64 T.lits, .slice fa T.foes.length fc, .slice ra T.rules.length rc, .slice ba T.beats.length bc] 25) = W at *
  obtain ⟨-, c0, c1, c2, c3⟩ := hX
  go_wp2_with fail
  go_ret2
  exact ⟨aU HR.out, HB.out⟩
 rw [if_neg hne] at hr
 have Ad : (T.foes.length : Int) = T.lits := Decidable.byContradiction hne
 have Al : ((T.foes.length : Int) != T.lits) = false := by simpa using Ad
 have HO : Hid (iY 121 (bQ (ee T) 0 (T.foes.drop 0)) = r) := hide (by rw [List.drop_zero]; exact hr)
 have HLen := hide Ad
 clear hr hne Ad
 go_enter Tryz.func71, Tryz.ntmps71
 go_upto_region 1 with fail
 generalize w.alloc (.cells #[.int .i64 T.lits, .slice fa T.foes.length fc, .slice ra T.rules.length rc, .slice ba T.beats.length bc] 25) = W at *
 obtain ⟨Ag, c0, c1, c2, c3⟩ := hX
 have HL := hide hL
 have HB := hide hB
 have HX := hide Ag
 clear hL hB Ag
 go_wp2_with fail
 go_loopw [15] (fun x wr => ∃ k : Nat, k ≤ T.foes.length ∧ x = .int .i64 k ∧ Hid (iY 121 (bQ (ee T) k (T.foes.drop k)) = r) ∧ Hid (Below W.heap.size W wr)) (fun x _ => T.foes.length - (intOf x).toNat)
 case atStart => exact ⟨0, by omega, rfl, HO, hide (Below.refl _ _)⟩
 clear HO c0 c1 c2 c3
 obtain ⟨k, hk, rfl, HK, HW⟩ := hrel
 have Ah : wr.heap[w.heap.size]? = some (.cells #[.int .i64 T.lits, .slice fa T.foes.length fc, .slice ra T.rules.length rc, .slice ba T.beats.length bc] 25 (0, 0)) := (HW.out.block _ (aD HX.out)).trans HX.out
 obtain ⟨-, c0, c1, c2, c3⟩ := Bt.of Ah
 have Af := TR.go HW.out HL.out
 have Aa := hide (HB.out.trans (HW.out.mono HB.out.size))
 clear Ah
 by_cases hlt : k < T.foes.length
 ·obtain ⟨l, hl⟩ := am hlt
  obtain ⟨g, of, a2, d2, rfl, -, kc, Am, Ai, hI⟩ := bH Af.foes hl
  have CR := hide (fN (c := d2) hI.at1 Ai T.lits)
  have CH := hide (dc (c := d2) hI.at1 Ai k)
  have HF := hide Af.foes
  have HY := hide (kX (p := ee T) hl)
  have HN := hide (mg (p := ee T) hl)
  have HGet := hide hl
  have Aj := hide (fun (X : World) (hX : Below wr.heap.size wr X) => HW.out.trans (hX.mono HW.out.size))
  have Ak := hide (fun (X : World) (hX : Below wr.heap.size wr X) => Aa.out.trans (hX.mono Aa.out.size))
  clear hl hI Af
  by_cases h64 : 64 < l.length
  ·have HE : Hid ((121, (k : Int)) = r) := hide (by have := HK.out; rw [HY.out (by simp [ee, h64])] at this; exact this)
   clear HK HY HN
   go_wp2_with fail
   go_ret2
   exact ⟨aU HE.out, Aa.out⟩
  cases hri : bP l T.lits with
  | false =>
   have HE : Hid ((121, (k : Int)) = r) := hide (by have := HK.out; rw [HY.out (by simp [ee, hri])] at this; exact this)
   rw [hri] at CR
   clear HK HY HN hri
   go_wp2_with (go_at_call 101; refine CR.out.mono ?_; rintro _ w1 ⟨rfl, hw⟩; subst w1)
   go_ret2
   exact ⟨aU HE.out, Aa.out⟩
  | true =>
   have Ab : ∀ f ∈ l, 0 ≤ f ∧ f < (T.foes.length : Int) := fun f hf => by
    have := (fH.1 hri).1 f hf
    have := HLen.out
    omega
   have CT := hide (qL (ra := ra) (rc := rc) (ba := ba) (bc := bc) HF.out HGet.out Ab)
   rw [hri] at CR
   by_cases hin : (k : Int) ∈ l
   ·have HE : Hid ((121, (k : Int)) = r) := hide (by have := HK.out; rw [HY.out (by simp [ee, hin])] at this; exact this)
    rw [decide_eq_true hin] at CH
    clear HK HY HN hri hin Ab
    go_wp2_with (first | (go_at_call 101; refine CR.out.mono ?_; rintro _ w1 ⟨rfl, hw⟩; subst w1) | (go_at_call 102; refine CH.out.mono ?_; rintro _ w1 ⟨rfl, hw⟩; subst w1))
    go_ret2
    exact ⟨aU HE.out, Aa.out⟩
   rw [decide_eq_false hin] at CH
   cases hre : gF T.foes k l with
   | false =>
    have HE : Hid ((121, (k : Int)) = r) := hide (by have := HK.out; rw [HY.out (by simp [ee, hre])] at this; exact this)
    rw [hre] at CT
    clear HK HY HN hri hin Ab hre
    go_wp2_with (first | (go_at_call 101; refine CR.out.mono ?_; rintro _ w1 ⟨rfl, hw⟩; subst w1) | (go_at_call 102; refine CH.out.mono ?_; rintro _ w1 ⟨rfl, hw⟩; subst w1) | (go_at_call 103; refine CT.out.mono ?_; rintro _ w1 ⟨rfl, Ac⟩; have Ae := hide (Ak.out w1 Ac); clear Ac))
    go_ret2
    exact ⟨aU HE.out, Ae.out⟩
   | true =>
    have HE : Hid (iY 121 (bQ (ee T) (k + 1) (T.foes.drop (k + 1))) = r) := hide (by have := HK.out; rw [HN.out (by simp [ee, hre, hin, hri, h64])] at this; exact this)
    rw [hre] at CT
    clear HK HY HN hri hin Ab hre
    go_wp2_with (first | (go_at_call 101; refine CR.out.mono ?_; rintro _ w1 ⟨rfl, hw⟩; subst w1) | (go_at_call 102; refine CH.out.mono ?_; rintro _ w1 ⟨rfl, hw⟩; subst w1) | (go_at_call 103; refine CT.out.mono ?_; rintro _ w1 ⟨rfl, Ac⟩; have Ae := hide (Aj.out w1 Ac); clear Ac))
    go_roundw
    case rel => exact ⟨k + 1, by omega, by go_num, HE, Ae⟩
    case measure => simp [intOf]; omega
 have HE : Hid ((0, 0) = r) := hide (by have := HK.out; rw [bV (by omega)] at this; exact this)
 go_wp2_with fail
 go_ret2
 exact ⟨aU HE.out, Aa.out⟩
theorem ur {w : World} {x : RuleM} {a : Option Addr} {c : Nat} (h : Ints w.heap.size w x.body (.slice a x.body.length c)) (lits : Int) :
    Calls Tryz.prog 104 #[.agg #[.int .i64 x.kind, .int .i64 x.head, .slice a x.body.length c], .int .i64 lits] w fun e w' => e = .returned (.bool (ed lits x)) ∧ Below w.heap.size w w' := by
 have hB := ae w (.cells #[.int .i64 x.kind, .int .i64 x.head, .slice a x.body.length c] 114)
 have hX := heap_alloc_new w (.cells #[.int .i64 x.kind, .int .i64 x.head, .slice a x.body.length c] 114)
 have hI := h.go hB
 have Ac := h.lim
 obtain ⟨o, ho⟩ : ∃ o, ed lits x = o := ⟨_, rfl⟩
 rw [ho]
 unfold ed at ho
 clear h
 by_cases hk : x.kind = 1 ∨ x.kind = 2 ∨ x.kind = 3
 ·have hk' : (decide (x.kind = 1) || decide (x.kind = 2) || decide (x.kind = 3)) = true := by simpa [or_assoc] using hk
  rw [hk', Bool.true_and] at ho
  have HO := hide ho
  have Aa : x.kind = 1 ∨ (¬ x.kind = 1 ∧ x.kind = 2) ∨ (¬ x.kind = 1 ∧ ¬ x.kind = 2 ∧ x.kind = 3) := by omega
  clear hk hk' ho
  obtain ⟨kd, Ab⟩ : ∃ kd, x.kind = kd := ⟨_, rfl⟩
  rw [Ab] at Aa hB hX hI ⊢
  clear Ab
  go_enter Tryz.func104, Tryz.ntmps104
  go_upto_region 1 with fail
  generalize w.alloc (.cells #[.int .i64 kd, .int .i64 x.head, .slice a x.body.length c] 114) = W at *
  have c0 := cell_of_row W _ 0 _ _ _ hX
  have c1 := cell_of_row W _ 1 _ _ _ hX
  have c2 := cell_of_row W _ 2 _ _ _ hX
  simp only [List.getElem?_toArray, List.getElem?_cons_zero, List.getElem?_cons_succ] at c0 c1 c2
  have HB := hide hB
  have CW := hide (eZ x.head lits W)
  have CR := hide (fN (c := c) hI.at1 Ac lits)
  clear hX hB hI
  cases hin : bU x.head lits with
  | false =>
   have HE : Hid (false = o) := hide (by have := HO.out; rw [hin] at this; simpa using this)
   rw [hin] at CW
   clear HO hin
   rcases Aa with e | ⟨h1, e⟩ | ⟨h1, h2, e⟩
   all_goals
    subst e
    go_wp2_with (go_at_call 139; refine CW.out.mono ?_; rintro _ w1 ⟨rfl, hw⟩; subst w1)
    go_ret
    exact ⟨bC HE.out, HB.out⟩
  | true =>
   rw [hin] at CW
   by_cases h16 : x.body.length ≤ 16
   ·have HE : Hid (bP x.body lits = o) := hide (by have := HO.out; rw [hin] at this; simpa [h16] using this)
    rw [HE.out] at CR
    clear HO hin
    rcases Aa with e | ⟨h1, e⟩ | ⟨h1, h2, e⟩
    all_goals
     subst e
     go_wp2_with (first | (go_at_call 139; refine CW.out.mono ?_; rintro _ w1 ⟨rfl, hw⟩; subst w1) | (go_at_call 101; refine CR.out.mono ?_; rintro _ w1 ⟨rfl, hw⟩; subst w1))
     go_ret
     exact ⟨rfl, HB.out⟩
   have HE : Hid (false = o) := hide (by have := HO.out; rw [hin] at this; simpa [h16] using this)
   clear HO hin
   rcases Aa with e | ⟨h1, e⟩ | ⟨h1, h2, e⟩
   all_goals
    subst e
    go_wp2_with (go_at_call 139; refine CW.out.mono ?_; rintro _ w1 ⟨rfl, hw⟩; subst w1)
    go_ret
    exact ⟨bC HE.out, HB.out⟩
 have HE : Hid (false = o) := hide (by
  have e : (decide (x.kind = 1) || decide (x.kind = 2) || decide (x.kind = 3)) = false := by simpa [or_assoc, and_assoc] using hk
  rw [e] at ho
  simpa using ho)
 have h1 : (x.kind == 1) = false := beq_eq_false_iff_ne.2 (by omega)
 have h2 : (x.kind == 2) = false := beq_eq_false_iff_ne.2 (by omega)
 have h3 : (x.kind == 3) = false := beq_eq_false_iff_ne.2 (by omega)
 have n1 : ¬ x.kind = 1 := by omega
 have n2 : ¬ x.kind = 2 := by omega
 have n3 : ¬ x.kind = 3 := by omega
 clear hk ho
 generalize x.kind = kd at *
 go_enter Tryz.func104, Tryz.ntmps104
 go_upto_region 1 with fail
 generalize w.alloc (.cells #[.int .i64 kd, .int .i64 x.head, .slice a x.body.length c] 114) = W at *
 have c0 := cell_of_row W _ 0 _ _ _ hX
 simp only [List.getElem?_toArray, List.getElem?_cons_zero] at c0
 have HB := hide hB
 clear hX hB hI
 go_wp2_with fail
 go_ret
 exact ⟨bC HE.out, HB.out⟩
theorem pD {w : World} {T : Th} {fa ra ba : Option Addr} {fc rc bc : Nat} (h : TA w.heap.size w T fa fc ra rc ba bc) :
    Calls Tryz.prog 72 #[tv T fa fc ra rc ba bc] w fun e w' => e = .returned (iN (dL T)) ∧ Below w.heap.size w w' := by
 have hB := ae w (.cells #[.int .i64 T.lits, .slice fa T.foes.length fc, .slice ra T.rules.length rc, .slice ba T.beats.length bc] 25)
 have hL := TR.go hB h
 have hX := Bt.new w (.int .i64 T.lits) (.slice fa T.foes.length fc) (.slice ra T.rules.length rc) (.slice ba T.beats.length bc)
 have Am := h.rules.lim
 obtain ⟨r, hr⟩ : ∃ r, dL T = r := ⟨_, rfl⟩
 rw [hr]
 unfold dL at hr
 clear h
 by_cases hne : 4096 < T.rules.length
 ·rw [if_pos hne] at hr
  have HR := hide hr
  clear hr
  have HB := hide hB
  clear hB hL
  go_enter Tryz.func72, Tryz.ntmps72
  go_upto_region 1 with fail
  generalize w.alloc (.cells #[.int .i64 T.lits, .slice fa T.foes.length fc, .slice ra T.rules.length rc, .slice ba T.beats.length bc] 25) = W at *
  obtain ⟨-, c0, c1, c2, c3⟩ := hX
  go_wp2_with fail
  go_ret2
  exact ⟨aU HR.out, HB.out⟩
 rw [if_neg hne] at hr
 have HO : Hid (iY 122 (bQ (fun _ r => !ed T.lits r) 0 (T.rules.drop 0)) = r) := hide (by rw [List.drop_zero]; exact hr)
 clear hr
 go_enter Tryz.func72, Tryz.ntmps72
 go_upto_region 1 with fail
 generalize w.alloc (.cells #[.int .i64 T.lits, .slice fa T.foes.length fc, .slice ra T.rules.length rc, .slice ba T.beats.length bc] 25) = W at *
 obtain ⟨Ag, c0, c1, c2, c3⟩ := hX
 have HL := hide hL
 have HB := hide hB
 have HX := hide Ag
 clear hL hB Ag
 go_wp2_with fail
 go_loopw [13] (fun x wr => ∃ k : Nat, k ≤ T.rules.length ∧ x = .int .i64 k ∧ Hid (iY 122 (bQ (fun _ r => !ed T.lits r) k (T.rules.drop k)) = r) ∧ Hid (Below W.heap.size W wr)) (fun x _ => T.rules.length - (intOf x).toNat)
 case atStart => exact ⟨0, by omega, rfl, HO, hide (Below.refl _ _)⟩
 clear HO c0 c1 c2 c3
 obtain ⟨k, hk, rfl, HK, HW⟩ := hrel
 have Ae : wr.heap[w.heap.size]? = some (.cells #[.int .i64 T.lits, .slice fa T.foes.length fc, .slice ra T.rules.length rc, .slice ba T.beats.length bc] 25 (0, 0)) := (HW.out.block _ (aD HX.out)).trans HX.out
 have Ah := TR.go HW.out HL.out
 have Af := hide (HB.out.trans (HW.out.mono HB.out.size))
 by_cases hlt : k < T.rules.length
 ·obtain ⟨x, hx⟩ := am hlt
  obtain ⟨g, of, a2, d2, rfl, -, k0, k1, k2, Ak, Al, hI⟩ := dG Ah.rules hx
  have HY := hide (kX (p := fun _ r => !ed T.lits r) hx)
  have HN := hide (mg (p := fun _ r => !ed T.lits r) hx)
  have hA := ae wr (.cells #[.int .i64 x.kind, .int .i64 x.head, .slice a2 x.body.length d2] 114)
  have Ab := heap_alloc_new wr (.cells #[.int .i64 x.kind, .int .i64 x.head, .slice a2 x.body.length d2] 114)
  have Ad := (hA.block _ (aD Ae)).trans Ae
  have CM := hide (ur (hI.go hA) T.lits)
  have HA := hide hA
  clear hx hI Ah hA Ae
  go_upto_region 6 with fail
  generalize wr.alloc (.cells #[.int .i64 x.kind, .int .i64 x.head, .slice a2 x.body.length d2] 114) = W2 at *
  obtain ⟨-, c0, c1, c2, c3⟩ := Bt.of Ad
  have r0 := cell_of_row W2 _ 0 _ _ _ Ab
  have r1 := cell_of_row W2 _ 1 _ _ _ Ab
  have r2 := cell_of_row W2 _ 2 _ _ _ Ab
  simp only [List.getElem?_toArray, List.getElem?_cons_zero, List.getElem?_cons_succ] at r0 r1 r2
  have Ai := hide (fun (X : World) (hX : Below W2.heap.size W2 X) => HW.out.trans ((HA.out.trans (hX.mono HA.out.size)).mono HW.out.size))
  have Aj := hide (fun (X : World) (hX : Below W2.heap.size W2 X) => Af.out.trans ((HA.out.trans (hX.mono HA.out.size)).mono Af.out.size))
  clear Ab Ad HA k0 k1 k2
  cases hok : ed T.lits x with
  | false =>
   have HE : Hid ((122, (k : Int)) = r) := hide (by have := HK.out; rw [HY.out (by simp [hok])] at this; exact this)
   rw [hok] at CM
   clear HK HY HN hok
   go_wp2_with (go_at_call 104; refine CM.out.mono ?_; rintro _ w1 ⟨rfl, Aa⟩; have Ac := hide (Aj.out w1 Aa); clear Aa)
   go_ret2
   exact ⟨aU HE.out, Ac.out⟩
  | true =>
   have HE : Hid (iY 122 (bQ (fun _ r => !ed T.lits r) (k + 1) (T.rules.drop (k + 1))) = r) := hide (by have := HK.out; rw [HN.out (by simp [hok])] at this; exact this)
   rw [hok] at CM
   clear HK HY HN hok
   go_wp2_with (go_at_call 104; refine CM.out.mono ?_; rintro _ w1 ⟨rfl, Aa⟩; have Ac := hide (Ai.out w1 Aa); clear Aa)
   go_roundw
   case rel => exact ⟨k + 1, by omega, by go_num, HE, Ac⟩
   case measure => simp [intOf]; omega
 have HE : Hid ((0, 0) = r) := hide (by have := HK.out; rw [bV (by omega)] at this; exact this)
 go_wp2_with fail
 go_ret2
 exact ⟨aU HE.out, Af.out⟩
end Go.Proofs.YtmlhcncagdfjfaaGreat
