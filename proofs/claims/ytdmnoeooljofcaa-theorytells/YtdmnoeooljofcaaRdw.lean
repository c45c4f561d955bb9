/- The reader: whole. -/
import Derived.Test.YtdmnoeooljofcaaRdu
namespace Go.Proofs.Ytdmnoeooljofcaa
open Go.RowKit

theorem vLs.keep {B : Nat} {w w' : World} {F : List (List Int)} {v : Value} (h : vLs B w F v) (hb : ∀ g, B ≤ g → g < w.heap.size → w'.heap[g]? = w.heap[g]?) (hs : w.heap.size ≤ w'.heap.size) : vLs B w' F v :=
  RZ.keep h (fun g hg => ⟨⟨hg.1, by have := hg.2; omega⟩, hb g hg.1 hg.2⟩) fun _ _ h => cLZ.keep (fun g hg => ⟨⟨hg.1, by have := hg.2; omega⟩, hb g hg.1 hg.2⟩) h
theorem vRs.keep {B : Nat} {w w' : World} {F : List RuleM} {v : Value} (h : vRs B w F v) (hb : ∀ g, B ≤ g → g < w.heap.size → w'.heap[g]? = w.heap[g]?) (hs : w.heap.size ≤ w'.heap.size) : vRs B w' F v :=
  RZ.keep h (fun g hg => ⟨⟨hg.1, by have := hg.2; omega⟩, hb g hg.1 hg.2⟩) fun _ _ h => cRZ.keep (fun g hg => ⟨⟨hg.1, by have := hg.2; omega⟩, hb g hg.1 hg.2⟩) h
theorem vLs.down {B B' : Nat} {w : World} {F : List (List Int)} {v : Value} (h : vLs B w F v) (hB : B' ≤ B) : vLs B' w F v :=
  RZ.keep h (fun g hg => ⟨⟨by have := hg.1; omega, hg.2⟩, rfl⟩) fun _ _ h => cLZ.keep (fun g hg => ⟨⟨by have := hg.1; omega, hg.2⟩, rfl⟩) h
theorem vRs.down {B B' : Nat} {w : World} {F : List RuleM} {v : Value} (h : vRs B w F v) (hB : B' ≤ B) : vRs B' w F v :=
  RZ.keep h (fun g hg => ⟨⟨by have := hg.1; omega, hg.2⟩, rfl⟩) fun _ _ h => cRZ.keep (fun g hg => ⟨⟨by have := hg.1; omega, hg.2⟩, rfl⟩) h
theorem vLs.rr {B : Nat} {w : World} {F : List (List Int)} {v : Value} (h : vLs B w F v) : Lists w.heap.size w F v := RZ.rr h (fun _ hg => hg.2) fun _ _ ⟨v, h1, h2⟩ => ⟨v, h1, RZ.rr h2 (fun _ hg => hg.2) fun _ _ h => h⟩
theorem vRs.rr {B : Nat} {w : World} {F : List RuleM} {v : Value} (h : vRs B w F v) : Rules w.heap.size w F v := RZ.rr h (fun _ hg => hg.2) fun _ _ ⟨v, h1, h2⟩ => ⟨v, h1, RZ.rr h2 (fun _ hg => hg.2) fun _ _ h => h⟩
/-- A theory in new memory. -/
structure TZ (B : Nat) (w : World) (T : Th) (fv rv bv : Value) : Prop where
  foes : vLs B w T.foes fv
  rules : vRs B w T.rules rv
  beats : vLs B w T.beats bv
theorem TZ.tr {B : Nat} {w : World} {T : Th} {fv rv bv : Value} (h : TZ B w T fv rv bv) : TR w.heap.size w T fv rv bv := ⟨h.foes.rr, h.rules.rr, h.beats.rr⟩
theorem TZ.keep {B : Nat} {w w' : World} {T : Th} {fv rv bv : Value} (h : TZ B w T fv rv bv) (hb : ∀ g, B ≤ g → g < w.heap.size → w'.heap[g]? = w.heap[g]?) (hs : w.heap.size ≤ w'.heap.size) : TZ B w' T fv rv bv := ⟨h.foes.keep hb hs, h.rules.keep hb hs, h.beats.keep hb hs⟩
/-- The two boxes of whole. -/
structure Tw (R Q0 Q1 : Nat) (a b c d : Value) (w W : World) : Prop where
  b0 : Fx Q0 27 [.int .i64 0, .slice none 0 0, .slice none 0 0, .slice none 0 0] W
  b1 : Fx Q1 27 [a, b, c, d] W
  lo : w.heap.size ≤ Q0 ∧ Q0 < Q1 ∧ R < w.heap.size
  fr : Fr (Zr R w) w W
section
variable {R Q0 Q1 : Nat} {a b c d : Value} {w W W' : World}
theorem Tw.call (h : Tw R Q0 Q1 a b c d w W) (hf : Fr (fun k => k = R) W W') : Tw R Q0 Q1 a b c d w W' := by
  obtain ⟨l1, l2, l3⟩ := h.lo
  exact ⟨h.b0.keep (hf.block _ h.b0.lt (by omega)), h.b1.keep (hf.block _ h.b1.lt (by omega)), h.lo, fr_of_r h.fr hf⟩
theorem Tw.set (h : Tw R Q0 Q1 a b c d w W) (i : Nat) (v : Value) {a' b' c' d' : Value} (e : [a, b, c, d].set i v = [a', b', c', d']) : Tw R Q0 Q1 a' b' c' d' w (W.setCell ⟨Q1, i, none⟩ v) := by
  obtain ⟨l1, l2, l3⟩ := h.lo
  refine ⟨h.b0.keep (other_set (by omega)), by rw [← e]; exact h.b1.set i v, h.lo, h.fr.trans (.setCell ⟨Q1, i, none⟩ v (.inr (by show w.heap.size ≤ Q1; omega)))⟩
theorem Tw.cells (h : Tw R Q0 Q1 a b c d w W) : W.cell? ⟨Q1, 0, none⟩ = some a ∧ W.cell? ⟨Q1, 1, none⟩ = some b ∧ W.cell? ⟨Q1, 2, none⟩ = some c ∧ W.cell? ⟨Q1, 3, none⟩ = some d ∧ ∀ i, W.frozen? ⟨Q1, i, none⟩ = false := ⟨h.b1.get rfl, h.b1.get rfl, h.b1.get rfl, h.b1.get rfl, h.b1.frz⟩
theorem Tw.rd {ba : Option Addr} {bc : Nat} {zs : List Int} {p : Nat} (h : Tw R Q0 Q1 a b c d w W) (hd : Rd R ba bc zs p W) (i : Nat) (v : Value) : Rd R ba bc zs p (W.setCell ⟨Q1, i, none⟩ v) := hd.keep fun k hk => other_set (by have := h.lo; omega)
end
/-- What whole answers. -/
def Ew (R : Nat) (w : World) (o : Er Th) (e : Ending) (w' : World) : Prop := Fr (fun k => k = R) w w' ∧ match o with
  | .ok T => ∃ fa fc ra rc ba bc, e = .returned (tv T fa fc ra rc ba bc) ∧ TZ w.heap.size w' T (.slice fa T.foes.length fc) (.slice ra T.rules.length rc) (.slice ba T.beats.length bc)
  | .error c => e = .panicked [flt c.1 c.2]
theorem Ew.no {R : Nat} {w w' : World} {o : Er Th} {c p : Int} (h : o = .error (c, p)) (hf : Fr (fun k => k = R) w w') : Ew R w o (.panicked [flt c p]) w' := by subst h; exact ⟨hf, rfl⟩
set_option maxRecDepth 100000 in
set_option maxHeartbeats 12800000 in
theorem whole_any {R : Nat} {ba : Option Addr} {bc : Nat} {zs : List Int} {w : World} (h : Rd R ba bc zs 0 w) :
    Calls Try.prog 23 #[ptr R] w fun e w' => Ew R w (wholeM zs) e w' := by
  obtain ⟨o, ho⟩ : ∃ o, wholeM zs = o := ⟨_, rfl⟩
  rw [ho]
  have HO := hide ho
  unfold wholeM at HO
  have hR := h.lt
  have hlen := h.len
  have hA := below_new w (.cells #[.int .i64 0, .slice none 0 0, .slice none 0 0, .slice none 0 0] 27)
  have CM := hide (mark_any (h.below hA))
  have HF0 : Hid (Fr (Zr R w) w (w.alloc (.cells #[.int .i64 0, .slice none 0 0, .slice none 0 0, .slice none 0 0] 27))) := hide (.of_below hA)
  have HX0 : Hid (Fx w.heap.size 27 [.int .i64 0, .slice none 0 0, .slice none 0 0, .slice none 0 0] (w.alloc (.cells #[.int .i64 0, .slice none 0 0, .slice none 0 0, .slice none 0 0] 27))) := hide (heap_alloc_new w _)
  clear h ho hA
  go_enter Try.func23, Try.ntmps23
  go_upto_region 1 with fail
  generalize w.alloc (.cells #[.int .i64 0, .slice none 0 0, .slice none 0 0, .slice none 0 0] 27) = W0 at *
  go_wp2_with fail
  refine CM.out.mono ?_
  rintro e w1 ⟨hf, ⟨e1, rfl, e3⟩ | ⟨c, p, e1, rfl⟩⟩
  rotate_left
  · exact on_panic rfl (Ew.no (bind_no HO.out e1) (fr_r (fr_of_r HF0.out hf)))
  have HO1 := hide (bind_ok HO.out e1)
  have hA := below_new w1 (.cells #[.int .i64 0, .slice none 0 0, .slice none 0 0, .slice none 0 0] 27)
  have hw1 : w.heap.size < w1.heap.size := by have h1 := HX0.out.lt; have h2 := hf.size; omega
  have HT1 : Hid (Tw R w.heap.size w1.heap.size (.int .i64 0) (.slice none 0 0) (.slice none 0 0) (.slice none 0 0) w (w1.alloc (.cells #[.int .i64 0, .slice none 0 0, .slice none 0 0, .slice none 0 0] 27))) := hide ⟨HX0.out.keep ((hA.block _ (by omega)).trans (hf.block _ HX0.out.lt (by omega))), heap_alloc_new w1 _, ⟨Nat.le_refl _, hw1, hR⟩, (fr_of_r HF0.out hf).trans (.of_below hA)⟩
  have HD1 := hide (e3.below hA)
  clear e1 e3 hf HO CM HF0 HX0 hA
  go_upto_region 3 with fail
  generalize w1.alloc (.cells #[.int .i64 0, .slice none 0 0, .slice none 0 0, .slice none 0 0] 27) = W1 at *
  generalize w1.heap.size = Q1 at *
  have CC := hide (count_any HD1.out (most := 4096) (by omega) (by omega))
  go_wp2_with fail
  refine CC.out.mono ?_
  intro e w2 hE
  rcases hE.split with ⟨z, q2, v, e1, rfl, e2, e3, e4⟩ | ⟨c, p', e1, rfl, e4⟩
  rotate_left
  · exact on_panic rfl (Ew.no (bind_no HO1.out e1) (fr_r (fr_of_r HT1.out.fr e4)))
  rw [vZ] at e2
  subst e2
  obtain ⟨hz0, hz1⟩ := num_in e1
  obtain ⟨n, rfl⟩ := Int.eq_ofNat_of_zero_le hz0
  have HO2 := hide (bind_ok HO1.out e1)
  have hT2 := HT1.out.call e4
  obtain ⟨c0, c1, c2, c3, cf⟩ := hT2.cells
  have cf0 := cf 0
  have HT3 := hide (hT2.set 0 (.int .i64 n) rfl)
  have HD3 := hide (hT2.rd e3 0 (.int .i64 n))
  have hn : n ≤ 4096 := by omega
  clear hE e1 e3 e4 HO1 HD1 HT1 CC hT2 cf hz0 hz1
  go_upto_region 4 with fail
  clear c0 c1 c2 c3 cf0
  generalize w2.setCell ⟨Q1, 0, none⟩ (.int .i64 n) = w3 at *
  obtain ⟨c0, c1, c2, c3, cf⟩ := HT3.out.cells
  have CF := hide (foes_any HD3.out hn)
  go_wp2_with fail
  refine CF.out.mono ?_
  intro e w4 hE
  rcases hE.split with ⟨F, q4, v, e1, rfl, ⟨e2, e5⟩, e3, e4⟩ | ⟨c, p', e1, rfl, e4⟩
  rotate_left
  · exact on_panic rfl (Ew.no (bind_no HO2.out (by simpa using e1)) (fr_r (fr_of_r HT3.out.fr e4)))
  obtain ⟨fa, fc, rfl⟩ := e5.form
  have HO3 := hide (bind_ok HO2.out (by simpa using e1))
  have hT4 := HT3.out.call e4
  have hQ3 : Q1 < w3.heap.size := HT3.out.b1.lt
  have hs4 : w3.heap.size ≤ w4.heap.size := e4.size
  obtain ⟨d0, d1, d2, d3, df⟩ := hT4.cells
  have df1 := df 1
  have HT5 := hide (hT4.set 1 (.slice fa F.length fc) rfl)
  have HD5 := hide (hT4.rd e3 1 (.slice fa F.length fc))
  have HV5 : Hid (vLs w3.heap.size (w4.setCell ⟨Q1, 1, none⟩ (.slice fa F.length fc)) F (.slice fa F.length fc)) := hide (e5.keep (fun g hg hl => other_set (by omega)) (by simp))
  have hB3 : w.heap.size ≤ w3.heap.size := HT3.out.fr.size
  have HLF := hide e2
  clear hE e1 e3 e4 e5 e2 HO2 HD3 CF hT4 df c0 c1 c2 c3 cf
  go_upto_region 5 with fail
  clear d0 d1 d2 d3 df1
  have hs5 : w3.heap.size ≤ (w4.setCell ⟨Q1, 1, none⟩ (.slice fa F.length fc)).heap.size := by simp; omega
  clear HT3 hs4
  generalize w4.setCell ⟨Q1, 1, none⟩ (.slice fa F.length fc) = w5 at *
  obtain ⟨c0, c1, c2, c3, cf⟩ := HT5.out.cells
  have CR := hide (rules_any HD5.out (lits := n) (by omega) (by omega))
  go_wp2_with fail
  refine CR.out.mono ?_
  intro e w6 hE
  rcases hE.split with ⟨Rl, q6, v, e1, rfl, ⟨e2, e5⟩, e3, e4⟩ | ⟨c, p', e1, rfl, e4⟩
  rotate_left
  · exact on_panic rfl (Ew.no (bind_no HO3.out e1) (fr_r (fr_of_r HT5.out.fr e4)))
  obtain ⟨ra, rc, rfl⟩ := e5.form
  have HO4 := hide (bind_ok HO3.out e1)
  have hT6 := HT5.out.call e4
  have hs6 : w5.heap.size ≤ w6.heap.size := e4.size
  have hQ5 : Q1 < w5.heap.size := HT5.out.b1.lt
  obtain ⟨d0, d1, d2, d3, df⟩ := hT6.cells
  have df2 := df 2
  have HT7 := hide (hT6.set 2 (.slice ra Rl.length rc) rfl)
  have HD7 := hide (hT6.rd e3 2 (.slice ra Rl.length rc))
  have HVR7 : Hid (vRs w5.heap.size (w6.setCell ⟨Q1, 2, none⟩ (.slice ra Rl.length rc)) Rl (.slice ra Rl.length rc)) := hide (e5.keep (fun g hg hl => other_set (by omega)) (by simp))
  have HV7 : Hid (vLs w3.heap.size (w6.setCell ⟨Q1, 2, none⟩ (.slice ra Rl.length rc)) F (.slice fa F.length fc)) := hide ((HV5.out.keep (fun g hg hl => e4.block g hl (by omega)) hs6).keep (fun g hg hl => other_set (by omega)) (by simp))
  have hRl : Rl.length ≤ 4096 := e2
  clear hE e1 e3 e4 e5 e2 HO3 HD5 CR hT6 df c0 c1 c2 c3 cf HV5
  go_upto_region 6 with fail
  clear d0 d1 d2 d3 df2
  have hs7 : w5.heap.size ≤ (w6.setCell ⟨Q1, 2, none⟩ (.slice ra Rl.length rc)).heap.size := by simp; omega
  clear HT5 hs6
  generalize w6.setCell ⟨Q1, 2, none⟩ (.slice ra Rl.length rc) = w7 at *
  obtain ⟨c0, c1, c2, c3, cf⟩ := HT7.out.cells
  have CB := hide (beats_any HD7.out hRl)
  go_wp2_with fail
  refine CB.out.mono ?_
  intro e w8 hE
  rcases hE.split with ⟨bt, q8, v, e1, rfl, e5, e3, e4⟩ | ⟨c, p', e1, rfl, e4⟩
  rotate_left
  · exact on_panic rfl (Ew.no (bind_no HO4.out e1) (fr_r (fr_of_r HT7.out.fr e4)))
  obtain ⟨ba2, bc2, rfl⟩ := e5.form
  have HO5 := hide (bind_ok HO4.out e1)
  have hT8 := HT7.out.call e4
  have hs8 : w7.heap.size ≤ w8.heap.size := e4.size
  have hQ7 : Q1 < w7.heap.size := HT7.out.b1.lt
  obtain ⟨d0, d1, d2, d3, df⟩ := hT8.cells
  have df3 := df 3
  have HT9 := hide (hT8.set 3 (.slice ba2 bt.length bc2) rfl)
  have HD9 := hide (hT8.rd e3 3 (.slice ba2 bt.length bc2))
  have HZ9 : Hid (TZ (w.heap.size + 1) (w8.setCell ⟨Q1, 3, none⟩ (.slice ba2 bt.length bc2)) ⟨n, F, Rl, bt⟩ (.slice fa F.length fc) (.slice ra Rl.length rc) (.slice ba2 bt.length bc2)) := hide ⟨
    ((HV7.out.keep (fun g hg hl => e4.block g hl (by omega)) hs8).keep (fun g hg hl => other_set (by omega)) (by simp)).down (by omega),
    ((HVR7.out.keep (fun g hg hl => e4.block g hl (by omega)) hs8).keep (fun g hg hl => other_set (by omega)) (by simp)).down (by omega),
    (vLs.keep e5 (fun g hg hl => other_set (by omega)) (by simp)).down (by omega)⟩
  clear hE e1 e3 e4 e5 HO4 HD7 CB hT8 df c0 c1 c2 c3 cf HV7 HVR7
  go_upto_region 7 with fail
  clear d0 d1 d2 d3 df3
  clear HT7 hs8 hs7 hs5 hQ3 hQ5 hQ7 hB3
  generalize w8.setCell ⟨Q1, 3, none⟩ (.slice ba2 bt.length bc2) = w9 at *
  clear w1 W1 w2 w3 w4 w5 w6 w7 w8
  unfold tailM at HO5
  clear hn hRl HLF
  have rc0 := HD9.out.c0
  have rc1 := HD9.out.c1
  have hpos := HD9.out.pos
  have hq : w.heap.size ≤ w9.heap.size := HT9.out.fr.size
  have HX : Hid (∀ nq, Tw R w.heap.size Q1 (.int .i64 n) (.slice fa F.length fc) (.slice ra Rl.length rc) (.slice ba2 bt.length bc2) w (w9.drewN nq)) := hide fun nq => HT9.out.call (.of_below (below_drewN w9 nq))
  by_cases hp : q8 < zs.length
  · have HE : Hid (o = .error (9, (q8 : Int))) := hide (by have := HO5.out; rw [if_pos hp] at this; exact this.symm)
    have CG := hide (fun c p X => giveUp_any (ptr R) c p X)
    go_quiet (fail)
    go_wp2_with (go_at_call 43; refine (CG.out _ _ _).mono ?_; rintro _ wx ⟨rfl, hw⟩; subst wx)
    exact on_panic rfl (Ew.no HE.out (fr_r (HX.out _).fr))
  · have HO6 := hide HO5.out
    rw [if_neg hp] at HO6
    clear HO5
    go_quiet (fail)
    have HT10 := hide (HX.out nq)
    have HZ10 := hide (HZ9.out.keep (w' := w9.drewN nq) (fun g _ hl => (below_drewN w9 nq).block g hl) (below_drewN w9 nq).size)
    clear HX HZ9 HT9 HD9 rc0 rc1 hq
    generalize w9.drewN nq = w10 at *
    obtain ⟨c0, c1, c2, c3, cf⟩ := HT10.out.cells
    have CC := hide (check_any (T := ⟨n, F, Rl, bt⟩) HZ10.out.tr)
    obtain ⟨a, b, hab⟩ : ∃ a b, checkM ⟨n, F, Rl, bt⟩ = (a, b) := ⟨_, _, rfl⟩
    rw [hab] at CC HO6
    unfold dup tv at CC
    simp only at CC HO6
    have hl10 : w.heap.size ≤ w10.heap.size := HT10.out.fr.size
    by_cases ha : a = 0
    · have HE : Hid (o = .ok ⟨n, F, Rl, bt⟩) := hide (by have := HO6.out; rw [if_neg (by simpa using ha)] at this; exact this.symm)
      subst ha
      clear hab HO6
      go_upto_region 12 with (go_at_call 31; refine CC.out.mono ?_; rintro _ w11 ⟨rfl, hw11⟩; have HT11 := hide (HT10.out.call (.of_below hw11)); have HZ11 := hide (HZ10.out.keep (w' := w11) (fun g _ hl => hw11.block g hl) hw11.size); clear hw11)
      clear c0 c1 c2 c3 cf CC HT10 HZ10
      obtain ⟨c0, c1, c2, c3, cf⟩ := HT11.out.cells
      have z0 : w11.cell? ⟨w.heap.size, 0, none⟩ = some (.int .i64 0) := HT11.out.b0.get rfl
      have z1 : w11.cell? ⟨w.heap.size, 1, none⟩ = some (.slice none 0 0) := HT11.out.b0.get rfl
      have z2 : w11.cell? ⟨w.heap.size, 2, none⟩ = some (.slice none 0 0) := HT11.out.b0.get rfl
      have z3 : w11.cell? ⟨w.heap.size, 3, none⟩ = some (.slice none 0 0) := HT11.out.b0.get rfl
      have zf := HT11.out.b0.frz
      have hS := (((HT11.out.b0.set 0 (.int .i64 n)).set 1 (.slice fa F.length fc)).set 2 (.slice ra Rl.length rc)).set 3 (.slice ba2 bt.length bc2)
      simp only [List.set_cons_zero, List.set_cons_succ] at hS
      have k0 := hS.get (i := 0) rfl
      have k1 := hS.get (i := 1) rfl
      have k2 := hS.get (i := 2) rfl
      have k3 := hS.get (i := 3) rfl
      have HK := hide (And.intro k0 (And.intro k1 (And.intro k2 k3)))
      have HFn : Hid (Fr (Zr R w) w ((((w11.setCell ⟨w.heap.size, 0, none⟩ (.int .i64 n)).setCell ⟨w.heap.size, 1, none⟩ (.slice fa F.length fc)).setCell ⟨w.heap.size, 2, none⟩ (.slice ra Rl.length rc)).setCell ⟨w.heap.size, 3, none⟩ (.slice ba2 bt.length bc2))) := hide ((((HT11.out.fr.trans (.setCell _ _ (.inr (Nat.le_refl _)))).trans (.setCell _ _ (.inr (Nat.le_refl _)))).trans (.setCell _ _ (.inr (Nat.le_refl _)))).trans (.setCell _ _ (.inr (Nat.le_refl _))))
      have HZF : Hid (TZ w.heap.size ((((w11.setCell ⟨w.heap.size, 0, none⟩ (.int .i64 n)).setCell ⟨w.heap.size, 1, none⟩ (.slice fa F.length fc)).setCell ⟨w.heap.size, 2, none⟩ (.slice ra Rl.length rc)).setCell ⟨w.heap.size, 3, none⟩ (.slice ba2 bt.length bc2)) ⟨n, F, Rl, bt⟩ (.slice fa F.length fc) (.slice ra Rl.length rc) (.slice ba2 bt.length bc2)) := hide (by
        have hz := HZ11.out.keep (w' := ((((w11.setCell ⟨w.heap.size, 0, none⟩ (.int .i64 n)).setCell ⟨w.heap.size, 1, none⟩ (.slice fa F.length fc)).setCell ⟨w.heap.size, 2, none⟩ (.slice ra Rl.length rc)).setCell ⟨w.heap.size, 3, none⟩ (.slice ba2 bt.length bc2))) (fun g hg _ => by rw [other_set (by omega), other_set (by omega), other_set (by omega), other_set (by omega)]) (by simp)
        exact ⟨hz.foes.down (by omega), hz.rules.down (by omega), hz.beats.down (by omega)⟩)
      clear hS k0 k1 k2 k3
      go_wp2_with fail
      generalize ((((w11.setCell ⟨w.heap.size, 0, none⟩ (.int .i64 n)).setCell ⟨w.heap.size, 1, none⟩ (.slice fa F.length fc)).setCell ⟨w.heap.size, 2, none⟩ (.slice ra Rl.length rc)).setCell ⟨w.heap.size, 3, none⟩ (.slice ba2 bt.length bc2)) = WF at *
      obtain ⟨k0, k1, k2, k3⟩ := HK.out
      have HFin : Hid (Ew R w o (.returned (.agg #[.int .i64 n, .slice fa F.length fc, .slice ra Rl.length rc, .slice ba2 bt.length bc2])) WF) := hide (by rw [HE.out]; exact ⟨fr_r HFn.out, fa, fc, ra, rc, ba2, bc2, rfl, HZF.out⟩)
      simp [bodyPost, results, Try.results23, go_sem, k0, k1, k2, k3]
      exact HFin.out
    · have HE : Hid (o = .error (a, 0)) := hide (by have := HO6.out; rw [if_pos (by simpa using ha)] at this; exact this.symm)
      have hab2 : (a != 0) = true := by simpa using ha
      have CG := hide (fun c p X => giveUp_any (ptr R) c p X)
      clear hab HO6
      go_wp2_with (first | (go_at_call 31; refine CC.out.mono ?_; rintro _ w11 ⟨rfl, hw11⟩; have HT11 := hide (HT10.out.call (.of_below hw11)); clear hw11) | (go_at_call 43; refine (CG.out _ _ _).mono ?_; rintro _ wx ⟨rfl, hw⟩; subst wx))
      exact on_panic rfl (Ew.no HE.out (fr_r HT11.out.fr))
end Go.Proofs.Ytdmnoeooljofcaa
