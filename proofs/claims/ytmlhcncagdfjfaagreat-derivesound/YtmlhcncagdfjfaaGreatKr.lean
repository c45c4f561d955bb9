import Derived.Test.YtmlhcncagdfjfaaGreatKe
import Derived.Test.YtmlhcncagdfjfaaGreatHrow
import Derived.Test.YtmlhcncagdfjfaaGreatWk
set_option maxRecDepth 100000
set_option maxHeartbeats 6400000
namespace Go.Proofs.YtmlhcncagdfjfaaGreat
open Go.RowKit
theorem tY : (Tryz.prog.info? 67).map (fun i => (i.zero, i.size, i.bytes)) = some (some (.int .u8 0), 1, 1) := by kernel_rfl
theorem zI (l : List Int) : ∀ u ∈ dJ l, u.oneCell' = true := by
 intro u hu
 unfold dJ at hu
 obtain ⟨x, _, rfl⟩ := List.mem_map.1 hu
 rfl
theorem oH {w : World} : Calls Tryz.prog 134 #[] w fun e w' => e = .returned (.agg #[.func (.func 162) #[] #[] , .func (.func 163) #[] #[] , .func (.func 164) #[] #[] , .func (.func 165) #[] #[]]) ∧ Below w.heap.size w w' := by
 have hB := hide (ae w (.cells #[.func (.func 162) #[] #[] , .func (.func 163) #[] #[] , .func (.func 164) #[] #[] , .func (.func 165) #[] #[]] 191))
 go_enter Tryz.func134, Tryz.ntmps134
 go_wp2_with fail
 (try simp only [Exit.inBlock, Exit.then])
 refine bodyPost_ret (results_cell_row rfl _ _ w.heap.size 191 #[.func (.func 162) #[] #[] , .func (.func 163) #[] #[] , .func (.func 164) #[] #[] , .func (.func 165) #[] #[]] _ _ rfl (heap_alloc_new w _) Tryz.underlying191 rfl (by kernel_rfl)) rfl ?_
 exact ⟨rfl, hB.out⟩
theorem sZ {w : World} {a : Option Addr} {c : Nat} {m : List Int} (h : At1 w a (dJ m)) (hl : m.length ≤ 4096) :
    Calls Tryz.prog 135 #[.slice a m.length c] w fun e w' => ∃ v, e = .returned v ∧ w'.ownsRow w.heap.size 67 1 v m.length (dJ m) ∧ Below w.heap.size w w' := by
 obtain ⟨iI, Ag, Af, Aj, Ae⟩ := info_parts tY
 have qT : ∀ (w : World) (a : Option Addr) (n c n' c' : Nat), (binOp .eql 64 (.slice a n c) (.slice none n' c')).run Tryz.prog w = .ok (.bool a.isNone) w := fun w a n c n' c' => Lib.run_eql_slice_nil w _ _ a n c n' c' Tryz.underlying64
 cases a with
 | none =>
  have hm : m = [] := by
   cases m with
   | nil => rfl
   | cons x r =>
    obtain ⟨g, o, e, -⟩ := h 0 _ rfl
    cases e
  subst hm
  clear h
  go_enter Tryz.func135, Tryz.ntmps135
  go_wp2_with fail
  go_ret
  exact ⟨_, rfl, World.ownsRow_nil w _ _ _, Below.refl _ _⟩
 | some ad =>
  have hA := ae w (.cells #[] 67)
  have HE : Hid ((w.alloc (.cells #[] 67)).ownsRow w.heap.size 67 1 (.slice (some ⟨w.heap.size, 0, none⟩) 0 0) 0 []) := hide ⟨rfl, .inr ⟨w.heap.size, 0, #[], rfl, Nat.le_refl _, heap_alloc_new w _, Nat.le_refl _, Nat.zero_le _, rfl, rfl⟩⟩
  have HS : Hid (Src Tryz.prog 1 64 (.slice (some ad) m.length c) m.length (dJ m) (w.alloc (.cells #[] 67))) := hide (Src.ofSlice _ Tryz.underlying64 _ _ _ _ (by rw [cY]; omega) (fun j u hu => by
   obtain ⟨g, o, e, h1⟩ := h j u hu
   cases e
   rw [Addr.add_lit]
   exact (World.cell?_of_block (hA.block g (World.block_lt_of_cell? w _ h1))).trans h1) (zI m))
  have Ac : Hid ((w.alloc (.cells #[] 67)).heap.size = w.heap.size + 1) := hide (by simp)
  have HA := hide hA
  obtain ⟨k, hk⟩ : ∃ k, m.length = k := ⟨_, rfl⟩
  rw [hk] at hl HS ⊢
  clear h hA hk
  go_enter Tryz.func135, Tryz.ntmps135
  go_wp2_with (at_builtin; go_must (refine gQ _ (by rw [Ac.out]; omega) (by rfl) _ _ 64 64 rfl 67 iI _ 1 1 Tryz.underlying64 Ag Af Aj Ae rfl (.slice (some ⟨w.heap.size, 0, none⟩) 0 0) 0 [] rfl HE.out (.slice (some ad) k c) k (dJ m) rfl HS.out (by unfold maxLen; omega) (by omega) ?_); intro v4 w4 Aa Ab Ad; rw [Nat.zero_add, List.nil_append] at Aa; have Ai := hide Aa; have Ah : Hid (Below w.heap.size w w4) := hide (HA.out.trans ((Fr.of_grown (Z := fun k => w.heap.size ≤ k) Ab (fun k e => by cases e; exact Nat.le_refl _)).below fun k hk => ⟨by rw [Ac.out]; omega, by omega⟩)); clear Aa Ab Ad)
  go_ret
  exact ⟨_, rfl, Ai.out, Ah.out⟩
theorem qN {l k : List Int} (h : ∀ i : Nat, i < l.length → l.getD i 0 = k.getD i 0) (hl : l.length = k.length) : l = k := by
 apply List.ext_getElem?
 intro i
 by_cases hi : i < l.length
 ·have := h i hi
  rw [List.getD_eq_getElem?_getD, List.getD_eq_getElem?_getD, List.getElem?_eq_getElem hi, List.getElem?_eq_getElem (by omega)] at this
  rw [List.getElem?_eq_getElem hi, List.getElem?_eq_getElem (by omega)]
  exact congrArg some this
 rw [List.getElem?_eq_none (by omega), List.getElem?_eq_none (by omega)]
theorem sx {w : World} {a b : Option Addr} {c d : Nat} {l k : List Int} (hl : At1 w a (dJ l)) (hk : At1 w b (dJ k)) (hlim : l.length ≤ 4096) (he : l.length = k.length) :
    Calls Tryz.prog 100 #[.slice a l.length c, .slice b k.length d] w fun e w' => e = .returned (.bool (decide (l = k))) ∧ ∃ q, w' = w.drewN q := by
 have HL := hide hl
 have HK := hide hk
 obtain ⟨o, ho⟩ : ∃ o, decide (l = k) = o := ⟨_, rfl⟩
 rw [ho]
 have HO := hide ho
 clear hl hk ho
 go_enter Tryz.func100, Tryz.ntmps100
 go_wp2_with fail
 go_loopw [13] (fun x wr => ∃ i : Nat, i ≤ l.length ∧ x = .int .i64 i ∧ Hid (∀ j : Nat, j < i → l.getD j 0 = k.getD j 0) ∧ Hid (∃ q, wr = w.drewN q)) (fun x _ => l.length - (intOf x).toNat)
 case atStart => exact ⟨0, by omega, rfl, hide fun j hj => by omega, hide ⟨0, rfl⟩⟩
 obtain ⟨i, hi, rfl, HA, HQ⟩ := hrel
 by_cases hlt : i < l.length
 ·have Ab : i < k.length := by omega
  obtain ⟨g, gg, rfl, cx⟩ := HL.out i _ (gL hlt)
  obtain ⟨g2, Ad, rfl, cy⟩ := HK.out i _ (gL Ab)
  have Af : wr.cell? ⟨g, gg + i, none⟩ = some (.int .u8 (l.getD i 0)) := by obtain ⟨q, rfl⟩ := HQ.out; exact cx
  have Ae : wr.cell? ⟨g2, Ad + i, none⟩ = some (.int .u8 (k.getD i 0)) := by obtain ⟨q, rfl⟩ := HQ.out; exact cy
  clear cx cy
  by_cases hxy : l.getD i 0 = k.getD i 0
  ·have Ac : Hid (∀ j : Nat, j < i + 1 → l.getD j 0 = k.getD j 0) := hide fun j hj => by
    by_cases e : j = i
    ·subst e; exact hxy
    exact HA.out j (by omega)
   generalize l.getD i 0 = x at *
   generalize k.getD i 0 = y at *
   subst hxy
   clear HA
   go_wp2_with fail
   go_quiet (fail)
   have Aa : Hid (∃ q, wr.drewN nq = w.drewN q) := hide (by obtain ⟨q, rfl⟩ := HQ.out; exact ⟨q + nq, by unfold World.drewN; simp [Nat.add_assoc]⟩)
   go_wp2_with fail
   go_roundw
   case rel => exact ⟨i + 1, by omega, by go_num, Ac, Aa⟩
   case measure => simp [intOf]; omega
  have HE : Hid (o = false) := hide (by rw [← HO.out]; exact decide_eq_false fun e => hxy (by rw [e]))
  have Ag : (l.getD i 0 == k.getD i 0) = false := by simpa using hxy
  generalize l.getD i 0 = x at *
  generalize k.getD i 0 = y at *
  clear HA hxy
  go_wp2_with fail
  go_quiet (fail)
  have Aa : Hid (∃ q, wr.drewN nq = w.drewN q) := hide (by obtain ⟨q, rfl⟩ := HQ.out; exact ⟨q + nq, by unfold World.drewN; simp [Nat.add_assoc]⟩)
  go_wp2_with fail
  go_ret
  exact ⟨by rw [HE.out]; rfl, Aa.out⟩
 have HE : Hid (o = true) := hide (by rw [← HO.out]; exact decide_eq_true (qN (fun j hj => HA.out j (by omega)) he))
 go_wp2_with fail
 go_ret
 exact ⟨by rw [HE.out]; rfl, HQ.out⟩
def aB (T : Th) (F m : List Int) (q k : Nat) : List Int := (List.range m.length).map fun i : Nat => if i < q then bA T F m i 4 (m.getD i 0) else if i = q then bA T F m i k (m.getD i 0) else m.getD i 0
theorem aP {T : Th} {F m : List Int} {q k : Nat} : (aB T F m q k).length = m.length := by unfold aB; simp
theorem eo {T : Th} {F m : List Int} {q k i : Nat} (hi : i < m.length) : (aB T F m q k)[i]? = some (if i < q then bA T F m i 4 (m.getD i 0) else if i = q then bA T F m i k (m.getD i 0) else m.getD i 0) := by unfold aB; rw [List.getElem?_map, List.getElem?_range hi]; rfl
theorem ii {m l k : List Int} (h1 : l.length = m.length) (h2 : k.length = m.length) (h : ∀ i : Nat, i < m.length → l[i]? = k[i]?) : l = k := by
 apply List.ext_getElem?
 intro i
 by_cases hi : i < m.length
 ·exact h i hi
 rw [List.getElem?_eq_none (by omega), List.getElem?_eq_none (by omega)]
theorem sW {T : Th} {F m : List Int} : aB T F m 0 0 = m := by
 refine ii aP rfl fun i hi => ?_
 rw [eo hi, List.getElem?_eq_getElem hi]
 have e : m.getD i 0 = m[i] := by rw [List.getD_eq_getElem?_getD, List.getElem?_eq_getElem hi]; rfl
 rw [if_neg (by omega)]
 split
 ·unfold bA; rw [e]
 rw [e]
theorem wF {T : Th} {F m : List Int} : aB T F m m.length 0 = aO T F m := by
 refine ii aP cV fun i hi => ?_
 rw [eo hi, if_pos hi]
 unfold aO
 rw [List.getElem?_map, List.getElem?_range hi]
 rfl
theorem uu {T : Th} {F m : List Int} {q : Nat} : aB T F m q 4 = aB T F m (q + 1) 0 := by
 refine ii aP aP fun i hi => ?_
 rw [eo hi, eo hi]
 by_cases h1 : i < q
 ·rw [if_pos h1, if_pos (by omega)]
 by_cases h2 : i = q
 ·rw [if_neg h1, if_pos h2, if_pos (by omega)]
 rw [if_neg h1, if_neg h2, if_neg (by omega)]
 split
 ·rfl
 rfl
theorem vQ {T : Th} {F m : List Int} {q k : Nat} (hq : q < m.length) : (aB T F m q k).getD q 0 = bA T F m q k (m.getD q 0) := by
 rw [List.getD_eq_getElem?_getD, eo hq, if_neg (by omega), if_pos rfl]
 rfl
theorem jY {T : Th} {F m : List Int} {q k : Nat} (hq : q < m.length) : (aB T F m q k).set q (bA T F m q (k + 1) (m.getD q 0)) = aB T F m q (k + 1) := by
 refine ii (by rw [List.length_set]; exact aP) aP fun i hi => ?_
 by_cases h2 : q = i
 ·subst h2
  rw [List.getElem?_set_self (by rw [aP]; exact hq), eo hi, if_neg (by omega), if_pos rfl]
 rw [List.getElem?_set_ne h2, eo hi, eo hi]
 by_cases h1 : i < q
 ·rw [if_pos h1, if_pos h1]
 rw [if_neg h1, if_neg h1, if_neg (by omega), if_neg (by omega)]
theorem dS {T : Th} {F m : List Int} {q k : Nat} (hq : q < m.length) (h : bA T F m q (k + 1) (m.getD q 0) = bA T F m q k (m.getD q 0)) : aB T F m q k = aB T F m q (k + 1) := by
 refine ii aP aP fun i hi => ?_
 rw [eo hi, eo hi]
 by_cases h1 : i < q
 ·rw [if_pos h1, if_pos h1]
 by_cases h2 : i = q
 ·subst h2; rw [if_neg h1, if_pos rfl, if_neg h1, if_pos rfl, h]
 rw [if_neg h1, if_neg h2, if_neg h1, if_neg h2]
theorem yf {ex : List Value} {X : List Int} {q : Nat} {x : Int} (hq : q < X.length) : (dJ X ++ ex).set q (.int .u8 x) = dJ (X.set q x) ++ ex := by
 rw [List.set_append_left _ _ (by rw [cY]; exact hq)]
 unfold dJ
 rw [List.map_set]
section
variable {K n : Nat} {A : Ka} {T : Th} {F m : List Int} {ma : Option Addr} {mc : Nat} {w w' : World}
structure Rq (g ab : Nat) (X : List Int) (ex : List Value) (w w' : World) : Prop where
 low : Below w.heap.size w w'
 rw : Fx g 67 (dJ X ++ ex) w'
 tb : Fx ab 191 [.func (.func 162) #[] #[] , .func (.func 163) #[] #[] , .func (.func 164) #[] #[] , .func (.func 165) #[] #[]] w'
theorem Rq.go {g ab : Nat} {X : List Int} {ex : List Value} {w'' : World} (h : Rq g ab X ex w w') (hb : Below w'.heap.size w' w'') : Rq g ab X ex w w'' := ⟨h.low.trans (hb.mono h.low.size), h.rw.keep (hb.block _ h.rw.lt), h.tb.keep (hb.block _ h.tb.lt)⟩
theorem Rq.set {g ab q : Nat} {X : List Int} {ex : List Value} {x : Int} (h : Rq g ab X ex w w') (hq : q < X.length) (hg : w.heap.size ≤ g) : Rq g ab (X.set q x) ex w (w'.setCell ⟨g, q, none⟩ (.int .u8 x)) := by
 refine ⟨h.low.setCell (p := ⟨g, q, none⟩) hg _, ?_, h.tb.keep (other_set (an h.tb h.rw (by decide)))⟩
 have := h.rw.set q (.int .u8 x)
 rw [yf hq] at this
 exact this
theorem tJ (h : Kn K A T F n m ma mc w) :
    Calls Tryz.prog 99 #[aa K] w fun e w' => ∃ v, e = .returned v ∧ w'.ownsRow w.heap.size 67 1 v n (dJ (aO T F m)) ∧ Below w.heap.size w w' := by
 have HK := hide h
 have AO := h.pf.n4
 have At := h.ml
 have CC := hide (oH (w := w))
 clear h
 go_enter Tryz.func99, Tryz.ntmps99
 go_upto_region 2 with (go_at_call 134; refine CC.out.mono ?_; rintro _ w1 ⟨rfl, Az⟩; have Ar := hide Az; clear Az)
 have hA := ae w1 (.cells #[.func (.func 162) #[] #[] , .func (.func 163) #[] #[] , .func (.func 164) #[] #[] , .func (.func 165) #[] #[]] 191)
 have Ax : Hid (Fx w1.heap.size 191 [.func (.func 162) #[] #[] , .func (.func 163) #[] #[] , .func (.func 164) #[] #[] , .func (.func 165) #[] #[]] (w1.alloc (.cells #[.func (.func 162) #[] #[] , .func (.func 163) #[] #[] , .func (.func 164) #[] #[] , .func (.func 165) #[] #[]] 191))) := hide (heap_alloc_new w1 _)
 have An := hide (Ar.out.trans (hA.mono Ar.out.size))
 have AN : Hid (w.heap.size ≤ w1.heap.size) := hide Ar.out.size
 clear hA Ar CC
 generalize w1.alloc (.cells #[.func (.func 162) #[] #[] , .func (.func 163) #[] #[] , .func (.func 164) #[] #[] , .func (.func 165) #[] #[]] 191) = w2 at *
 have Au := HK.out.go An.out
 have k8 := Au.bx.get (i := 8) rfl
 have CK := hide (sZ (c := mc) Au.mm (by omega))
 rw [At] at CK
 clear Au
 go_upto_region 3 with (go_at_call 135; refine CK.out.mono ?_; rintro _ w3 ⟨v, rfl, Aw, AB⟩; have Ao := hide Aw; have Av := hide AB; clear AB Aw)
 clear k8 CK
 have Ay : Hid (w.heap.size ≤ w2.heap.size) := hide An.out.size
 by_cases hn0 : n = 0
 ·subst hn0
  have AD : m = [] := List.eq_nil_of_length_eq_zero At
  subst AD
  obtain ⟨va, vc, rfl⟩ := bf Ao.out
  go_wp2_with fail
  go_loopw [15] (fun x wr => x = .int .i64 0 ∧ Hid (wr = w3)) (fun x _ => 0)
  case atStart => exact ⟨rfl, hide rfl⟩
  obtain ⟨rfl, HW⟩ := hrel
  go_wp2_with fail
  go_ret
  rw [HW.out]
  exact ⟨_, rfl, aI Ao.out Ay.out, An.out.trans (Av.out.mono An.out.size)⟩
 obtain ⟨AI, AL⟩ := Ao.out
 rcases AL with ⟨-, e0⟩ | ⟨g, cap, Aq, rfl, AA, hg, AE, AJ, AK, Ap⟩
 ·exact absurd e0 hn0
 obtain ⟨ex, As⟩ : ∃ ex, Aq.toList = dJ m ++ ex := ⟨Aq.toList.drop n, by
  have := List.take_append_drop n Aq.toList
  rw [Nat.mul_one] at Ap
  rw [Ap] at this
  exact this.symm⟩
 have Ac : Hid (Rq g w1.heap.size (aB T F m 0 0) ex w w3) := hide ⟨An.out.trans (Av.out.mono An.out.size), by
  rw [sW]
  unfold Fx
  rw [hg, ← As], Ax.out.keep (Av.out.block _ Ax.out.lt)⟩
 have HG : Hid (w.heap.size ≤ g) := hide (Nat.le_trans Ay.out AA)
 have AF : Hid (cap = n + ex.length) := hide (by
  have h1 : Aq.toList.length = Aq.size := Array.length_toList
  rw [As, List.length_append, cY] at h1
  omega)
 have AC := hide AE
 have AH := hide AJ
 clear hg As Ap AK AI Ao Ax AA
 go_wp2_with fail
 go_loopw [15] (fun x wr => ∃ q : Nat, q ≤ n ∧ x = .int .i64 q ∧ Hid (Rq g w1.heap.size (aB T F m q 0) ex w wr)) (fun x _ => n - (intOf x).toNat)
 case atStart => exact ⟨0, by omega, rfl, Ac⟩
 clear Ac
 obtain ⟨q, hq, rfl, Ac⟩ := hrel
 by_cases hlt : q < n
 ·go_wp2_with fail
  go_loopw [6] (fun x wr => ∃ k : Nat, k ≤ 4 ∧ x = .int .i64 (k + 1 : Nat) ∧ Hid (Rq g w1.heap.size (aB T F m q k) ex w wr)) (fun x _ => 5 - (intOf x).toNat)
  case atStart => exact ⟨0, by omega, rfl, Ac⟩
  clear Ac
  obtain ⟨k, AM, rfl, Ac⟩ := hrel
  by_cases hk : k < 4
  ·have Ad : q < m.length := by omega
   have r0 := Ac.out.rw.get (i := q) (v := .int .u8 ((aB T F m q k).getD q 0)) (by rw [List.getElem?_append_left (by rw [cY, aP]; exact Ad)]; exact gL (by rw [aP]; exact Ad))
   have f0 := Ac.out.rw.frz q
   have Aj := HK.out.go Ac.out.low
   have Ah : Hid ((aB T F m q k).getD q 0 = bA T F m q k (m.getD q 0)) := hide (vQ Ad)
   rcases (show k = 0 ∨ k = 1 ∨ k = 2 ∨ k = 3 by omega) with rfl | rfl | rfl | rfl
   ·have t0 := Ac.out.tb.get (i := 0) rfl
    have CH := hide (has_kn Aj hlt tag1 : Calls Tryz.prog 136 #[aa K, .int .i64 q, .int .i64 1] wr _)
    have CD : Hid (∀ X, Below wr.heap.size wr X → Calls Tryz.prog 162 #[aa K, .int .i64 q] X fun e w' => e = .returned (.bool (eE T F m q)) ∧ Below X.heap.size X w') := hide fun X hX => ot (Aj.go hX) hlt
    have Ae : Hid (bA T F m q 1 (m.getD q 0) = if !hs m q 1 && eE T F m q then dt (bA T F m q 0 (m.getD q 0)) 1 else bA T F m q 0 (m.getD q 0)) := hide rfl
    clear Aj
    cases ha : hs m q 1 with
    | true =>
     have HS : Hid (aB T F m q 0 = aB T F m q 1) := hide (dS Ad (by rw [Ae.out, ha]; rfl))
     rw [ha] at CH
     clear ha CD t0 Ae r0 f0 Ah
     go_wp2_with (go_at_call 136; refine CH.out.mono ?_; rintro _ w5 ⟨rfl, Aa⟩; have Ab := hide Aa; clear Aa)
     have HN : Hid (Rq g w1.heap.size (aB T F m q 1) ex w w5) := hide (by rw [← HS.out]; exact Ac.out.go Ab.out)
     go_roundw
     case rel => exact ⟨1, by omega, by go_num, HN⟩
     case measure => simp [intOf]
    | false =>
     rw [ha] at CH
     cases hc : (eE T F m q) with
     | false =>
      have HS : Hid (aB T F m q 0 = aB T F m q 1) := hide (dS Ad (by rw [Ae.out, ha, hc]; rfl))
      rw [hc] at CD
      clear ha hc Ae r0 f0 Ah
      go_wp2_with (first | (go_at_call 136; refine CH.out.mono ?_; rintro _ w5 ⟨rfl, Aa⟩; have t5 := ar t0 Aa; have Ab := hide Aa; clear Aa) | (go_at_call 162; refine (CD.out _ Ab.out).mono ?_; rintro _ w6 ⟨rfl, Af⟩; have Ag := hide Af; clear Af))
      have HN : Hid (Rq g w1.heap.size (aB T F m q 1) ex w w6) := hide (by rw [← HS.out]; exact (Ac.out.go Ab.out).go Ag.out)
      go_roundw
      case rel => exact ⟨1, by omega, by go_num, HN⟩
      case measure => simp [intOf]
     | true =>
      have HS : Hid ((aB T F m q 0).set q (bits .or .u8 ((aB T F m q 0).getD q 0) (bitM 1)) = aB T F m q 1) := hide (by
       have Ak := jY (T := T) (F := F) (k := 0) Ad
       rw [Ae.out, ha, hc] at Ak
       rw [Ah.out]
       exact Ak)
      rw [hc] at CD
      have CB := hide fun W : World => fJ (w := W) tag1
      clear ha hc Ae Ah r0 f0
      go_upto_region 10 with (first | (go_at_call 136; refine CH.out.mono ?_; rintro _ w5 ⟨rfl, Aa⟩; have t5 := ar t0 Aa; have Ab := hide Aa; clear Aa) | (go_at_call 162; refine (CD.out _ Ab.out).mono ?_; rintro _ w6 ⟨rfl, Af⟩; have Ag := hide Af; clear Af))
      have Ai := hide ((Ac.out.go Ab.out).go Ag.out)
      have r0 := Ai.out.rw.get (i := q) (v := .int .u8 ((aB T F m q 0).getD q 0)) (by rw [List.getElem?_append_left (by rw [cY, aP]; exact Ad)]; exact gL (by rw [aP]; exact Ad))
      have f0 := Ai.out.rw.frz q
      have Am : Hid (q < (aB T F m q 0).length) := hide (by rw [aP]; exact Ad)
      generalize (aB T F m q 0).getD q 0 = x0 at *
      generalize bitM 1 = y0 at *
      clear t0 t5 CH CD Ab Ag
      refine aK (by kernel_rfl) (by kernel_rfl) (by kernel_rfl) (by kernel_rfl) (by kernel_rfl) ?_
      dsimp only [List.dropLast, List.getLast, List.cons_append, List.nil_append]
      repeat (go_big_quiet_step ((go_at_call 137; exact Calls.quiet_of_same (CB.out _))))
      refine wpQuiet_nil ?_
      rintro _ ⟨nq, rfl⟩
      have Al := hide ((Ai.out.go (ah w6 nq)).set (x := bits .or .u8 x0 y0) Am.out HG.out)
      rw [HS.out] at Al
      have r7 : (w6.drewN nq).cell? ⟨g, q, none⟩ = some (.int .u8 x0) := r0
      have f7 : (w6.drewN nq).frozen? ⟨g, q, none⟩ = false := f0
      go_wp2_with fail
      go_roundw
      case rel => exact ⟨1, by omega, by go_num, Al⟩
      case measure => simp [intOf]
   ·have t0 := Ac.out.tb.get (i := 1) rfl
    have CH := hide (has_kn Aj hlt tag2 : Calls Tryz.prog 136 #[aa K, .int .i64 q, .int .i64 2] wr _)
    have CD : Hid (∀ X, Below wr.heap.size wr X → Calls Tryz.prog 163 #[aa K, .int .i64 q] X fun e w' => e = .returned (.bool (d8 T F m q)) ∧ Below X.heap.size X w') := hide fun X hX => nK (Aj.go hX) hlt
    have Ae : Hid (bA T F m q 2 (m.getD q 0) = if !hs m q 2 && d8 T F m q then dt (bA T F m q 1 (m.getD q 0)) 2 else bA T F m q 1 (m.getD q 0)) := hide rfl
    clear Aj
    cases ha : hs m q 2 with
    | true =>
     have HS : Hid (aB T F m q 1 = aB T F m q 2) := hide (dS Ad (by rw [Ae.out, ha]; rfl))
     rw [ha] at CH
     clear ha CD t0 Ae r0 f0 Ah
     go_wp2_with (go_at_call 136; refine CH.out.mono ?_; rintro _ w5 ⟨rfl, Aa⟩; have Ab := hide Aa; clear Aa)
     have HN : Hid (Rq g w1.heap.size (aB T F m q 2) ex w w5) := hide (by rw [← HS.out]; exact Ac.out.go Ab.out)
     go_roundw
     case rel => exact ⟨2, by omega, by go_num, HN⟩
     case measure => simp [intOf]
    | false =>
     rw [ha] at CH
     cases hc : (d8 T F m q) with
     | false =>
      have HS : Hid (aB T F m q 1 = aB T F m q 2) := hide (dS Ad (by rw [Ae.out, ha, hc]; rfl))
      rw [hc] at CD
      clear ha hc Ae r0 f0 Ah
      go_wp2_with (first | (go_at_call 136; refine CH.out.mono ?_; rintro _ w5 ⟨rfl, Aa⟩; have t5 := ar t0 Aa; have Ab := hide Aa; clear Aa) | (go_at_call 163; refine (CD.out _ Ab.out).mono ?_; rintro _ w6 ⟨rfl, Af⟩; have Ag := hide Af; clear Af))
      have HN : Hid (Rq g w1.heap.size (aB T F m q 2) ex w w6) := hide (by rw [← HS.out]; exact (Ac.out.go Ab.out).go Ag.out)
      go_roundw
      case rel => exact ⟨2, by omega, by go_num, HN⟩
      case measure => simp [intOf]
     | true =>
      have HS : Hid ((aB T F m q 1).set q (bits .or .u8 ((aB T F m q 1).getD q 0) (bitM 2)) = aB T F m q 2) := hide (by
       have Ak := jY (T := T) (F := F) (k := 1) Ad
       rw [Ae.out, ha, hc] at Ak
       rw [Ah.out]
       exact Ak)
      rw [hc] at CD
      have CB := hide fun W : World => fJ (w := W) tag2
      clear ha hc Ae Ah r0 f0
      go_upto_region 10 with (first | (go_at_call 136; refine CH.out.mono ?_; rintro _ w5 ⟨rfl, Aa⟩; have t5 := ar t0 Aa; have Ab := hide Aa; clear Aa) | (go_at_call 163; refine (CD.out _ Ab.out).mono ?_; rintro _ w6 ⟨rfl, Af⟩; have Ag := hide Af; clear Af))
      have Ai := hide ((Ac.out.go Ab.out).go Ag.out)
      have r0 := Ai.out.rw.get (i := q) (v := .int .u8 ((aB T F m q 1).getD q 0)) (by rw [List.getElem?_append_left (by rw [cY, aP]; exact Ad)]; exact gL (by rw [aP]; exact Ad))
      have f0 := Ai.out.rw.frz q
      have Am : Hid (q < (aB T F m q 1).length) := hide (by rw [aP]; exact Ad)
      generalize (aB T F m q 1).getD q 0 = x0 at *
      generalize bitM 2 = y0 at *
      clear t0 t5 CH CD Ab Ag
      refine aK (by kernel_rfl) (by kernel_rfl) (by kernel_rfl) (by kernel_rfl) (by kernel_rfl) ?_
      dsimp only [List.dropLast, List.getLast, List.cons_append, List.nil_append]
      repeat (go_big_quiet_step ((go_at_call 137; exact Calls.quiet_of_same (CB.out _))))
      refine wpQuiet_nil ?_
      rintro _ ⟨nq, rfl⟩
      have Al := hide ((Ai.out.go (ah w6 nq)).set (x := bits .or .u8 x0 y0) Am.out HG.out)
      rw [HS.out] at Al
      have r7 : (w6.drewN nq).cell? ⟨g, q, none⟩ = some (.int .u8 x0) := r0
      have f7 : (w6.drewN nq).frozen? ⟨g, q, none⟩ = false := f0
      go_wp2_with fail
      go_roundw
      case rel => exact ⟨2, by omega, by go_num, Al⟩
      case measure => simp [intOf]
   ·have t0 := Ac.out.tb.get (i := 2) rfl
    have CH := hide (has_kn Aj hlt tag3 : Calls Tryz.prog 136 #[aa K, .int .i64 q, .int .i64 3] wr _)
    have CD : Hid (∀ X, Below wr.heap.size wr X → Calls Tryz.prog 164 #[aa K, .int .i64 q] X fun e w' => e = .returned (.bool (plusD T m q)) ∧ Below X.heap.size X w') := hide fun X hX => kR (Aj.go hX) hlt
    have Ae : Hid (bA T F m q 3 (m.getD q 0) = if !hs m q 3 && plusD T m q then dt (bA T F m q 2 (m.getD q 0)) 3 else bA T F m q 2 (m.getD q 0)) := hide rfl
    clear Aj
    cases ha : hs m q 3 with
    | true =>
     have HS : Hid (aB T F m q 2 = aB T F m q 3) := hide (dS Ad (by rw [Ae.out, ha]; rfl))
     rw [ha] at CH
     clear ha CD t0 Ae r0 f0 Ah
     go_wp2_with (go_at_call 136; refine CH.out.mono ?_; rintro _ w5 ⟨rfl, Aa⟩; have Ab := hide Aa; clear Aa)
     have HN : Hid (Rq g w1.heap.size (aB T F m q 3) ex w w5) := hide (by rw [← HS.out]; exact Ac.out.go Ab.out)
     go_roundw
     case rel => exact ⟨3, by omega, by go_num, HN⟩
     case measure => simp [intOf]
    | false =>
     rw [ha] at CH
     cases hc : (plusD T m q) with
     | false =>
      have HS : Hid (aB T F m q 2 = aB T F m q 3) := hide (dS Ad (by rw [Ae.out, ha, hc]; rfl))
      rw [hc] at CD
      clear ha hc Ae r0 f0 Ah
      go_wp2_with (first | (go_at_call 136; refine CH.out.mono ?_; rintro _ w5 ⟨rfl, Aa⟩; have t5 := ar t0 Aa; have Ab := hide Aa; clear Aa) | (go_at_call 164; refine (CD.out _ Ab.out).mono ?_; rintro _ w6 ⟨rfl, Af⟩; have Ag := hide Af; clear Af))
      have HN : Hid (Rq g w1.heap.size (aB T F m q 3) ex w w6) := hide (by rw [← HS.out]; exact (Ac.out.go Ab.out).go Ag.out)
      go_roundw
      case rel => exact ⟨3, by omega, by go_num, HN⟩
      case measure => simp [intOf]
     | true =>
      have HS : Hid ((aB T F m q 2).set q (bits .or .u8 ((aB T F m q 2).getD q 0) (bitM 3)) = aB T F m q 3) := hide (by
       have Ak := jY (T := T) (F := F) (k := 2) Ad
       rw [Ae.out, ha, hc] at Ak
       rw [Ah.out]
       exact Ak)
      rw [hc] at CD
      have CB := hide fun W : World => fJ (w := W) tag3
      clear ha hc Ae Ah r0 f0
      go_upto_region 10 with (first | (go_at_call 136; refine CH.out.mono ?_; rintro _ w5 ⟨rfl, Aa⟩; have t5 := ar t0 Aa; have Ab := hide Aa; clear Aa) | (go_at_call 164; refine (CD.out _ Ab.out).mono ?_; rintro _ w6 ⟨rfl, Af⟩; have Ag := hide Af; clear Af))
      have Ai := hide ((Ac.out.go Ab.out).go Ag.out)
      have r0 := Ai.out.rw.get (i := q) (v := .int .u8 ((aB T F m q 2).getD q 0)) (by rw [List.getElem?_append_left (by rw [cY, aP]; exact Ad)]; exact gL (by rw [aP]; exact Ad))
      have f0 := Ai.out.rw.frz q
      have Am : Hid (q < (aB T F m q 2).length) := hide (by rw [aP]; exact Ad)
      generalize (aB T F m q 2).getD q 0 = x0 at *
      generalize bitM 3 = y0 at *
      clear t0 t5 CH CD Ab Ag
      refine aK (by kernel_rfl) (by kernel_rfl) (by kernel_rfl) (by kernel_rfl) (by kernel_rfl) ?_
      dsimp only [List.dropLast, List.getLast, List.cons_append, List.nil_append]
      repeat (go_big_quiet_step ((go_at_call 137; exact Calls.quiet_of_same (CB.out _))))
      refine wpQuiet_nil ?_
      rintro _ ⟨nq, rfl⟩
      have Al := hide ((Ai.out.go (ah w6 nq)).set (x := bits .or .u8 x0 y0) Am.out HG.out)
      rw [HS.out] at Al
      have r7 : (w6.drewN nq).cell? ⟨g, q, none⟩ = some (.int .u8 x0) := r0
      have f7 : (w6.drewN nq).frozen? ⟨g, q, none⟩ = false := f0
      go_wp2_with fail
      go_roundw
      case rel => exact ⟨3, by omega, by go_num, Al⟩
      case measure => simp [intOf]
   have t0 := Ac.out.tb.get (i := 3) rfl
   have CH := hide (has_kn Aj hlt tag4 : Calls Tryz.prog 136 #[aa K, .int .i64 q, .int .i64 4] wr _)
   have CD : Hid (∀ X, Below wr.heap.size wr X → Calls Tryz.prog 165 #[aa K, .int .i64 q] X fun e w' => e = .returned (.bool (minusD T m q)) ∧ Below X.heap.size X w') := hide fun X hX => kt (Aj.go hX) hlt
   have Ae : Hid (bA T F m q 4 (m.getD q 0) = if !hs m q 4 && minusD T m q then dt (bA T F m q 3 (m.getD q 0)) 4 else bA T F m q 3 (m.getD q 0)) := hide rfl
   clear Aj
   cases ha : hs m q 4 with
   | true =>
    have HS : Hid (aB T F m q 3 = aB T F m q 4) := hide (dS Ad (by rw [Ae.out, ha]; rfl))
    rw [ha] at CH
    clear ha CD t0 Ae r0 f0 Ah
    go_wp2_with (go_at_call 136; refine CH.out.mono ?_; rintro _ w5 ⟨rfl, Aa⟩; have Ab := hide Aa; clear Aa)
    have HN : Hid (Rq g w1.heap.size (aB T F m q 4) ex w w5) := hide (by rw [← HS.out]; exact Ac.out.go Ab.out)
    go_roundw
    case rel => exact ⟨4, by omega, by go_num, HN⟩
    case measure => simp [intOf]
   | false =>
    rw [ha] at CH
    cases hc : (minusD T m q) with
    | false =>
     have HS : Hid (aB T F m q 3 = aB T F m q 4) := hide (dS Ad (by rw [Ae.out, ha, hc]; rfl))
     rw [hc] at CD
     clear ha hc Ae r0 f0 Ah
     go_wp2_with (first | (go_at_call 136; refine CH.out.mono ?_; rintro _ w5 ⟨rfl, Aa⟩; have t5 := ar t0 Aa; have Ab := hide Aa; clear Aa) | (go_at_call 165; refine (CD.out _ Ab.out).mono ?_; rintro _ w6 ⟨rfl, Af⟩; have Ag := hide Af; clear Af))
     have HN : Hid (Rq g w1.heap.size (aB T F m q 4) ex w w6) := hide (by rw [← HS.out]; exact (Ac.out.go Ab.out).go Ag.out)
     go_roundw
     case rel => exact ⟨4, by omega, by go_num, HN⟩
     case measure => simp [intOf]
    | true =>
     have HS : Hid ((aB T F m q 3).set q (bits .or .u8 ((aB T F m q 3).getD q 0) (bitM 4)) = aB T F m q 4) := hide (by
      have Ak := jY (T := T) (F := F) (k := 3) Ad
      rw [Ae.out, ha, hc] at Ak
      rw [Ah.out]
      exact Ak)
     rw [hc] at CD
     have CB := hide fun W : World => fJ (w := W) tag4
     clear ha hc Ae Ah r0 f0
     go_upto_region 10 with (first | (go_at_call 136; refine CH.out.mono ?_; rintro _ w5 ⟨rfl, Aa⟩; have t5 := ar t0 Aa; have Ab := hide Aa; clear Aa) | (go_at_call 165; refine (CD.out _ Ab.out).mono ?_; rintro _ w6 ⟨rfl, Af⟩; have Ag := hide Af; clear Af))
     have Ai := hide ((Ac.out.go Ab.out).go Ag.out)
     have r0 := Ai.out.rw.get (i := q) (v := .int .u8 ((aB T F m q 3).getD q 0)) (by rw [List.getElem?_append_left (by rw [cY, aP]; exact Ad)]; exact gL (by rw [aP]; exact Ad))
     have f0 := Ai.out.rw.frz q
     have Am : Hid (q < (aB T F m q 3).length) := hide (by rw [aP]; exact Ad)
     generalize (aB T F m q 3).getD q 0 = x0 at *
     generalize bitM 4 = y0 at *
     clear t0 t5 CH CD Ab Ag
     refine aK (by kernel_rfl) (by kernel_rfl) (by kernel_rfl) (by kernel_rfl) (by kernel_rfl) ?_
     dsimp only [List.dropLast, List.getLast, List.cons_append, List.nil_append]
     repeat (go_big_quiet_step ((go_at_call 137; exact Calls.quiet_of_same (CB.out _))))
     refine wpQuiet_nil ?_
     rintro _ ⟨nq, rfl⟩
     have Al := hide ((Ai.out.go (ah w6 nq)).set (x := bits .or .u8 x0 y0) Am.out HG.out)
     rw [HS.out] at Al
     have r7 : (w6.drewN nq).cell? ⟨g, q, none⟩ = some (.int .u8 x0) := r0
     have f7 : (w6.drewN nq).frozen? ⟨g, q, none⟩ = false := f0
     go_wp2_with fail
     go_roundw
     case rel => exact ⟨4, by omega, by go_num, Al⟩
     case measure => simp [intOf]
  have HS : Hid (aB T F m q k = aB T F m (q + 1) 0) := hide (by rw [show k = 4 by omega]; exact uu)
  have AG : k = 4 := by omega
  subst AG
  have HN : Hid (Rq g w1.heap.size (aB T F m (q + 1) 0) ex w wr) := hide (by rw [← HS.out]; exact Ac.out)
  go_wp2_with fail
  go_roundw
  case rel => exact ⟨q + 1, by omega, by go_num, HN⟩
  case measure => simp [intOf]; omega
 have HE : Hid (aB T F m q 0 = aO T F m) := hide (by rw [show q = m.length by omega]; exact wF)
 go_wp2_with fail
 go_ret
 have hr := Ac.out.rw
 rw [HE.out] at hr
 refine ⟨_, rfl, ⟨by rw [cY, cV, At, Nat.mul_one], .inr ⟨g, cap, _, rfl, HG.out, hr, AC.out, AH.out, ?_, ?_⟩⟩, Ac.out.low⟩
 ·have := AF.out
  simp only [List.size_toArray, List.length_append, cY, cV]
  omega
 rw [Nat.mul_one]
 show List.take n (dJ (aO T F m) ++ ex) = _
 rw [List.take_append_of_le_length (by rw [cY, cV]; omega), List.take_of_length_le (by rw [cY, cV]; omega)]
end
end Go.Proofs.YtmlhcncagdfjfaaGreat
