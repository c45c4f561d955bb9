import Derived.Test.YtmlhcncagdfjfaaGreatNvM
import Derived.BigQuiet
namespace Go.Proofs.YtmlhcncagdfjfaaGreat
open Go.RowKit
structure Hv (hb n : Nat) (H : List (List Int)) (vs : List Value) (w : World) : Prop where
 ln : H.length = n
 vl : vs.length = n
 fx : Fx hb 26 vs w
 own : ∀ (i : Nat) l v, H[i]? = some l → vs[i]? = some v → w.ownsRow (hb + 1) 3 1 v l.length (aq l)
 apart : ∀ (i j : Nat) v u g, vs[i]? = some v → vs[j]? = some u → v.ownBlock = some g → u.ownBlock = some g → i = j
section
variable {hb n : Nat} {H : List (List Int)} {vs : List Value} {w w' : World}
end
section
variable {wr w5 : World} {ob : Obj} {v : Value} {hb : Nat}
theorem kK (hgrow : (wr.alloc ob).drew.grownBy w5 v.ownBlock) (hv : ∀ g, v.ownBlock = some g → hb ≤ g) (hs : hb ≤ wr.heap.size) : Below hb wr w5 := by
 have h1 : Below hb wr (wr.alloc ob).drew := ((ae wr ob).mono hs).drew
 refine h1.trans ⟨hgrow.os, hgrow.tape, hgrow.output, hgrow.size, fun k hk => hgrow.block k ?_ fun e => ?_⟩
 ·have : (wr.alloc ob).drew.heap.size = wr.heap.size + 1 := by show (wr.alloc ob).heap.size = _; simp
  omega
 have := hv k e.symm; omega
theorem aT (hgrow : (wr.alloc ob).drew.grownBy w5 v.ownBlock) {k : Nat} (hk : k < wr.heap.size) (hn : v.ownBlock ≠ some k) : w5.heap[k]? = wr.heap[k]? := by
 refine (hgrow.block k ?_ fun e => hn e.symm).trans ((ae wr ob).block k hk)
 have : (wr.alloc ob).drew.heap.size = wr.heap.size + 1 := by show (wr.alloc ob).heap.size = _; simp
 omega
end
set_option maxRecDepth 100000
set_option maxHeartbeats 3200000
def Ts (w : World) (p : Int → Bool) (D : Int → Prop) (v : Value) : Prop :=
 ∃ (k : Nat) (caps : Array Value), v = .func (.func k) #[] caps ∧ (∀ args w', (callFunc k args).run Tryz.prog w' = .ok (.enter k args) w') ∧
  ∀ (x : Int) (w' : World), D x → Below w.heap.size w w' → Calls Tryz.prog k (#[.int .i64 x] ++ caps) w' fun e w2 => e = .returned (.bool (p x)) ∧ Below w'.heap.size w' w2
theorem Ts.go {w w' : World} {p : Int → Bool} {D : Int → Prop} {v : Value} (h : Ts w p D v) (hb : Below w.heap.size w w') : Ts w' p D v := by
 obtain ⟨k, Aa, e, hf, hc⟩ := h
 exact ⟨k, Aa, e, hf, fun x w2 hx h2 => hc x w2 hx (hb.trans (h2.mono hb.size))⟩
theorem xQ {p : Int → Bool} {l : List Int} {k : Nat} {x : Int} (hx : l[k]? = some x) (h : p x = true) : (l.drop k).all p = (l.drop (k + 1)).all p := by rw [aM hx, List.all_cons, h, Bool.true_and]
theorem yD {p : Int → Bool} {l : List Int} {k : Nat} {x : Int} (hx : l[k]? = some x) (h : p x = false) : (l.drop k).all p = false := by rw [aM hx, List.all_cons, h, Bool.false_and]
theorem lB {p : Int → Bool} {l : List Int} {k : Nat} {x : Int} (hx : l[k]? = some x) (h : p x = true) : (l.drop k).any p = true := by rw [aM hx, List.any_cons, h, Bool.true_or]
theorem li {p : Int → Bool} {l : List Int} {k : Nat} {x : Int} (hx : l[k]? = some x) (h : p x = false) : (l.drop k).any p = (l.drop (k + 1)).any p := by rw [aM hx, List.any_cons, h, Bool.false_or]
section
variable {w : World} {p : Int → Bool} {D : Int → Prop} {v : Value} {l : List Int} {a : Option Addr} {c : Nat}
theorem eN (h : Ts w p D v) (hl : At1 w a (aq l)) (hlim : l.length ≤ 140737488351232) (hin : ∀ x ∈ l, D x) :
    Calls Tryz.prog 193 #[.slice a l.length c, v] w fun e w' => e = .returned (.bool (l.all p)) ∧ Below w.heap.size w w' := by
 obtain ⟨fn, Ad, rfl, hf, hc⟩ := h
 have HC := hide hc
 have HL := hide hl
 have Ac := hide hin
 obtain ⟨o, ho⟩ : ∃ o, l.all p = o := ⟨_, rfl⟩
 rw [ho]
 have HO : Hid ((l.drop 0).all p = o) := hide (by rw [List.drop_zero]; exact ho)
 clear hl hin ho hc
 go_enter Tryz.func193, Tryz.ntmps193
 go_wp2_with fail
 go_loopw [9] (fun x wr => ∃ k : Nat, k ≤ l.length ∧ x = .int .i64 k ∧ Hid ((l.drop k).all p = o) ∧ Hid (Below w.heap.size w wr)) (fun x _ => l.length - (intOf x).toNat)
 case atStart => exact ⟨0, by omega, rfl, HO, hide (Below.refl _ _)⟩
 clear HO
 obtain ⟨k, hk, rfl, HO, HB⟩ := hrel
 by_cases hlt : k < l.length
 ·obtain ⟨x, hx⟩ := am hlt
  obtain ⟨g, gg, rfl, cx⟩ := (HL.out.below HB.out).get hx
  have C := hide (HC.out x wr (Ac.out x (List.mem_of_getElem? hx)) HB.out)
  cases hb : p x with
  | true =>
   have HE : Hid ((l.drop (k + 1)).all p = o) := hide (by rw [← HO.out]; exact (xQ hx hb).symm)
   rw [hb] at C
   clear hb hx HO
   go_wp2_with fail
   refine C.out.mono ?_
   rintro _ w2 ⟨rfl, Aa⟩
   have Ab := hide (HB.out.trans (Aa.mono HB.out.size))
   clear Aa
   go_wp2_with fail
   go_roundw
   case rel => exact ⟨k + 1, by omega, by go_num, HE, Ab⟩
   case measure => simp [intOf]; omega
  | false =>
   have HE : Hid (o = false) := hide (by rw [← HO.out]; exact yD hx hb)
   rw [hb] at C
   clear hb hx HO
   go_wp2_with fail
   refine C.out.mono ?_
   rintro _ w2 ⟨rfl, Aa⟩
   have Ab := hide (HB.out.trans (Aa.mono HB.out.size))
   clear Aa
   go_wp2_with fail
   go_ret
   exact ⟨by rw [HE.out]; rfl, Ab.out⟩
 have HE : Hid (o = true) := hide (by rw [← HO.out, bV (by omega)]; rfl)
 go_wp2_with fail
 go_ret
 exact ⟨by rw [HE.out]; rfl, HB.out⟩
def zQ (o : Bool) (i : Int) : Prop := (o = true → 0 ≤ i) ∧ (o = false → i = -1)
theorem ve (h : Ts w p D v) (hl : At1 w a (aq l)) (hlim : l.length ≤ 140737488351232) (hin : ∀ x ∈ l, D x) :
    Calls Tryz.prog 240 #[.slice a l.length c, v] w fun e w' => ∃ i : Int, e = .returned (.int .i64 i) ∧ zQ (l.any p) i ∧ Below w.heap.size w w' := by
 obtain ⟨fn, Ad, rfl, hf, hc⟩ := h
 have HC := hide hc
 have HL := hide hl
 have Ac := hide hin
 obtain ⟨o, ho⟩ : ∃ o, l.any p = o := ⟨_, rfl⟩
 rw [ho]
 have HO : Hid ((l.drop 0).any p = o) := hide (by rw [List.drop_zero]; exact ho)
 clear hl hin ho hc
 go_enter Tryz.func240, Tryz.ntmps240
 go_wp2_with fail
 go_loopw [8] (fun x wr => ∃ k : Nat, k ≤ l.length ∧ x = .int .i64 k ∧ Hid ((l.drop k).any p = o) ∧ Hid (Below w.heap.size w wr)) (fun x _ => l.length - (intOf x).toNat)
 case atStart => exact ⟨0, by omega, rfl, HO, hide (Below.refl _ _)⟩
 clear HO
 obtain ⟨k, hk, rfl, HO, HB⟩ := hrel
 by_cases hlt : k < l.length
 ·obtain ⟨x, hx⟩ := am hlt
  obtain ⟨g, gg, rfl, cx⟩ := (HL.out.below HB.out).get hx
  have C := hide (HC.out x wr (Ac.out x (List.mem_of_getElem? hx)) HB.out)
  cases hb : p x with
  | true =>
   have HE : Hid (o = true) := hide (by rw [← HO.out]; exact lB hx hb)
   rw [hb] at C
   clear hb hx HO
   go_wp2_with fail
   refine C.out.mono ?_
   rintro _ w2 ⟨rfl, Aa⟩
   have Ab := hide (HB.out.trans (Aa.mono HB.out.size))
   clear Aa
   go_wp2_with fail
   go_ret
   exact ⟨k, rfl, ⟨fun _ => by omega, fun e => by rw [HE.out] at e; cases e⟩, Ab.out⟩
  | false =>
   have HE : Hid ((l.drop (k + 1)).any p = o) := hide (by rw [← HO.out]; exact (li hx hb).symm)
   rw [hb] at C
   clear hb hx HO
   go_wp2_with fail
   refine C.out.mono ?_
   rintro _ w2 ⟨rfl, Aa⟩
   have Ab := hide (HB.out.trans (Aa.mono HB.out.size))
   clear Aa
   go_wp2_with fail
   go_roundw
   case rel => exact ⟨k + 1, by omega, by go_num, HE, Ab⟩
   case measure => simp [intOf]; omega
 have HE : Hid (o = false) := hide (by rw [← HO.out, bV (by omega)]; rfl)
 go_wp2_with fail
 go_ret
 exact ⟨-1, rfl, ⟨fun e => absurd e (by rw [HE.out]; decide), fun _ => rfl⟩, HB.out⟩
theorem ry (h : Ts w p D v) (hl : At1 w a (aq l)) (hlim : l.length ≤ 140737488351232) (hin : ∀ x ∈ l, D x) :
    Calls Tryz.prog 226 #[.slice a l.length c, v] w fun e w' => e = .returned (.bool (l.any p)) ∧ Below w.heap.size w w' := by
 have CI := hide (ve (c := c) h hl hlim hin)
 obtain ⟨fn, Ab, rfl, hf, hc⟩ := h
 obtain ⟨o, ho⟩ : ∃ o, l.any p = o := ⟨_, rfl⟩
 rw [ho] at CI ⊢
 clear hl hin ho hc
 go_enter Tryz.func226, Tryz.ntmps226
 cases o with
 | true =>
  go_wp2_with (go_at_call 240; refine CI.out.mono ?_; rintro _ w2 ⟨i, rfl, hi, hb⟩; have HB := hide hb; have Aa : 0 ≤ i := hi.1 rfl; have Ac : decide (0 ≤ i) = true := decide_eq_true Aa; clear hb hi)
  go_ret
  exact ⟨bC (by simp), HB.out⟩
 | false =>
  go_wp2_with (go_at_call 240; refine CI.out.mono ?_; rintro _ w2 ⟨i, rfl, hi, hb⟩; have HB := hide hb; have Aa : i = -1 := hi.2 rfl; subst Aa; clear hb hi)
  go_ret
  exact ⟨rfl, HB.out⟩
theorem fB (h : Ts w p D v) (hl : At1 w a (aq l)) (hlim : l.length ≤ 140737488351232) (hin : ∀ x ∈ l, D x) :
    Calls Tryz.prog 190 #[.slice a l.length c, v] w fun e w' => e = .returned (.bool (l.any p)) ∧ Below w.heap.size w w' := by
 have CI := hide (ry (c := c) h hl hlim hin)
 obtain ⟨fn, Aa, rfl, hf, hc⟩ := h
 obtain ⟨o, ho⟩ : ∃ o, l.any p = o := ⟨_, rfl⟩
 rw [ho] at CI ⊢
 clear hl hin ho hc
 go_enter Tryz.func190, Tryz.ntmps190
 go_wp2_with (go_at_call 226; refine CI.out.mono ?_; rintro _ w2 ⟨rfl, hb⟩; have HB := hide hb; clear hb)
 go_ret
 exact ⟨rfl, HB.out⟩
end
set_option maxRecDepth 100000
set_option maxHeartbeats 3200000
structure Pf (T : Th) (F : List Int) (n : Nat) : Prop where
 ok : zU T
 ln : T.lits = (n : Int)
 n4 : n ≤ 4096
 foe : ∀ q : Nat, q < n → ∀ f ∈ row T.foes q, 0 ≤ f ∧ f < (n : Int)
 head : ∀ r ∈ T.rules, 0 ≤ r.head ∧ r.head < (n : Int)
 body : ∀ r ∈ T.rules, ∀ x ∈ r.body, 0 ≤ x ∧ x < (n : Int)
 beat : ∀ l ∈ T.beats, l.Pairwise (· < ·)
 fact : ∀ x ∈ F, 0 ≤ x ∧ x < (n : Int)
theorem bS {b : Int} : ∀ {l : List Int} {p : Int}, -1 ≤ p → ce b p l = true → (∀ x ∈ l, p < x ∧ x < b) ∧ l.Pairwise (· < ·)
 | [], _, _, _ => ⟨fun x hx => (by cases hx), List.Pairwise.nil⟩
 | y :: l, p, hp, h => by
  unfold ce at h
  split at h
  ·cases h
  rename_i hn
  obtain ⟨h1, h2⟩ := bS (p := y) (by omega) h
  refine ⟨fun x hx => ?_, List.pairwise_cons.2 ⟨fun x hx => (h1 x hx).1, h2⟩⟩
  rcases List.mem_cons.1 hx with rfl | hx
  ·omega
  have := h1 x hx; omega
theorem nt {T : Th} {F : List Int} (h : aX T F = 0) : Pf T F T.lits.toNat := by
 unfold aX at h
 by_cases hc : (cO T).1 ≠ 0
 ·rw [if_pos hc] at h; exact absurd h hc
 rw [if_neg hc] at h
 have Aa := vp (Classical.not_not.1 hc)
 have h0 := Aa.l0
 have h1 := Aa.l1
 have Ab := Aa.fl
 have hr : bP F T.lits = true := by
  cases e : bP F T.lits with
  | true => rfl
  | false => rw [e] at h; cases h
 obtain ⟨f1, f2⟩ := bS (by omega) hr
 refine ⟨Aa, by omega, by omega, fun q hq f hf => ?_, fun r hr => ?_, fun r hr x hx => ?_, fun l hl => ?_, fun x hx => ?_⟩
 ·obtain ⟨l, hl⟩ := am (l := T.foes) (i := q) (by omega)
  rw [bn (by rw [Int.toNat_natCast]; exact hl)] at hf
  have := (bS (by omega) (Aa.foe q l hl).2.1).1 f hf
  omega
 ·have := Aa.rule r hr
  exact ⟨this.2.2.1, by have := this.2.2.2.1; omega⟩
 ·have := (bS (by omega) (Aa.rule r hr).2.2.2.2.2).1 x hx
  omega
 ·obtain ⟨i, hi⟩ := List.mem_iff_getElem?.1 hl
  exact (bS (by omega) (Aa.beat i l hi).1).2
 have := f1 x hx
 omega
def dJ (l : List Int) : List Value := l.map (Value.int .u8)
theorem gL {l : List Int} {i : Nat} (hi : i < l.length) : (dJ l)[i]? = some (.int .u8 (l.getD i 0)) := by
 unfold dJ
 rw [List.getElem?_map, List.getElem?_eq_getElem hi]
 simp [List.getD, hi]
theorem cY {l : List Int} : (dJ l).length = l.length := by unfold dJ; simp
def n8 (F : List Int) (n : Nat) : List Bool := (List.range n).map fun q : Nat => decide ((q : Int) ∈ F)
theorem se {F : List Int} {n q : Nat} (hq : q < n) : (ew (n8 F n))[q]? = some (.bool (decide ((q : Int) ∈ F))) := by unfold ew n8; rw [List.getElem?_map, List.getElem?_map, List.getElem?_range hq]; rfl
structure Ka where
 fa : Option Addr
 fc : Nat
 ra : Option Addr
 rc : Nat
 ba : Option Addr
 bc : Nat
 fb : Nat
 s0 : Nat
 s1 : Nat
 s2 : Nat
abbrev yI (A : Ka) (T : Th) (n : Nat) (mv : Value) : List Value := [.int .i64 T.lits, .slice A.fa T.foes.length A.fc, .slice A.ra T.rules.length A.rc, .slice A.ba T.beats.length A.bc, .slice (some ⟨A.fb, 0, none⟩) n n, .slice (some ⟨A.s0, 0, none⟩) n n, .slice (some ⟨A.s1, 0, none⟩) n n, .slice (some ⟨A.s2, 0, none⟩) n n, mv]
structure Kn (K : Nat) (A : Ka) (T : Th) (F : List Int) (n : Nat) (m : List Int) (ma : Option Addr) (mc : Nat) (w : World) : Prop where
 pf : Pf T F n
 bx : Fx K 157 (yI A T n (.slice ma n mc)) w
 ta : TA w.heap.size w T A.fa A.fc A.ra A.rc A.ba A.bc
 ff : Fx A.fb 4 (ew (n8 F n)) w
 l0 : Lists w.heap.size w (qH T kS n) (.slice (some ⟨A.s0, 0, none⟩) n n)
 l1 : Lists w.heap.size w (qH T kT n) (.slice (some ⟨A.s1, 0, none⟩) n n)
 l2 : Lists w.heap.size w (qH T kA n) (.slice (some ⟨A.s2, 0, none⟩) n n)
 ml : m.length = n
 mm : At1 w ma (dJ m)
section
variable {K n : Nat} {A : Ka} {T : Th} {F m : List Int} {ma : Option Addr} {mc : Nat} {w w' : World}
theorem Kn.go (h : Kn K A T F n m ma mc w) (hb : Below w.heap.size w w') : Kn K A T F n m ma mc w' :=
 ⟨h.pf, h.bx.keep (hb.block _ h.bx.lt), TR.go hb h.ta, h.ff.keep (hb.block _ h.ff.lt), Lists.go hb h.l0, Lists.go hb h.l1, Lists.go hb h.l2, h.ml, h.mm.below hb⟩
def aw (t : Int) : Prop := t = 1 ∨ t = 2 ∨ t = 3 ∨ t = 4
theorem fJ {t : Int} (ht : aw t) : Calls Tryz.prog 137 #[.int .i64 t] w fun e w' => e = .returned (.int .u8 (bitM t)) ∧ w' = w := by
 rcases ht with rfl | rfl | rfl | rfl
 all_goals
  go_enter Tryz.func137, Tryz.ntmps137
  go_wp2_with fail
  go_ret
  exact ⟨rfl, rfl⟩
theorem has_kn {q : Nat} {t : Int} (h : Kn K A T F n m ma mc w) (hq : q < n) (ht : aw t) :
    Calls Tryz.prog 136 #[aa K, .int .i64 q, .int .i64 t] w fun e w' => e = .returned (.bool (hs m q t)) ∧ Below w.heap.size w w' := by
 have k8 := h.bx.get (i := 8) rfl
 obtain ⟨g, o, rfl, cm⟩ := h.mm q _ (gL (by rw [h.ml]; exact hq))
 have CB := hide fun d : Nat => fJ (w := w.drewN d) ht
 have HS : Hid ((bits .and .u8 (m.getD q 0) (bitM t) != 0) = hs m q t) := hide (by unfold hs hb; rw [Int.toNat_natCast])
 generalize hs m q t = o at *
 generalize m.getD q 0 = x at *
 generalize bitM t = y at *
 clear h ht
 go_enter Tryz.func136, Tryz.ntmps136
 go_upto_region 1 with fail
 go_quiet ((go_at_call 137; exact Calls.quiet_of_same (CB.out _)))
 go_wp2_with fail
 go_ret
 exact ⟨by rw [← HS.out]; rfl, ah w _⟩
end
def tags : List Int := [1, 2, 3, 4]
theorem kJ {t : Int} (h : aw t) : t ∈ tags := by rcases h with rfl | rfl | rfl | rfl <;> simp [tags]
theorem uA : ∀ x : _root_.Fin 256, (tags.all fun t => tags.all fun u => decide (hb (dt (x.val : Int) t) u = (hb (x.val : Int) u || decide (t = u))) && decide (0 ≤ dt (x.val : Int) t) && decide (dt (x.val : Int) t < 256) && decide ((x.val : Int) < 16 → dt (x.val : Int) t < 16)) = true := by decide +kernel
theorem vT : (tags.all fun t => decide (hb 0 t = false)) = true := by decide +kernel
def dm (x : Int) : Prop := 0 ≤ x ∧ x < 256
theorem jT {x t u : Int} (hx : dm x) (ht : aw t) (hu : aw u) : hb (dt x t) u = (hb x u || decide (t = u)) ∧ dm (dt x t) ∧ (x < 16 → dt x t < 16) := by
 obtain ⟨n, rfl⟩ := Int.eq_ofNat_of_zero_le hx.1
 have hn : n < 256 := by have := hx.2; omega
 have := uA ⟨n, hn⟩
 have := List.all_eq_true.1 this t (kJ ht)
 have := List.all_eq_true.1 this u (kJ hu)
 simp only [Bool.and_eq_true, decide_eq_true_eq] at this
 exact ⟨this.1.1.1, ⟨this.1.1.2, this.1.2⟩, this.2⟩
theorem oQ {t : Int} (ht : aw t) : hb 0 t = false := by
 have := List.all_eq_true.1 vT t (kJ ht)
 simpa using this
def pt (m : List Int) : Prop := ∀ q : Nat, dm (m.getD q 0)
section
variable {T : Th} {F m m' : List Int} {n : Nat}
theorem gZ {q t x u : Int} (hx : dm x) (ht : aw t) (hu : aw u) : hb (dF T F m q t x) u = (hb x u || (decide (t = u) && (!hs m q t && cH T F m t q))) ∧ dm (dF T F m q t x) ∧ (x < 16 → dF T F m q t x < 16) := by
 unfold dF
 obtain ⟨h1, h2, h3⟩ := jT hx ht hu
 cases hc : (!hs m q t && cH T F m t q)
 ·simp [hx]
 simp only [if_true]
 refine ⟨by rw [h1]; simp, h2, h3⟩
theorem tag1 : aw 1 := .inl rfl
theorem tag2 : aw 2 := .inr (.inl rfl)
theorem tag3 : aw 3 := .inr (.inr (.inl rfl))
theorem tag4 : aw 4 := .inr (.inr (.inr rfl))
theorem nP {q x u : Int} (hx : dm x) (hu : aw u) : hb (bA T F m q 4 x) u = (hb x u || (!hs m q u && cH T F m u q)) ∧ dm (bA T F m q 4 x) ∧ (x < 16 → bA T F m q 4 x < 16) := by
 obtain ⟨a1, a2, a3⟩ := gZ (T := T) (F := F) (m := m) (q := q) hx tag1 hu
 obtain ⟨b1, b2, b3⟩ := gZ (T := T) (F := F) (m := m) (q := q) a2 tag2 hu
 obtain ⟨c1, c2, c3⟩ := gZ (T := T) (F := F) (m := m) (q := q) b2 tag3 hu
 obtain ⟨d1, d2, d3⟩ := gZ (T := T) (F := F) (m := m) (q := q) c2 tag4 hu
 refine ⟨?_, d2, fun h => d3 (c3 (b3 (a3 h)))⟩
 show hb (dF T F m q 4 (dF T F m q 3 (dF T F m q 2 (dF T F m q 1 x)))) u = _
 rw [d1, c1, b1, a1]
 rcases hu with rfl | rfl | rfl | rfl <;> simp
theorem qA {q : Nat} (hq : q < m.length) : (aO T F m).getD q 0 = bA T F m q 4 (m.getD q 0) := by
 unfold aO
 rw [List.getD_eq_getElem?_getD, List.getElem?_map, List.getElem?_range hq]
 rfl
theorem pV {q : Nat} (hq : m.length ≤ q) : m.getD q 0 = 0 := by rw [List.getD_eq_getElem?_getD, List.getElem?_eq_none hq]; rfl
theorem tV (h : pt m) : pt (aO T F m) := by
 intro q
 by_cases hq : q < m.length
 ·rw [qA hq]; exact (nP (h q) tag1).2.1
 rw [pV (by rw [cV]; omega)]; exact ⟨by omega, by omega⟩
theorem ix {q t : Int} (h : pt m) (h0 : 0 ≤ q) (h1 : q < (m.length : Int)) (ht : aw t) : hs (aO T F m) q t = (hs m q t || cH T F m t q) := by
 obtain ⟨k, rfl⟩ := Int.eq_ofNat_of_zero_le h0
 unfold hs
 rw [Int.toNat_natCast, qA (by omega), (nP (h k) ht).1]
 have : hs m (k : Int) t = hb (m.getD k 0) t := by unfold hs; rw [Int.toNat_natCast]
 rw [this]
 cases hb (m.getD k 0) t <;> simp
theorem t9 {q t : Int} (h0 : 0 ≤ q) (h1 : ¬ q < (m.length : Int)) (ht : aw t) : hs m q t = false := by
 unfold hs
 rw [pV (by omega)]
 exact oQ ht
def Le (m m' : List Int) : Prop := ∀ q t : Int, 0 ≤ q → aw t → hs m q t = true → hs m' q t = true
theorem Le.refl (m : List Int) : Le m m := fun _ _ _ _ h => h
theorem Le.trans {m1 m2 m3 : List Int} (h : Le m1 m2) (k : Le m2 m3) : Le m1 m3 := fun q t h0 ht hq => k q t h0 ht (h q t h0 ht hq)
theorem iJ (h : pt m) : Le m (aO T F m) := by
 intro q t h0 ht hq
 by_cases h1 : q < (m.length : Int)
 ·rw [ix h h0 h1 ht, hq]; rfl
 rw [t9 h0 h1 ht] at hq; cases hq
theorem ow (hp : Pf T F n) {r x : Int} (hx : x ∈ az T r) : 0 ≤ x ∧ x < (n : Int) := by
 unfold az at hx
 cases hR : T.rules[r.toNat]? with
 | none => rw [hR] at hx; cases hx
 | some R => rw [hR] at hx; exact hp.body R (List.mem_of_getElem? hR) x hx
theorem rJ {r t : Int} : wholeB T m r t = true ↔ ∀ x ∈ az T r, hs m x t = true := by unfold wholeB; rw [List.all_eq_true]
theorem sj {r t : Int} : partB T m r t = true ↔ ∃ x ∈ az T r, hs m x t = true := by unfold partB; rw [List.any_eq_true]
theorem gT (hp : Pf T F n) (h : Le m m') {r t : Int} (ht : aw t) (hw : wholeB T m r t = true) : wholeB T m' r t = true := rJ.2 fun x hx => h x t (ow hp hx).1 ht (rJ.1 hw x hx)
theorem jc (hp : Pf T F n) (h : Le m m') {r t : Int} (ht : aw t) (hw : partB T m r t = true) : partB T m' r t = true := by
 obtain ⟨x, hx, hm⟩ := sj.1 hw
 exact sj.2 ⟨x, hx, h x t (ow hp hx).1 ht hm⟩
theorem tC (hp : Pf T F n) {q f : Int} (h0 : 0 ≤ q) (h1 : q < (n : Int)) (hf : f ∈ row T.foes q) : 0 ≤ f ∧ f < (n : Int) := by
 obtain ⟨k, rfl⟩ := Int.eq_ofNat_of_zero_le h0
 exact hp.foe k (by omega) f hf
theorem kI {q : Int} : eE T F m q = true ↔ q ∈ F ∨ ∃ r ∈ ag T kS q, wholeB T m r 1 = true := by unfold eE; simp [List.any_eq_true]
theorem mW {q : Int} : d8 T F m q = true ↔ q ∉ F ∧ ∀ r ∈ ag T kS q, partB T m r 2 = true := by unfold d8; simp [List.all_eq_true]
theorem mF {q s : Int} : iK T m q s = true ↔ partB T m s 4 = true ∨ ∃ t ∈ ag T kT q, beatB T t s = true ∧ wholeB T m t 3 = true := by unfold iK; simp [List.any_eq_true]
theorem pR {q s : Int} : il T m q s = true ↔ wholeB T m s 3 = true ∧ ∀ t ∈ ag T kT q, partB T m t 4 = true ∨ beatB T t s = false := by unfold il; simp [List.all_eq_true]
theorem ld {q : Int} : plusD T m q = true ↔ hs m q 1 = true ∨ ((∃ r ∈ ag T kT q, wholeB T m r 3 = true) ∧ (∀ f ∈ row T.foes q, hs m f 2 = true) ∧ ∀ f ∈ row T.foes q, ∀ s ∈ ag T kA f, iK T m q s = true) := by
 unfold plusD
 simp only [Bool.or_eq_true, Bool.and_eq_true, List.any_eq_true, List.all_eq_true, and_assoc]
theorem nu {q : Int} : minusD T m q = true ↔ hs m q 2 = true ∧ ((∀ r ∈ ag T kT q, partB T m r 4 = true) ∨ (∃ f ∈ row T.foes q, hs m f 1 = true) ∨ ∃ f ∈ row T.foes q, ∃ s ∈ ag T kA f, il T m q s = true) := by
 unfold minusD
 simp only [Bool.or_eq_true, Bool.and_eq_true, List.any_eq_true, List.all_eq_true, or_assoc]
theorem zF {q : Int} : cH T F m 1 q = eE T F m q := rfl
theorem zy {q : Int} : cH T F m 2 q = d8 T F m q := rfl
theorem zC {q : Int} : cH T F m 3 q = plusD T m q := rfl
theorem zw {q : Int} : cH T F m 4 q = minusD T m q := rfl
theorem uD (hp : Pf T F n) (h : Le m m') {q t : Int} (h0 : 0 ≤ q) (h1 : q < (n : Int)) (ht : aw t) (hc : cH T F m t q = true) : cH T F m' t q = true := by
 rcases ht with rfl | rfl | rfl | rfl
 ·rw [zF] at *
  rcases kI.1 hc with h2 | ⟨r, hr, hw⟩
  ·exact kI.2 (.inl h2)
  exact kI.2 (.inr ⟨r, hr, gT hp h tag1 hw⟩)
 ·rw [zy] at *
  obtain ⟨h2, h3⟩ := mW.1 hc
  exact mW.2 ⟨h2, fun r hr => jc hp h tag2 (h3 r hr)⟩
 ·rw [zC] at *
  rcases ld.1 hc with h2 | ⟨⟨r, hr, hw⟩, h3, h4⟩
  ·exact ld.2 (.inl (h q 1 h0 tag1 h2))
  refine ld.2 (.inr ⟨⟨r, hr, gT hp h tag3 hw⟩, fun f hf => h f 2 (tC hp h0 h1 hf).1 tag2 (h3 f hf), fun f hf s hs => ?_⟩)
  rcases mF.1 (h4 f hf s hs) with h5 | ⟨t, ht, h5, h6⟩
  ·exact mF.2 (.inl (jc hp h tag4 h5))
  exact mF.2 (.inr ⟨t, ht, h5, gT hp h tag3 h6⟩)
 rw [zw] at *
 obtain ⟨h2, h3⟩ := nu.1 hc
 refine nu.2 ⟨h q 2 h0 tag2 h2, ?_⟩
 rcases h3 with h3 | ⟨f, hf, h3⟩ | ⟨f, hf, s, hs, h3⟩
 ·exact .inl fun r hr => jc hp h tag4 (h3 r hr)
 ·exact .inr (.inl ⟨f, hf, h f 1 (tC hp h0 h1 hf).1 tag1 h3⟩)
 obtain ⟨h5, h6⟩ := pR.1 h3
 exact .inr (.inr ⟨f, hf, s, hs, pR.2 ⟨gT hp h tag3 h5, fun t ht => (h6 t ht).imp (jc hp h tag4) id⟩⟩)
end
def Mk (T : Th) (F : List Int) (k : Nat) : List Int := gW T F k (List.replicate T.lits.toNat 0)
section
variable {T : Th} {F m : List Int} {n k j : Nat}
theorem qE {c q : Nat} : (List.replicate c (0 : Int)).getD q 0 = 0 := by
 rw [List.getD_eq_getElem?_getD, List.getElem?_replicate]
 split <;> rfl
theorem ny (hp : Pf T F n) : (Mk T F k).length = n := by
 unfold Mk
 rw [qw, List.length_replicate, hp.ln, Int.toNat_natCast]
theorem lH : Mk T F (k + 1) = aO T F (Mk T F k) := oU
theorem lp : ∀ {k : Nat}, pt (Mk T F k)
 | 0 => fun q => by show dm ((List.replicate T.lits.toNat 0).getD q 0); rw [qE]; exact ⟨by omega, by omega⟩
 | k + 1 => by rw [lH]; exact tV lp
theorem zG : Le (Mk T F k) (Mk T F (k + j)) := by
 induction j with
 | zero => exact Le.refl _
 | succ j ih => rw [← Nat.add_assoc, lH]; exact ih.trans (iJ lp)
theorem sa (hp : Pf T F n) {q t : Int} (h0 : 0 ≤ q) (ht : aw t) : ∀ {k : Nat}, hs (Mk T F k) q t = true → ∃ i, i < k ∧ cH T F (Mk T F i) t q = true ∧ q < (n : Int)
 | 0, h => by
  have : hs (Mk T F 0) q t = false := by
   show hb ((List.replicate T.lits.toNat 0).getD q.toNat 0) t = false
   rw [qE]; exact oQ ht
  rw [this] at h; cases h
 | k + 1, h => by
  by_cases h1 : q < (n : Int)
  ·rw [lH, ix lp h0 (by rw [ny hp]; exact h1) ht] at h
   rcases Bool.or_eq_true_iff.1 h with h2 | h2
   ·obtain ⟨i, hi, hc⟩ := sa hp h0 ht h2
    exact ⟨i, by omega, hc⟩
   exact ⟨k, by omega, h2, h1⟩
  rw [t9 h0 (by rw [ny hp]; exact h1) ht] at h; cases h
theorem rV (hp : Pf T F n) (h : pA T F m k) : m.length = n := by rw [h.1]; exact ny hp
theorem yp (h : pA T F m k) : pt m := by rw [h.1]; exact lp
theorem yb (hp : Pf T F n) (h : pA T F m k) {q t : Int} (h0 : 0 ≤ q) (h1 : q < (n : Int)) (ht : aw t) : hs m q t = true ↔ cH T F m t q = true := by
 constructor
 ·intro hq
  have e := h.1
  rw [e] at hq
  obtain ⟨i, hi, hc, -⟩ := sa hp h0 ht hq
  refine uD hp ?_ h0 h1 ht hc
  rw [e]
  obtain ⟨d, rfl⟩ := Nat.exists_eq_add_of_le (Nat.le_of_lt hi)
  exact zG
 intro hc
 have := ix (T := T) (F := F) (yp h) h0 (by rw [rV hp h]; exact h1) ht
 rw [h.2, hc] at this
 simpa using this
def B0 (T : Th) : Prop := ∃ (f : Int → Nat) (B : Nat), (∀ r, f r ≤ B) ∧ ∀ t s : Int, 0 ≤ t → s ∈ row T.beats t → f s < f t
end
def cm (s : Wk) (x : Int) : Int := s.came.getD x.toNat 0
def bk (s : Wk) (x : Int) : Int := s.back.getD x.toNat 0
def sh (s : Wk) (x : Int) : Bool := s.shut.getD x.toNat false
def m6 (N : Nat) (x : Int) : Prop := 0 ≤ x ∧ x < (N : Int)
def A5 (next : List (List Int)) (L : List Int) : Prop := ∀ A x B, L = A ++ x :: B → ∀ o ∈ row next x, o ∈ A
def un (s : Wk) : Nat := (s.came.filter fun z => decide (z = 0)).length
structure Iv (next : List (List Int)) (N : Nat) (s : Wk) : Prop where
 lc : s.came.length = N
 lb : s.back.length = N
 ls : s.shut.length = N
 ck : ∀ x, m6 N x → 0 ≤ cm s x ∧ cm s x ≤ s.clock
 op : ∀ x ∈ s.opn, m6 N x ∧ cm s x ≠ 0 ∧ sh s x = false
 vis : ∀ x, m6 N x → cm s x ≠ 0 → sh s x = false → x ∈ s.opn
 srt : s.opn.Pairwise fun a b => cm s a < cm s b
 bck : ∀ x ∈ s.opn, ∃ y ∈ s.opn, bk s x = cm s y ∧ cm s y ≤ cm s x
 fl : ∀ x, m6 N x → (sh s x = true ↔ x ∈ s.knots.flatten)
 kn : ∀ x ∈ s.knots.flatten, m6 N x
 top : (∀ k ∈ s.knots, k.length ≤ 1) → A5 next s.knots.flatten
 c0 : 0 ≤ s.clock
 sv : ∀ x, m6 N x → sh s x = true → cm s x ≠ 0
structure Fm (N : Nat) (s s' : Wk) : Prop where
 same : ∀ x, m6 N x → cm s x ≠ 0 → cm s' x = cm s x ∧ bk s' x = bk s x
 sh : ∀ x, m6 N x → sh s x = true → sh s' x = true
 op : ∃ R, s'.opn = s.opn ++ R
 kn : ∃ K, s'.knots = s.knots ++ K
 un : un s' ≤ un s
section
variable {next : List (List Int)} {N : Nat} {s : Wk} {p : Int}
structure Lp (next : List (List Int)) (N : Nat) (p : Int) (O : List Int) (D : List Int) (s : Wk) : Prop where
 iv : Iv next N s
 at_ : ∃ R, s.opn = O ++ p :: R
 dn : ∀ o ∈ D, m6 N o ∧ (sh s o = true ∨ (o ∈ s.opn ∧ bk s p ≤ cm s o))
end
section
variable {next : List (List Int)} {N : Nat}
def A6 (x : Int) : List Int → Nat
 | [] => 0
 | y :: l => if y = x then 0 else A6 x l + 1
end
end Go.Proofs.YtmlhcncagdfjfaaGreat
