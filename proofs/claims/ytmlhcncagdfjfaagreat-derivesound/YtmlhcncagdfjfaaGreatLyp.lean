import Derived.Test.YtmlhcncagdfjfaaGreatNwG
namespace Go.Proofs.YtmlhcncagdfjfaaGreat.Fa
open Go.RowKit Rg
structure Wt (b : Bool) (T : Th) (n lo hi us ms rr op : Nat) (W : World) : Prop where
 u : LL (fun k => lo ≤ k ∧ k < hi ∧ k ≠ ms ∧ k ≠ rr ∧ k ≠ op) (dN T (kW b) T.rules.length) n us W
 m : Fx ms 3 (bO T.rules.length (fi T (kW b) T.rules.length)) W
 r : Fx rr 4 (cq T.rules.length fun _ => false) W
 o : Fx op 3 (bO n (eh T (kL b) (opK T (kL b) T.rules.length) T.rules.length)) W
 lo : lo ≤ ms ∧ lo ≤ rr ∧ lo ≤ op
 hi : ms < hi ∧ rr < hi ∧ op < hi
 ne : ms ≠ op
section
variable {b : Bool} {T : Th} {F : List Int} {n lo hi us ms rr op : Nat} {W W' : World}
theorem Wt.keep (h : Wt b T n lo hi us ms rr op W) (hh : hi ≤ W.heap.size) (hb : Below W.heap.size W W') : Wt b T n lo hi us ms rr op W' :=
 ⟨h.u.keep fun k hk => hb.block k (by omega), h.m.keep (hb.block _ h.m.lt), h.r.keep (hb.block _ h.r.lt), h.o.keep (hb.block _ h.o.lt), h.lo, h.hi, h.ne⟩
theorem Wt.of {q : Nat} {H : Nat → List (List Int)} {vs : Nat → List Value} (h : Nw lo q us ms rr op n T.rules.length (fi T (kW b) T.rules.length) (eh T (kL b) (opK T (kL b) T.rules.length) T.rules.length) H vs W) (hu : ∀ z : Nat, z < n → (H 0).getD z [] = dN T (kW b) T.rules.length z) : Wt b T n lo W.heap.size us ms rr op W := by
 have Aa := h.h3.fx 0 (by decide)
 refine ⟨⟨⟨h.h3.lo 0 (by decide), Aa.lt, an Aa h.fm (by decide), an Aa h.fr (by decide), an Aa h.fo (by decide)⟩, vs 0, Aa, h.h3.vl 0 (by decide), fun i hi => ?_⟩, h.fm, h.fr, h.fo, ⟨h.lo.2.1, h.lo.2.2.1, h.lo.2.2.2⟩, ⟨h.fm.lt, h.fr.lt, h.fo.lt⟩, h.ne⟩
 obtain ⟨l, a, k, h1, h2, -, h4⟩ := h.h3.at (c := 0) (by decide) hi
 have e : l = dN T (kW b) T.rules.length i := by
  have := hu i hi
  rw [List.getD_eq_getElem?_getD, h1] at this
  exact this
 subst e
 refine ⟨a, k, h2, dW h4, fun g o e2 _ => ?_⟩
 have Ab : Value.ownBlock (.slice a (dN T (kW b) T.rules.length i).length k) = some g := by rw [e2]; rfl
 have Ac := h4.lt g Ab
 have Ad := h.na i _ h2
 refine ⟨Ac.1, Ac.2, fun e => Ad.1 (e ▸ Ab), fun e => au h4 h.fr (by decide) (e ▸ Ab), fun e => Ad.2 (e ▸ Ab)⟩
def Mu (A : Ad) (R : Nat) (k : Nat) : Prop := (∃ b, k = A.ms b ∨ k = A.rr b ∨ k = A.op b) ∨ (∃ s, s < R ∧ k = A.cr s) ∨ k = A.ob ∨ k = A.mq
structure Lp (N0 : Nat) (A : Ad) (T : Th) (F : List Int) (n : Nat) (W : World) : Prop where
 us : ∀ b, LL (fun k => N0 ≤ k ∧ k < W.heap.size ∧ k ≠ A.K ∧ ¬ Mu A T.rules.length k) (dN T (kW b) T.rules.length) n (A.us b) W
 lx : Fx A.cl 229 ((List.range T.rules.length).map fun s : Nat => sl (A.cr s) (ao T (aj T s)).length) W
 ms : ∀ b, Fx (A.ms b) 3 (bO T.rules.length (fi T (kW b) T.rules.length)) W
 rr : ∀ b, Fx (A.rr b) 4 (cq T.rules.length fun _ => false) W
 op : ∀ b, Fx (A.op b) 3 (bO n (eh T (kL b) (opK T (kL b) T.rules.length) T.rules.length)) W
 cr : ∀ s : Nat, s < T.rules.length → Fx (A.cr s) 231 (bR (ao T (aj T s)) (fK T T.rules.length s) fun _ => false) W
 ob : Fx A.ob 3 (bO n (obK T F n)) W
 mq : Fx A.mq 67 (eQ n fun _ => 0) W
 lo : ∀ k, Mu A T.rules.length k → N0 ≤ k
 di : Di A T.rules.length
theorem Lp.keep {N0 : Nat} {A : Ad} (h : Lp N0 A T F n W) (hb : Below W.heap.size W W') : Lp N0 A T F n W' :=
 have k : ∀ {g t : Nat} {xs : List Value}, Fx g t xs W → Fx g t xs W' := fun hf => hf.keep (hb.block _ hf.lt)
 ⟨fun b => ((h.us b).keep fun k hk => hb.block k hk.2.1).sub fun _ hk => ⟨hk.1, Nat.lt_of_lt_of_le hk.2.1 hb.size, hk.2.2⟩, k h.lx, fun b => k (h.ms b), fun b => k (h.rr b), fun b => k (h.op b), fun s hs => k (h.cr s hs), k h.ob, k h.mq, h.lo, h.di⟩
theorem Lp.key {N0 : Nat} {A : Ad} (h : Lp N0 A T F n W) : Lp N0 { A with K := W.heap.size } T F n W :=
 ⟨fun b => (h.us b).sub fun _ hk => ⟨hk.1, hk.2.1, fun e => Nat.ne_of_lt hk.2.1 e, hk.2.2.2⟩, h.lx, h.ms, h.rr, h.op, h.cr, h.ob, h.mq, h.lo, ⟨h.di.mm, h.di.oo, h.di.rr, h.di.mo, h.di.mb, h.di.ob, h.di.cc⟩⟩
def wJ {α : Type} (x y : α) (b : Bool) : α := if b then y else x
abbrev oY (K : Nat) (fa ra ba : Option Addr) (fc rc bc rl tm rv fm us0 ms0 rr0 op0 us1 ms1 rr1 op1 cl ob mq : Nat) (cr : Nat → Nat) : Ad := ⟨K, fa, ra, ba, fc, rc, bc, rl, tm, rv, fm, wJ us0 us1, wJ ms0 ms1, wJ rr0 rr1, wJ op0 op1, cl, ob, mq, cr⟩
theorem bz {k m l h l' h' : Nat} (a : l ≤ k ∧ k < h) (b : l' ≤ m ∧ m < h') (d : h ≤ l' ∨ h' ≤ l) : k ≠ m := by omega
theorem Lp.of {N0 K : Nat} {fa ra ba : Option Addr} {fc rc bc rl tm rv fm us0 ms0 rr0 op0 us1 ms1 rr1 op1 cl ob mq : Nat} {cr : Nat → Nat} {l0 h0 l1 h1 l2 h2 l3 h3 l4 h4 : Nat} (hK : K < N0) (w0 : Wt false T n l0 h0 us0 ms0 rr0 op0 W) (w1 : Wt true T n l1 h1 us1 ms1 rr1 op1 W) (cz : Cz l2 cl cr T T.rules.length (fK T T.rules.length) W) (hc : ∀ s, s < T.rules.length → cr s < h2) (fo : Fx ob 3 (bO n (obK T F n)) W) (ho : l3 ≤ ob ∧ ob < h3) (fq : Fx mq 67 (eQ n fun _ => 0) W) (hq : l4 ≤ mq ∧ mq < h4)
    (n0 : N0 ≤ l0) (n1 : N0 ≤ l1) (n2 : N0 ≤ l2) (n3 : N0 ≤ l3) (n4 : N0 ≤ l4) (m0 : h0 ≤ W.heap.size) (m1 : h1 ≤ W.heap.size)
    (d01 : h0 ≤ l1 ∨ h1 ≤ l0) (d02 : h0 ≤ l2 ∨ h2 ≤ l0) (d03 : h0 ≤ l3 ∨ h3 ≤ l0) (d04 : h0 ≤ l4 ∨ h4 ≤ l0) (d12 : h1 ≤ l2 ∨ h2 ≤ l1) (d13 : h1 ≤ l3 ∨ h3 ≤ l1) (d14 : h1 ≤ l4 ∨ h4 ≤ l1) :
    Lp N0 (oY K fa ra ba fc rc bc rl tm rv fm us0 ms0 rr0 op0 us1 ms1 rr1 op1 cl ob mq cr) T F n W := by
 have a0 := w0.lo
 have b0 := w0.hi
 have e0 := w0.ne
 have a1 := w1.lo
 have b1 := w1.hi
 have e1 := w1.ne
 have a2 := cz.lo.2
 have c2 : ∀ s, s < T.rules.length → l2 ≤ cr s ∧ cr s < h2 := fun s hs => ⟨a2 s hs, hc s hs⟩
 have M0 : ∀ k, l0 ≤ k ∧ k < h0 ∧ k ≠ ms0 ∧ k ≠ rr0 ∧ k ≠ op0 → ¬ Mu (oY K fa ra ba fc rc bc rl tm rv fm us0 ms0 rr0 op0 us1 ms1 rr1 op1 cl ob mq cr) T.rules.length k := by
  rintro k ⟨k1, k2, k3, k4, k5⟩ (⟨b, hb⟩ | ⟨s, hs, e⟩ | e | e)
  ·cases b
   ·rcases hb with e | e | e
    ·exact k3 e
    ·exact k4 e
    exact k5 e
   rcases hb with e | e | e
   ·exact bz ⟨k1, k2⟩ ⟨a1.1, b1.1⟩ d01 e
   ·exact bz ⟨k1, k2⟩ ⟨a1.2.1, b1.2.1⟩ d01 e
   exact bz ⟨k1, k2⟩ ⟨a1.2.2, b1.2.2⟩ d01 e
  ·exact bz ⟨k1, k2⟩ (c2 s hs) d02 e
  ·exact bz ⟨k1, k2⟩ ho d03 e
  exact bz ⟨k1, k2⟩ hq d04 e
 have M1 : ∀ k, l1 ≤ k ∧ k < h1 ∧ k ≠ ms1 ∧ k ≠ rr1 ∧ k ≠ op1 → ¬ Mu (oY K fa ra ba fc rc bc rl tm rv fm us0 ms0 rr0 op0 us1 ms1 rr1 op1 cl ob mq cr) T.rules.length k := by
  rintro k ⟨k1, k2, k3, k4, k5⟩ (⟨b, hb⟩ | ⟨s, hs, e⟩ | e | e)
  ·cases b
   ·rcases hb with e | e | e
    ·exact bz ⟨k1, k2⟩ ⟨a0.1, b0.1⟩ d01.symm e
    ·exact bz ⟨k1, k2⟩ ⟨a0.2.1, b0.2.1⟩ d01.symm e
    exact bz ⟨k1, k2⟩ ⟨a0.2.2, b0.2.2⟩ d01.symm e
   rcases hb with e | e | e
   ·exact k3 e
   ·exact k4 e
   exact k5 e
  ·exact bz ⟨k1, k2⟩ (c2 s hs) d12 e
  ·exact bz ⟨k1, k2⟩ ho d13 e
  exact bz ⟨k1, k2⟩ hq d14 e
 refine ⟨fun b => ?_, ?_, fun b => ?_, fun b => ?_, fun b => ?_, cz.cs, fo, fq, ?_, ?_⟩
 ·cases b
  ·exact w0.u.sub fun k hk => ⟨Nat.le_trans n0 hk.1, Nat.lt_of_lt_of_le hk.2.1 m0, fun e => (by have e : k = K := e; have := hk.1; omega), M0 k hk⟩
  exact w1.u.sub fun k hk => ⟨Nat.le_trans n1 hk.1, Nat.lt_of_lt_of_le hk.2.1 m1, fun e => (by have e : k = K := e; have := hk.1; omega), M1 k hk⟩
 ·have := cz.fx
  have e : ((List.range T.rules.length).map fun s : Nat => if s < T.rules.length then sl (cr s) (ao T (aj T s)).length else .slice none 0 0) = (List.range T.rules.length).map fun s : Nat => sl (cr s) (ao T (aj T s)).length := List.map_congr_left fun s hs => if_pos (List.mem_range.1 hs)
  rw [e] at this
  exact this
 ·cases b
  ·exact w0.m
  exact w1.m
 ·cases b
  ·exact w0.r
  exact w1.r
 ·cases b
  ·exact w0.o
  exact w1.o
 ·rintro k (⟨b, hb⟩ | ⟨s, hs, e⟩ | e | e)
  ·cases b
   ·rcases hb with e | e | e
    ·exact e ▸ Nat.le_trans n0 a0.1
    ·exact e ▸ Nat.le_trans n0 a0.2.1
    exact e ▸ Nat.le_trans n0 a0.2.2
   rcases hb with e | e | e
   ·exact e ▸ Nat.le_trans n1 a1.1
   ·exact e ▸ Nat.le_trans n1 a1.2.1
   exact e ▸ Nat.le_trans n1 a1.2.2
  ·exact e ▸ Nat.le_trans n2 (c2 s hs).1
  ·exact e ▸ Nat.le_trans n3 ho.1
  exact e ▸ Nat.le_trans n4 hq.1
 refine ⟨fun b c e => ?_, fun b c e => ?_, fun b c e => ?_, fun b c e => ?_, fun b e => ?_, fun b e => ?_, cz.inj⟩
 ·cases b <;> cases c
  ·rfl
  ·exact absurd e (bz ⟨a0.1, b0.1⟩ ⟨a1.1, b1.1⟩ d01)
  ·exact absurd e.symm (bz ⟨a0.1, b0.1⟩ ⟨a1.1, b1.1⟩ d01)
  rfl
 ·cases b <;> cases c
  ·rfl
  ·exact absurd e (bz ⟨a0.2.2, b0.2.2⟩ ⟨a1.2.2, b1.2.2⟩ d01)
  ·exact absurd e.symm (bz ⟨a0.2.2, b0.2.2⟩ ⟨a1.2.2, b1.2.2⟩ d01)
  rfl
 ·cases b <;> cases c
  ·rfl
  ·exact absurd e (bz ⟨a0.2.1, b0.2.1⟩ ⟨a1.2.1, b1.2.1⟩ d01)
  ·exact absurd e.symm (bz ⟨a0.2.1, b0.2.1⟩ ⟨a1.2.1, b1.2.1⟩ d01)
  rfl
 ·cases b <;> cases c
  ·exact e0 e
  ·exact bz ⟨a0.1, b0.1⟩ ⟨a1.2.2, b1.2.2⟩ d01 e
  ·exact bz ⟨a1.1, b1.1⟩ ⟨a0.2.2, b0.2.2⟩ d01.symm e
  exact e1 e
 ·cases b
  ·exact bz ⟨a0.1, b0.1⟩ ho d03 e
  exact bz ⟨a1.1, b1.1⟩ ho d13 e
 cases b
 ·exact bz ⟨a0.2.2, b0.2.2⟩ ho d03 e
 exact bz ⟨a1.2.2, b1.2.2⟩ ho d13 e
end
def fy (T : Th) (F : List Int) (n : Nat) : Es where
 ms := fun b => fi T (kW b) T.rules.length
 rf := fun _ _ => false
 op := fun b => eh T (kL b) (opK T (kL b) T.rules.length) T.rules.length
 cd := fK T T.rules.length
 cb := fun _ _ => false
 ob := obK T F n
 mq := fun _ => 0
 td := []
 tk := 0
 up := 0
def Sk (A : Ad) (R : Nat) (W : World) (k : Nat) : Prop := k < W.heap.size ∧ k ≠ A.K ∧ ¬ Mu A R k
section
variable {T : Th} {F : List Int} {n N N0 : Nat} {A : Ad} {W W' : World}
structure Iy (N N0 : Nat) (A : Ad) (T : Th) (F : List Int) (n : Nat) (W : World) : Prop where
 ta : TA N W T A.fa A.fc A.ra A.rc A.ba A.bc
 a : LL (fun k => k < N0) (ag T kA) n A.rl W
 t : LL (fun k => k < N0) (ag T kT) n A.tm W
 v : LL (fun k => k < N0) (ao T) n A.rv W
 f : Fx A.fm 4 (cq n (bI T F)) W
 ff : A.fm < N0
theorem En.of (hp : Pf T F n) (hl : Lp N0 A T F n W) (hi : Iy N N0 A T F n W) (hN : N ≤ N0) (hK : N0 ≤ A.K) (hx : Fx A.K 181 (pW A T n T.rules.length (.slice none 0 0) 0 0) W) : En N (Sk A T.rules.length W) A T F n (fy T F n) (.slice none 0 0) W := by
 have Ac := hx.lt
 have Aa : ∀ k, k < N0 → Sk A T.rules.length W k := fun k hk => ⟨by omega, by omega, fun h => by have := hl.lo k h; omega⟩
 have Ab : Sk A T.rules.length W A.cl := by
  refine ⟨hl.lx.lt, an hl.lx hx (by decide), ?_⟩
  rintro (⟨b, e | e | e⟩ | ⟨s, hs, e⟩ | e | e)
  ·exact an hl.lx (hl.ms b) (by decide) e
  ·exact an hl.lx (hl.rr b) (by decide) e
  ·exact an hl.lx (hl.op b) (by decide) e
  ·exact an hl.lx (hl.cr s hs) (by decide) e
  ·exact an hl.lx hl.ob (by decide) e
  exact an hl.lx hl.mq (by decide) e
 refine ⟨hp, ⟨hi.ta, fun g hg => Aa g (by omega), hi.a.sub Aa, hi.t.sub Aa, hi.v.sub Aa, Aa _ hi.ff, hi.f, fun b => (hl.us b).sub fun k hk => ⟨hk.2.1, hk.2.2.1, hk.2.2.2⟩, Ab, hl.lx⟩, hl.di, ⟨fun x hx => (by cases hx), List.Pairwise.nil, fun q => ?_, Nat.le_refl _⟩, hx, hl.ms, hl.rr, hl.op, hl.cr, hl.ob, hl.mq, ⟨rfl, .inl ⟨rfl, rfl⟩⟩, ?_⟩
 ·show dm 0
  unfold dm
  omega
 intro k hk
 refine ⟨hk.1, hk.2.1, fun b => ⟨fun e => hk.2.2 (.inl ⟨b, .inl e⟩), fun e => hk.2.2 (.inl ⟨b, .inr (.inl e)⟩), fun e => hk.2.2 (.inl ⟨b, .inr (.inr e)⟩)⟩, fun s hs e => hk.2.2 (.inr (.inl ⟨s, hs, e⟩)), fun e => hk.2.2 (.inr (.inr (.inl e))), fun e => hk.2.2 (.inr (.inr (.inr e))), fun e => by cases e⟩
theorem En.congr {S : Nat → Prop} {e e' : Es} {tv : Value} (h : En N S A T F n e tv W) (h1 : ∀ b (r : Nat), r < T.rules.length → e.ms b r = e'.ms b r) (h2 : ∀ b (r : Nat), r < T.rules.length → e.rf b r = e'.rf b r) (h3 : ∀ b (q : Nat), q < n → e.op b q = e'.op b q) (h4 : ∀ s : Nat, s < T.rules.length → ∀ p ∈ ao T (aj T s), e.cd s p = e'.cd s p ∧ e.cb s p = e'.cb s p) (h5 : ∀ q : Nat, q < n → e.ob q = e'.ob q) (h6 : e.mq = e'.mq) (h7 : e.td = e'.td) (h8 : e.tk = e'.tk) (h9 : e.up = e'.up) : En N S A T F n e' tv W := by
 have rI : ∀ {m : Nat} {f g : Int → Int}, (∀ i : Nat, i < m → f i = g i) → bO m f = bO m g := fun h => List.map_congr_left fun i hi => by rw [h i (List.mem_range.1 hi)]
 have rB : ∀ {m : Nat} {f g : Int → Bool}, (∀ i : Nat, i < m → f i = g i) → cq m f = cq m g := fun h => List.map_congr_left fun i hi => by rw [h i (List.mem_range.1 hi)]
 have hh : ∀ q t, has e q t = has e' q t := fun q t => by unfold has; rw [h6]
 refine ⟨h.pf, h.ro, h.di, ⟨fun x hx => ?_, by rw [← h7]; exact h.tok.nd, fun q => by rw [← h6]; exact h.tok.by_ q, by rw [← h7, ← h8]; exact h.tok.tk⟩, by rw [← h8, ← h9]; exact h.bx, fun b => by rw [← rI (h1 b)]; exact h.ms b, fun b => by rw [← rB (h2 b)]; exact h.rf b, fun b => by rw [← rI (h3 b)]; exact h.op b, fun s hs => by rw [← jW (h4 s hs)]; exact h.cr s hs, by rw [← rI h5]; exact h.ob, by rw [← h6]; exact h.mq, by rw [← h7]; exact h.td, h.kp⟩
 rw [← h7] at hx
 have := h.tok.inn x hx
 rw [hh] at this
 exact this
end
def oV (T : Th) (F : List Int) (fa ra ba : Option Addr) (fc rc bc rl tm rv fm tb n N0 : Nat) (i : Nat) (v : Value) (W : World) (lo hi : Nat) : Prop := match i with
 | 0 | 5 | 7 => v = .agg (cW T fa ra ba fc rc bc rl tm rv fm n).toArray
 | 1 | 3 => v = tv T fa fc ra rc ba bc
 | 9 => v = aa tb
 | 10 => v = .int .i64 T.lits
 | 2 => ∃ us ms rr op, v = .agg (rR us ms rr op n T.rules.length).toArray ∧ Wt false T n lo hi us ms rr op W
 | 4 => ∃ us ms rr op, v = .agg (rR us ms rr op n T.rules.length).toArray ∧ Wt true T n lo hi us ms rr op W
 | 6 => ∃ cl cr, v = sl cl T.rules.length ∧ Cz lo cl cr T T.rules.length (fK T T.rules.length) W ∧ ∀ s, s < T.rules.length → cr s < hi
 | 8 => ∃ g, v = sl g n ∧ Fx g 3 (bO n (obK T F n)) W ∧ lo ≤ g ∧ g < hi
 | 11 => ∃ g, v = sl g n ∧ Fx g 67 (eQ n fun _ => 0) W ∧ lo ≤ g ∧ g < hi
 | 12 => ∃ us0 ms0 rr0 op0 us1 ms1 rr1 op1 cl ob mq cr, v = .agg (pW (oY tb fa ra ba fc rc bc rl tm rv fm us0 ms0 rr0 op0 us1 ms1 rr1 op1 cl ob mq cr) T n T.rules.length (.slice none 0 0) 0 0).toArray ∧ Lp N0 (oY tb fa ra ba fc rc bc rl tm rv fm us0 ms0 rr0 op0 us1 ms1 rr1 op1 cl ob mq cr) T F n W
 | 13 | 14 => ∃ K us0 ms0 rr0 op0 us1 ms1 rr1 op1 cl ob mq cr, v = aa K ∧ N0 ≤ K ∧ Fx K 181 (pW (oY K fa ra ba fc rc bc rl tm rv fm us0 ms0 rr0 op0 us1 ms1 rr1 op1 cl ob mq cr) T n T.rules.length (.slice none 0 0) 0 0) W ∧ Lp N0 (oY K fa ra ba fc rc bc rl tm rv fm us0 ms0 rr0 op0 us1 ms1 rr1 op1 cl ob mq cr) T F n W
 | _ => True
theorem bE {T : Th} {F : List Int} {fa ra ba : Option Addr} {fc rc bc rl tm rv fm tb n N0 : Nat} : ∀ i v W W' lo hi, oV T F fa ra ba fc rc bc rl tm rv fm tb n N0 i v W lo hi → hi ≤ W.heap.size → Below W.heap.size W W' → oV T F fa ra ba fc rc bc rl tm rv fm tb n N0 i v W' lo hi := by
 intro i v W W' lo hi h hh hb
 have k : ∀ {g t : Nat} {xs : List Value}, Fx g t xs W → Fx g t xs W' := fun hf => hf.keep (hb.block _ hf.lt)
 unfold oV at *
 split at h
 all_goals first
  | exact h
  | (obtain ⟨us, ms, rr, op, a, b⟩ := h; exact ⟨us, ms, rr, op, a, b.keep hh hb⟩)
  | (obtain ⟨cl, cr, a, b, c⟩ := h; exact ⟨cl, cr, a, b.go hb, c⟩)
  | (obtain ⟨g, a, b, c⟩ := h; exact ⟨g, a, k b, c⟩)
  | (obtain ⟨u0, m0, r0, o0, u1, m1, r1, o1, cl, ob, mq, cr, a, b⟩ := h; exact ⟨u0, m0, r0, o0, u1, m1, r1, o1, cl, ob, mq, cr, a, b.keep hb⟩)
  | (obtain ⟨K, u0, m0, r0, o0, u1, m1, r1, o1, cl, ob, mq, cr, a, b, c, d⟩ := h; exact ⟨K, u0, m0, r0, o0, u1, m1, r1, o1, cl, ob, mq, cr, a, b, k c, d.keep hb⟩)
  | trivial
set_option maxRecDepth 100000
set_option maxHeartbeats 12800000
theorem tS : (Tryz.prog.info? 67).map (fun i => (i.zero, i.size, i.bytes)) = some (some (.int .u8 0), 1, 1) := by kernel_rfl
theorem uV {n : Nat} : Array.replicate n (Value.int .u8 0) = (eQ n fun _ => 0).toArray := by
 unfold eQ
 rw [List.map_const', List.length_range, List.toArray_replicate]
def dU (l : List Int) (e : Es) : Es := { e with op := dI e.op false (l.foldl (fun f x => aA f x 0) (e.op false)) }
theorem s9 {α : Type} {f : Bool → α} {b : Bool} {x y : α} : dI (dI f b x) b y = dI f b y := by
 funext c
 by_cases e : c = b
 ·rw [e, dx, dx]
 rw [eK e, eK e, eK e]
theorem uk {e : Es} : dU [] e = e := by
 unfold dU
 have : dI e.op false (e.op false) = e.op := by
  funext c
  cases c
  ·rw [dx]
  rw [eK (by decide)]
 rw [List.foldl_nil, this]
theorem sw {l : List Int} {x : Int} {e : Es} : dU (l ++ [x]) e = { dU l e with op := dI (dU l e).op false (aA ((dU l e).op false) x 0) } := by
 unfold dU
 simp only [dx, s9, List.foldl_append, List.foldl_cons, List.foldl_nil]
structure jp (T : Th) (F : List Int) (n : Nat) : Prop where
 ms : ∀ b (r : Nat), r < T.rules.length → (dU F (fy T F n)).ms b r = (dB T F).ms b r
 op : ∀ b (q : Nat), q < n → (dU F (fy T F n)).op b q = (dB T F).op b q
 cd : ∀ s : Nat, s < T.rules.length → ∀ p ∈ ao T (aj T s), (dU F (fy T F n)).cd s p = (dB T F).cd s p
 ob : ∀ q : Nat, q < n → (dU F (fy T F n)).ob q = (dB T F).ob q
theorem xT {w : World} {T : Th} {F : List Int} {n : Nat} {fa ra ba ea : Option Addr} {fc rc bc ec : Nat} (h : TA w.heap.size w T fa fc ra rc ba bc) (hF : Ints w.heap.size w F (.slice ea F.length ec)) (hp : Pf T F n) (hso : jp T F n) :
    Calls Tryz.prog 156 #[tv T fa fc ra rc ba bc, .slice ea F.length ec] w fun o w' => ∃ A S, o = .returned (aa A.K) ∧ Eg w.heap.size S A T F n (oR T F n) w' ∧ Below w.heap.size w w' := by
 obtain ⟨iM, Bb, Bp, Bv, Bs⟩ := info_parts tS
 have Ce := hp.n4
 have Cp : T.rules.length ≤ 4096 := hp.ok.rl
 have AZ : ∀ W, (Instr.makeSlice 64 (.int .i64 T.lits) (.int .i64 T.lits)).run Tryz.prog W = .ok (sl W.heap.size n) (W.alloc (.cells (Array.replicate n (.int .u8 0)) 67)) := fun W => by rw [hp.ln]; exact aH (P := Tryz.prog) Tryz.underlying64 Bb Bp Bv rfl n (by rw [Bs]; omega) (by unfold maxLen; omega) W
 have As := ae w (.cells #[.int .i64 T.lits, .slice fa T.foes.length fc, .slice ra T.rules.length rc, .slice ba T.beats.length bc] 25)
 have Am : Fx w.heap.size 25 [.int .i64 T.lits, .slice fa T.foes.length fc, .slice ra T.rules.length rc, .slice ba T.beats.length bc] (w.alloc (.cells #[.int .i64 T.lits, .slice fa T.foes.length fc, .slice ra T.rules.length rc, .slice ba T.beats.length bc] 25)) := heap_alloc_new w _
 have Be := TR.go As h
 have Bi := Ints.go As hF
 have CI := hide (iu Be Bi hp)
 have HT := hide h
 have HF := hide hF
 have HP := hide hp
 have AA := hide hso
 have HB := hide As
 have Ak := hide Am
 have t0 := Am.get (i := 0) rfl
 have t1 := Am.get (i := 1) rfl
 have t2 := Am.get (i := 2) rfl
 have t3 := Am.get (i := 3) rfl
 clear h hF hp hso As Be Bi Am Bb Bp Bv Bs
 have BU : Tryz.prog.follows .mixedOrders = true := by kernel_rfl
 go_enter Tryz.func156, Tryz.ntmps156
 go_upto_region 2 with (go_at_call 172; refine CI.out.mono ?_; rintro _ w1 ⟨q, rl, tm, rv, fm, vs, H, rfl, hn, hh, hb⟩; have HN := hide hn; have HH := hide hh; have Ae := hide hb; clear hn hh hb)
 clear CI t0 t1 t2 t3
 generalize w.alloc (.cells #[.int .i64 T.lits, .slice fa T.foes.length fc, .slice ra T.rules.length rc, .slice ba T.beats.length bc] 25) = W at *
 obtain ⟨tb, AF⟩ : ∃ tb, w.heap.size = tb := ⟨_, rfl⟩
 have BW := hide AF
 rw [AF] at Ak ⊢
 clear AF
 have AT : Fx w1.heap.size 176 (cW T fa ra ba fc rc bc rl tm rv fm n) (w1.alloc (.cells (cW T fa ra ba fc rc bc rl tm rv fm n).toArray 176)) := heap_alloc_new w1 _
 have AM := ae w1 (.cells (cW T fa ra ba fc rc bc rl tm rv fm n).toArray 176)
 have Au := (Below.refl (w1.alloc (.cells (cW T fa ra ba fc rc bc rl tm rv fm n).toArray 176)).heap.size (w1.alloc (.cells (cW T fa ra ba fc rc bc rl tm rv fm n).toArray 176))).drew
 obtain ⟨W0, AJ⟩ : ∃ W0, (w1.alloc (.cells (cW T fa ra ba fc rc bc rl tm rv fm n).toArray 176)).drew = W0 := ⟨_, rfl⟩
 have BN := hide AJ
 rw [AJ] at Au
 have Ap : Below w1.heap.size w1 W0 := AM.trans (Au.mono AM.size)
 have Az := hide (AT.keep (Au.block _ AT.lt))
 have Al := hide ((Ak.out.keep (Ae.out.block _ Ak.out.lt)).keep (Ap.block _ (Ak.out.keep (Ae.out.block _ Ak.out.lt)).lt))
 have Ai := hide (HN.out.go Ap)
 have Av : Hid (Below w.heap.size w W0) := hide (HB.out.trans ((Ae.out.trans (Ap.mono Ae.out.size)).mono HB.out.size))
 have BT : W.heap.size ≤ W0.heap.size := Nat.le_trans Ae.out.size Ap.size
 have AK : tb < W0.heap.size := Al.out.lt
 obtain ⟨ib, Bq⟩ : ∃ ib, w1.heap.size = ib := ⟨_, rfl⟩
 rw [Bq] at Az ⊢
 clear AM Au AJ Bq AT Ap HN Ae HB Ak
 have AU : Hid (∀ X, Below W0.heap.size W0 X → Below w.heap.size w X) := hide fun X hX => Av.out.trans (hX.mono Av.out.size)
 have AB : Hid (∀ X, Below W0.heap.size W0 X → TA X.heap.size X T fa fc ra rc ba bc) := hide fun X hX => TR.go (AU.out X hX) HT.out
 have AR : Hid (∀ X, Below W0.heap.size W0 X → LL (fun k => k < W0.heap.size) (ag T kA) n rl X ∧ LL (fun k => k < W0.heap.size) (ag T kT) n tm X ∧ LL (fun k => k < W0.heap.size) (ao T) n rv X ∧ Fx fm 4 (cq n (bI T F)) X) := hide fun X hX =>
  ⟨(Ai.out.h3.ll (c := 0) (S := fun k => k < W0.heap.size) (by decide) (fun z hz => (HH.out z hz).1) fun k _ h => h).keep fun k hk => hX.block k hk, (Ai.out.h3.ll (c := 1) (S := fun k => k < W0.heap.size) (by decide) (fun z hz => (HH.out z hz).2.1) fun k _ h => h).keep fun k hk => hX.block k hk, (Ai.out.h3.ll (c := 2) (S := fun k => k < W0.heap.size) (by decide) (fun z hz => (HH.out z hz).2.2) fun k _ h => h).keep fun k hk => hX.block k hk, Ai.out.ff.keep (hX.block _ Ai.out.ff.lt)⟩
 have AD : Hid (∀ X, Below W0.heap.size W0 X → Ix X T F n rl tm rv fm fa ra ba fc rc bc) := hide fun X hX => by
  obtain ⟨a, b, c, d⟩ := AR.out X hX
  exact ⟨AB.out X hX, a.sub fun k hk => Nat.lt_of_lt_of_le hk hX.size, b.sub fun k hk => Nat.lt_of_lt_of_le hk hX.size, c.sub fun k hk => Nat.lt_of_lt_of_le hk hX.size, d⟩
 have At : Hid (∀ X, Below W0.heap.size W0 X → X.cell? ⟨ib, 0, none⟩ = some (.int .i64 T.lits) ∧ X.cell? ⟨ib, 1, none⟩ = some (.slice fa T.foes.length fc) ∧ X.cell? ⟨ib, 2, none⟩ = some (.slice ra T.rules.length rc) ∧ X.cell? ⟨ib, 3, none⟩ = some (.slice ba T.beats.length bc) ∧ X.cell? ⟨ib, 4, none⟩ = some (sl rl n) ∧ X.cell? ⟨ib, 5, none⟩ = some (sl tm n) ∧ X.cell? ⟨ib, 6, none⟩ = some (sl rv n) ∧ X.cell? ⟨ib, 7, none⟩ = some (sl fm n)) := hide fun X hX => by
  have hf := Az.out.keep (hX.block _ Az.out.lt)
  exact ⟨hf.get (i := 0) rfl, hf.get (i := 1) rfl, hf.get (i := 2) rfl, hf.get (i := 3) rfl, hf.get (i := 4) rfl, hf.get (i := 5) rfl, hf.get (i := 6) rfl, hf.get (i := 7) rfl⟩
 have Ao : Hid (∀ X, Below W0.heap.size W0 X → X.cell? ⟨tb, 0, none⟩ = some (.int .i64 T.lits) ∧ X.cell? ⟨tb, 1, none⟩ = some (.slice fa T.foes.length fc) ∧ X.cell? ⟨tb, 2, none⟩ = some (.slice ra T.rules.length rc) ∧ X.cell? ⟨tb, 3, none⟩ = some (.slice ba T.beats.length bc)) := hide fun X hX => by
  have hf := Al.out.keep (hX.block _ Al.out.lt)
  exact ⟨hf.get (i := 0) rfl, hf.get (i := 1) rfl, hf.get (i := 2) rfl, hf.get (i := 3) rfl⟩
 have Ab : Hid (fQ [some 14, some 15, some 16, some 17, some 18, some 19, some 20, some 21, some 22, some 23, some 24, some 25, some 26, some 27, some 6] [(5, aa ib), (2, aa tb)] = true) := hide rfl
 have AC := hide AK
 clear AK
 have AL : Hid (∀ args w', (callFunc 173 args).run Tryz.prog w' = .ok (.enter 173 args) w') := hide (enters_go Tryz.func173 (by kernel_rfl) (by kernel_rfl))
 have Bo : Hid (∀ args w', (callFunc 177 args).run Tryz.prog w' = .ok (.enter 177 args) w') := hide (enters_go Tryz.func177 (by kernel_rfl) (by kernel_rfl))
 have AX : Hid (∀ args w', (callFunc 178 args).run Tryz.prog w' = .ok (.enter 178 args) w') := hide (enters_go Tryz.func178 (by kernel_rfl) (by kernel_rfl))
 refine bW fY (Jg [some 14, some 15, some 16, some 17, some 18, some 19, some 20, some 21, some 22, some 23, some 24, some 25, some 26, some 27, some 6] [(5, aa ib), (2, aa tb)] (oV T F fa ra ba fc rc bc rl tm rv fm tb n W0.heap.size) W0) (by kernel_rfl) (by kernel_rfl) ?_ (ci ⟨?_, ?_, ?_, ?_, ?_, ?_, ?_, ?_, ?_, ?_, ?_, ?_, ?_, ?_, ?_, trivial⟩) ?_ ?_
 ·have := BN.out
  show Jg _ _ _ W0 _ _ ((w1.alloc _).drew)
  rw [this]
  exact Jg.start.2 fun p hp => by simp at hp; rcases hp with rfl | rfl <;> rfl
 ·intro ρ X L hc hf hL hd Aa hJ
  have k5 : ρ (.tmp 5) = aa ib := hJ.base (5, aa ib) (by simp)
  obtain ⟨c0, c1, c2, c3, c4, c5, c6, c7⟩ := At.out X hJ.low
  refine ac (v := .agg (cW T fa ra ba fc rc bc rl tm rv fm n).toArray) (w' := X) ?_ (hJ.put Ab.out bE (i := 0) (d := 14) rfl (Below.refl _ _) (rfl))
  clear hd Aa hJ hL
  go_simp
 ·intro ρ X L hc hf hL hd Aa hJ
  have k2 : ρ (.tmp 2) = aa tb := hJ.base (2, aa tb) (by simp)
  obtain ⟨c0, c1, c2, c3⟩ := Ao.out X hJ.low
  refine ac (v := .agg #[.int .i64 T.lits, .slice fa T.foes.length fc, .slice ra T.rules.length rc, .slice ba T.beats.length bc]) (w' := X) ?_ (hJ.put Ab.out bE (i := 1) (d := 15) rfl (Below.refl _ _) (rfl))
  clear hd Aa hJ hL
  go_simp
 ·intro ρ X L hc hf hL hd Aa hJ
  obtain ⟨_, _, _, e1⟩ := hJ.get (i := 1) (d := 15) rfl (hd ⟨1, .data⟩ (by simp) rfl)
  have Cm : ρ (.tmp 15) = tv T fa fc ra rc ba bc := e1
  clear e1
  have hC := nS (AB.out X hJ.low) HP.out
  have he := AL.out #[tv T fa fc ra rc ba bc, .func (.func 174) #[] #[], .func (.func 174) #[] #[]] X
  refine dT (f := 173) (args := #[tv T fa fc ra rc ba bc, .func (.func 174) #[] #[], .func (.func 174) #[] #[]]) (w' := X) ?_ hC ?_
  ·clear hd Aa hJ hL hC
   go_simp
  rintro _ Y ⟨q, us, ms, rr, op, vs, H, rfl, hn, hu, hb⟩
  exact ⟨_, rfl, hJ.put Ab.out bE (i := 2) (d := 16) rfl hb (⟨us, ms, rr, op, rfl, Wt.of (b := false) hn hu⟩)⟩
 ·intro ρ X L hc hf hL hd Aa hJ
  have k2 : ρ (.tmp 2) = aa tb := hJ.base (2, aa tb) (by simp)
  obtain ⟨c0, c1, c2, c3⟩ := Ao.out X hJ.low
  refine ac (v := .agg #[.int .i64 T.lits, .slice fa T.foes.length fc, .slice ra T.rules.length rc, .slice ba T.beats.length bc]) (w' := X) ?_ (hJ.put Ab.out bE (i := 3) (d := 17) rfl (Below.refl _ _) (rfl))
  clear hd Aa hJ hL
  go_simp
 ·intro ρ X L hc hf hL hd Aa hJ
  obtain ⟨_, _, _, e1⟩ := hJ.get (i := 3) (d := 17) rfl (hd ⟨3, .data⟩ (by simp) rfl)
  have BY : ρ (.tmp 17) = tv T fa fc ra rc ba bc := e1
  clear e1
  have hC := qe (AB.out X hJ.low) HP.out
  have he := AL.out #[tv T fa fc ra rc ba bc, .func (.func 175) #[] #[], .func (.func 176) #[] #[]] X
  refine dT (f := 173) (args := #[tv T fa fc ra rc ba bc, .func (.func 175) #[] #[], .func (.func 176) #[] #[]]) (w' := X) ?_ hC ?_
  ·clear hd Aa hJ hL hC
   go_simp
  rintro _ Y ⟨q, us, ms, rr, op, vs, H, rfl, hn, hu, hb⟩
  exact ⟨_, rfl, hJ.put Ab.out bE (i := 4) (d := 18) rfl hb (⟨us, ms, rr, op, rfl, Wt.of (b := true) hn hu⟩)⟩
 ·intro ρ X L hc hf hL hd Aa hJ
  have k5 : ρ (.tmp 5) = aa ib := hJ.base (5, aa ib) (by simp)
  obtain ⟨c0, c1, c2, c3, c4, c5, c6, c7⟩ := At.out X hJ.low
  refine ac (v := .agg (cW T fa ra ba fc rc bc rl tm rv fm n).toArray) (w' := X) ?_ (hJ.put Ab.out bE (i := 5) (d := 19) rfl (Below.refl _ _) (rfl))
  clear hd Aa hJ hL
  go_simp
 ·intro ρ X L hc hf hL hd Aa hJ
  obtain ⟨_, _, _, e1⟩ := hJ.get (i := 5) (d := 19) rfl (hd ⟨5, .data⟩ (by simp) rfl)
  have BZ : ρ (.tmp 19) = .agg (cW T fa ra ba fc rc bc rl tm rv fm n).toArray := e1
  clear e1
  have hC := oI (AD.out X hJ.low) HP.out
  have he := Bo.out #[.agg (cW T fa ra ba fc rc bc rl tm rv fm n).toArray] X
  refine dT (f := 177) (args := #[.agg (cW T fa ra ba fc rc bc rl tm rv fm n).toArray]) (w' := X) ?_ hC ?_
  ·clear hd Aa hJ hL hC
   go_simp
  rintro _ Y ⟨cl, cr, rfl, hz, hb⟩
  exact ⟨_, rfl, hJ.put Ab.out bE (i := 6) (d := 20) rfl hb (⟨cl, cr, rfl, hz, fun s hs => (hz.cs s hs).lt⟩)⟩
 ·intro ρ X L hc hf hL hd Aa hJ
  have k5 : ρ (.tmp 5) = aa ib := hJ.base (5, aa ib) (by simp)
  obtain ⟨c0, c1, c2, c3, c4, c5, c6, c7⟩ := At.out X hJ.low
  refine ac (v := .agg (cW T fa ra ba fc rc bc rl tm rv fm n).toArray) (w' := X) ?_ (hJ.put Ab.out bE (i := 7) (d := 21) rfl (Below.refl _ _) (rfl))
  clear hd Aa hJ hL
  go_simp
 ·intro ρ X L hc hf hL hd Aa hJ
  obtain ⟨_, _, _, e1⟩ := hJ.get (i := 7) (d := 21) rfl (hd ⟨7, .data⟩ (by simp) rfl)
  have Cq : ρ (.tmp 21) = .agg (cW T fa ra ba fc rc bc rl tm rv fm n).toArray := e1
  clear e1
  have hC := mN (AD.out X hJ.low) HP.out
  have he := AX.out #[.agg (cW T fa ra ba fc rc bc rl tm rv fm n).toArray] X
  refine dT (f := 178) (args := #[.agg (cW T fa ra ba fc rc bc rl tm rv fm n).toArray]) (w' := X) ?_ hC ?_
  ·clear hd Aa hJ hL hC
   go_simp
  rintro _ Y ⟨g, rfl, hg, hl, hb⟩
  exact ⟨_, rfl, hJ.put Ab.out bE (i := 8) (d := 22) rfl hb (⟨g, rfl, hg, hl, hg.lt⟩)⟩
 ·intro ρ X L hc hf hL hd Aa hJ
  have k2 : ρ (.tmp 2) = aa tb := hJ.base (2, aa tb) (by simp)
  obtain ⟨c0, c1, c2, c3⟩ := Ao.out X hJ.low
  refine ac (v := aa tb) (w' := X) ?_ (hJ.put Ab.out bE (i := 9) (d := 23) rfl (Below.refl _ _) (rfl))
  clear hd Aa hJ hL
  go_simp
 ·intro ρ X L hc hf hL hd Aa hJ
  obtain ⟨_, _, _, e1⟩ := hJ.get (i := 9) (d := 23) rfl (hd ⟨9, .data⟩ (by simp) rfl)
  have Ch : ρ (.tmp 23) = aa tb := e1
  clear e1
  obtain ⟨c0, c1, c2, c3⟩ := Ao.out X hJ.low
  refine ac (v := .int .i64 T.lits) (w' := X) ?_ (hJ.put Ab.out bE (i := 10) (d := 24) rfl (Below.refl _ _) (rfl))
  clear hd Aa hJ hL
  go_simp
 ·intro ρ X L hc hf hL hd Aa hJ
  obtain ⟨_, _, _, e1⟩ := hJ.get (i := 10) (d := 24) rfl (hd ⟨10, .data⟩ (by simp) rfl)
  have Co : ρ (.tmp 24) = .int .i64 T.lits := e1
  clear e1
  have Cg := AZ X
  refine ac (v := sl X.heap.size n) (w' := X.alloc (.cells (Array.replicate n (.int .u8 0)) 67)) ?_ (hJ.put Ab.out bE (i := 11) (d := 25) rfl (ae X _) (⟨X.heap.size, rfl, by unfold Fx; rw [heap_alloc_new, uV], Nat.le_refl _, by simp⟩))
  clear hd Aa hJ hL
  go_simp
 ·intro ρ X L hc hf hL hd Aa hJ
  obtain ⟨lo, hi, Ag, Af⟩ := hJ.at_
  have l0 : L 0 = true := hd ⟨0, .data⟩ (by simp) rfl
  have l2 : L 2 = true := hd ⟨2, .data⟩ (by simp) rfl
  have l4 : L 4 = true := hd ⟨4, .data⟩ (by simp) rfl
  have l6 : L 6 = true := hd ⟨6, .data⟩ (by simp) rfl
  have l8 : L 8 = true := hd ⟨8, .data⟩ (by simp) rfl
  have AG : L 11 = true := hd ⟨11, .data⟩ (by simp) rfl
  obtain ⟨-, -, -, e0⟩ := Ag 0 14 rfl l0
  obtain ⟨p2, -, m2, u0, s0, r0, o0, e2, w2⟩ := Ag 2 16 rfl l2
  obtain ⟨p4, -, m4, u1, s1, r1, o1, e4, w4⟩ := Ag 4 18 rfl l4
  obtain ⟨p6, -, -, cl, cr, e6, z6, h6⟩ := Ag 6 20 rfl l6
  obtain ⟨p8, -, -, ob, e8, f8, a8, b8⟩ := Ag 8 22 rfl l8
  obtain ⟨BP, -, -, mq, Bh, Ba, BO, BS⟩ := Ag 11 25 rfl AG
  have Aq := Lp.of (K := tb) (fa := fa) (ra := ra) (ba := ba) (fc := fc) (rc := rc) (bc := bc) (rl := rl) (tm := tm) (rv := rv) (fm := fm) AC.out w2 w4 z6 h6 f8 ⟨a8, b8⟩ Ba ⟨BO, BS⟩ p2 p4 p6 p8 BP m2 m4 (Af 2 4 16 18 rfl rfl (by decide) l2 l4) (Af 2 6 16 20 rfl rfl (by decide) l2 l6) (Af 2 8 16 22 rfl rfl (by decide) l2 l8) (Af 2 11 16 25 rfl rfl (by decide) l2 AG) (Af 4 6 18 20 rfl rfl (by decide) l4 l6) (Af 4 8 18 22 rfl rfl (by decide) l4 l8) (Af 4 11 18 25 rfl rfl (by decide) l4 AG)
  have BV : ρ (.tmp 14) = .agg #[.int .i64 T.lits, .slice fa T.foes.length fc, .slice ra T.rules.length rc, .slice ba T.beats.length bc, sl rl n, sl tm n, sl rv n, sl fm n] := e0
  have BX : ρ (.tmp 16) = .agg #[sl u0 n, sl s0 T.rules.length, sl r0 T.rules.length, sl o0 n] := e2
  have Cn : ρ (.tmp 18) = .agg #[sl u1 n, sl s1 T.rules.length, sl r1 T.rules.length, sl o1 n] := e4
  have Cd : ρ (.tmp 20) = sl cl T.rules.length := e6
  have Ck : ρ (.tmp 22) = sl ob n := e8
  have Cc : ρ (.tmp 25) = sl mq n := Bh
  refine ac (v := .agg #[.int .i64 T.lits, .slice fa T.foes.length fc, .slice ra T.rules.length rc, .slice ba T.beats.length bc, sl rl n, sl tm n, sl rv n, sl fm n, sl u0 n, sl s0 T.rules.length, sl r0 T.rules.length, sl o0 n, sl u1 n, sl s1 T.rules.length, sl r1 T.rules.length, sl o1 n, sl cl T.rules.length, sl ob n, sl mq n, .slice none 0 0, .int .i64 0, .int .i64 0]) (w' := X) ?_ (hJ.put Ab.out bE (i := 12) (d := 26) rfl (Below.refl _ _) ⟨u0, s0, r0, o0, u1, s1, r1, o1, cl, ob, mq, cr, rfl, Aq⟩)
  clear hd Aa hJ hL Ag Af Aq e0 e2 e4 e6 e8 Bh w2 w4 z6 h6 f8 Ba
  go_simp
 ·intro ρ X L hc hf hL hd Aa hJ
  obtain ⟨_, _, _, u0, s0, r0, o0, u1, s1, r1, o1, cl, ob, mq, cr, e1, Aq⟩ := hJ.get (i := 12) (d := 26) rfl (hd ⟨12, .data⟩ (by simp) rfl)
  have Cf : ρ (.tmp 26) = .agg #[.int .i64 T.lits, .slice fa T.foes.length fc, .slice ra T.rules.length rc, .slice ba T.beats.length bc, sl rl n, sl tm n, sl rv n, sl fm n, sl u0 n, sl s0 T.rules.length, sl r0 T.rules.length, sl o0 n, sl u1 n, sl s1 T.rules.length, sl r1 T.rules.length, sl o1 n, sl cl T.rules.length, sl ob n, sl mq n, .slice none 0 0, .int .i64 0, .int .i64 0] := e1
  refine ac (v := aa X.heap.size) (w' := X.alloc (.cells #[.int .i64 T.lits, .slice fa T.foes.length fc, .slice ra T.rules.length rc, .slice ba T.beats.length bc, sl rl n, sl tm n, sl rv n, sl fm n, sl u0 n, sl s0 T.rules.length, sl r0 T.rules.length, sl o0 n, sl u1 n, sl s1 T.rules.length, sl r1 T.rules.length, sl o1 n, sl cl T.rules.length, sl ob n, sl mq n, .slice none 0 0, .int .i64 0, .int .i64 0] 181)) ?_ (hJ.put Ab.out bE (i := 13) (d := 27) rfl (ae X _) ⟨X.heap.size, u0, s0, r0, o0, u1, s1, r1, o1, cl, ob, mq, cr, rfl, hJ.low.size, heap_alloc_new X _, Aq.key.keep (ae X _)⟩)
  clear hd Aa hJ hL e1 Aq
  go_simp
 ·intro ρ X L hc hf hL hd Aa hJ
  obtain ⟨_, _, _, K, u0, s0, r0, o0, u1, s1, r1, o1, cl, ob, mq, cr, e1, h1, h2, h3⟩ := hJ.get (i := 13) (d := 27) rfl (hd ⟨13, .data⟩ (by simp) rfl)
  have Ci : ρ (.tmp 27) = aa K := e1
  refine ac (v := aa K) (w' := X) ?_ (hJ.put Ab.out bE (i := 14) (d := 6) rfl (Below.refl _ _) ⟨K, u0, s0, r0, o0, u1, s1, r1, o1, cl, ob, mq, cr, rfl, h1, h2, h3⟩)
  clear hd Aa hJ hL e1 h2 h3
  go_simp
 ·intro c a' w' _ hE
  exact hE.elim
 rintro ⟨Ac, df⟩ w' AN Bw ⟨L, hL, hJ⟩ AI
 simp only at Bw AN
 subst Bw
 obtain ⟨_, _, _, K, u0, s0, r0, o0, u1, s1, r1, o1, cl, ob, mq, cr, e6, h1, h2, h3⟩ := hJ.get (i := 14) (d := 6) rfl (hL 14 (by decide))
 have e6 : Ac.getD 6 undef = aa K := e6
 have Aj := en 14 27 6 (by kernel_rfl) AN AI
 simp only [zs, Nat.reduceLT, Nat.reduceAdd, true_or, or_true, or_self, false_and, ne_eq, Nat.reduceEqDiff, not_false_eq_true, not_true_eq_false, and_self, and_false, if_true, if_false, e6] at Aj
 rw [Aj]
 obtain ⟨ia, it, iv, AE⟩ := AR.out w' hJ.low
 obtain ⟨A, hA⟩ : ∃ A : Ad, oY K fa ra ba fc rc bc rl tm rv fm u0 s0 r0 o0 u1 s1 r1 o1 cl ob mq cr = A := ⟨_, rfl⟩
 have An : A.K = K := by rw [← hA]
 have Bf : En w.heap.size (Sk A T.rules.length w') A T F n (fy T F n) (.slice none 0 0) w' := by
  have BK : Iy w.heap.size W0.heap.size A T F n w' := by
   rw [← hA]
   exact ⟨TR.keep (AU.out w' hJ.low).block HT.out, ia, it, iv, AE, Ai.out.ff.lt⟩
  rw [hA] at h2 h3
  exact En.of HP.out h3 BK Av.out.size (by rw [An]; exact h1) (by rw [An]; exact h2)
 have HE := hide Bf
 have Bj := hide (AU.out w' hJ.low)
 have Bx := hide (Al.out.keep (hJ.low.block _ Al.out.lt))
 have AH : Hid (∀ k, k < W0.heap.size → Sk A T.rules.length w' k) := hide fun k hk => ⟨Nat.lt_of_lt_of_le hk hJ.low.size, fun e => (by rw [An] at e; omega), fun hm => (by rw [hA] at h3; have := h3.lo k hm; omega)⟩
 rw [← An]
 clear Aj hJ hL AI AN e6 h2 h3 Bf ia it iv AE hA An At Ao Ab AD AR AB Ai AL Bo AX AZ Az Al
 generalize Ac.getD 14 undef = x14
 generalize Ac.getD 15 undef = x15
 generalize Ac.getD 16 undef = x16
 generalize Ac.getD 17 undef = x17
 generalize Ac.getD 18 undef = x18
 generalize Ac.getD 19 undef = x19
 generalize Ac.getD 20 undef = x20
 generalize Ac.getD 21 undef = x21
 generalize Ac.getD 22 undef = x22
 generalize Ac.getD 23 undef = x23
 generalize Ac.getD 24 undef = x24
 generalize Ac.getD 25 undef = x25
 generalize Ac.getD 26 undef = x26
 generalize Ac.getD 27 undef = x27
 have HSl : Hid (∀ k, k < W0.heap.size → Sk A T.rules.length w' k) := hide AH.out
 clear h1 AH
 have BH : Hid (Sk A T.rules.length w' tb) := hide (HSl.out tb AC.out)
 have BG : Hid (∀ k, k < w.heap.size → Sk A T.rules.length w' k) := hide fun k hk => HSl.out k (Nat.lt_of_lt_of_le hk Av.out.size)
 clear HSl
 generalize Sk A T.rules.length w' = S at *
 have HBf : Hid (∀ X, Fr (fun k => ¬ S k) w' X → Below w.heap.size w X) := hide fun X hX => Bj.out.trans (hX.below fun k hk => ⟨Nat.lt_of_lt_of_le hk Bj.out.size, fun hn => hn (BG.out k hk)⟩)
 have HXf : Hid (∀ X, Fr (fun k => ¬ S k) w' X → Fx tb 25 [.int .i64 T.lits, .slice fa T.foes.length fc, .slice ra T.rules.length rc, .slice ba T.beats.length bc] X) := hide fun X hX => Bx.out.keep (hX.block _ Bx.out.lt fun hn => hn BH.out)
 have Ca := HF.out.lim
 go_wp2_with fail
 go_loopw [30] (fun x wr => ∃ k : Nat, k ≤ F.length ∧ x = .int .i64 k ∧ Hid (En w.heap.size S A T F n (dU (F.take k) (fy T F n)) (.slice none 0 0) wr) ∧ Hid (Fr (fun k => ¬ S k) w' wr)) (fun x _ => F.length - (intOf x).toNat)
 case atStart => exact ⟨0, by omega, rfl, hide (by rw [List.take_zero, uk]; exact HE.out), hide (Fr.refl _ _)⟩
 obtain ⟨k, hk, rfl, HEr, HFr⟩ := hrel
 by_cases hlt : k < F.length
 ·obtain ⟨x, hx⟩ := am hlt
  obtain ⟨x0, x1⟩ := HP.out.fact x (List.mem_of_getElem? hx)
  obtain ⟨xm, rfl⟩ := Int.eq_ofNat_of_zero_le x0
  have Bz : xm < n := by omega
  obtain ⟨ge, oe, rfl, cx⟩ := ((Ints.go (HBf.out wr HFr.out) HF.out).at1).get hx
  have Cl := HEr.out.bx.get (i := 11) rfl
  have co := (HEr.out.op false).get (aY Bz)
  have zo := (HEr.out.op false).frz xm
  have h2 := HEr.out.setOp false Bz 0
  have BL : Hid (En w.heap.size S A T F n (dU (F.take (k + 1)) (fy T F n)) (.slice none 0 0) (wr.setCell ⟨A.op false, xm, none⟩ (.int .i64 0))) := hide (by rw [bD hx, sw]; exact h2.1)
  have BI := hide (HFr.out.trans h2.2)
  generalize (dU (F.take k) (fy T F n)).op false xm = xo at co
  clear hx x0 x1 h2 HEr HFr
  go_wp2_with fail
  go_roundw
  case rel => exact ⟨k + 1, by omega, by go_num, BL, BI⟩
  case measure => simp [intOf]; omega
 have AW : Hid (Eg w.heap.size S A T F n (dB T F) wr) := hide (by
  have h3 := HEr.out
  rw [List.take_of_length_le (by omega)] at h3
  exact ⟨_, h3.congr AA.out.ms (fun _ _ _ => rfl) AA.out.op (fun s hs p hp => ⟨AA.out.cd s hs p hp, rfl⟩) AA.out.ob rfl rfl rfl rfl⟩)
 have AP := hide HFr.out
 clear HEr HFr HE
 have c2 := (HXf.out wr AP.out).get (i := 2) rfl
 go_wp2_with fail
 clear c2
 go_loopw [45] (fun x wr => ∃ k : Nat, k ≤ T.rules.length ∧ x = .int .i64 k ∧ Hid (Eg w.heap.size S A T F n (bareE T k (dB T F)) wr) ∧ Hid (Fr (fun k => ¬ S k) w' wr)) (fun x _ => T.rules.length - (intOf x).toNat)
 case atStart => exact ⟨0, by omega, rfl, AW, AP⟩
 clear AW AP
 rename World => wr2
 obtain ⟨k, hk, rfl, HEr, HFr⟩ := hrel
 by_cases hlt : k < T.rules.length
 ·have Ay : Hid (bareE T (k + 1) (dB T F) = iT T (bareE T k (dB T F)) k) := hide jO
  generalize bareE T k (dB T F) = e1 at HEr Ay
  obtain ⟨r, hr⟩ := am hlt
  obtain ⟨h0, h1⟩ := HP.out.head r (List.mem_of_getElem? hr)
  obtain ⟨hm, Bc⟩ := Int.eq_ofNat_of_zero_le h0
  have Aj : bT T k = !decide (r.kind = 3) := by unfold bT; rw [Int.toNat_natCast, hr]; rfl
  have Bt : az T k = r.body := by unfold az; rw [Int.toNat_natCast, hr]; rfl
  obtain ⟨gr, go, bd, bp, rfl, BD, x0, x1, x2, -, Br, AV⟩ := dG (TR.keep (HBf.out wr2 HFr.out).block HT.out).rules hr
  rw [Bc] at x1
  have AO := ae wr2 (.cells #[.int .i64 r.kind, .int .i64 hm, .slice bd r.body.length bp] 114)
  have HQ : Hid (Fx wr2.heap.size 114 [.int .i64 r.kind, .int .i64 hm, .slice bd r.body.length bp] (wr2.alloc (.cells #[.int .i64 r.kind, .int .i64 hm, .slice bd r.body.length bp] 114))) := hide (heap_alloc_new wr2 _)
  have HEq := hide (HEr.out.go AO)
  have HFq := hide (HFr.out.trans (Fr.of_below AO))
  have BA := hide Aj
  have Bg := hide Bt
  have HL := hide hlt
  clear hr h0 h1 Bc AO AV HEr HFr BD Aj Bt
  go_upto_region 11 with fail
  clear x0 x1 x2
  generalize wr2.alloc (.cells #[.int .i64 r.kind, .int .i64 hm, .slice bd r.body.length bp] 114) = wq at *
  obtain ⟨qr, AY⟩ : ∃ qr, wr2.heap.size = qr := ⟨_, rfl⟩
  rw [AY] at HQ ⊢
  clear AY
  have q0 := HQ.out.get (i := 0) rfl
  have q1 := HQ.out.get (i := 1) rfl
  have q2 := HQ.out.get (i := 2) rfl
  have CT := hide (fh (w := wq) (k := r.kind) (h := (hm : Int)) (v := .slice bd r.body.length bp))
  have Ax : Hid (∀ X, Below wq.heap.size wq X → X.cell? ⟨qr, 2, none⟩ = some (.slice bd r.body.length bp)) := hide fun X hX => (HQ.out.keep (hX.block _ HQ.out.lt)).get (i := 2) rfl
  cases htk : decide (r.kind = 3) with
  | true =>
   have Ae : Hid (iT T e1 k = e1) := hide (by unfold iT; rw [BA.out, htk]; rfl)
   rw [htk] at CT
   clear htk
   go_wp2_with (go_at_call 176; refine CT.out.mono ?_; rintro _ w5 ⟨rfl, hb⟩; have Ah := hide hb; clear hb)
   go_roundw
   case rel => exact ⟨k + 1, by have := HL.out; omega, by go_num, hide (by rw [Ay.out, Ae.out]; exact HEq.out.go Ah.out), hide (HFq.out.trans (Fr.of_below Ah.out))⟩
   case measure => have := HL.out; simp [intOf]; omega
  | false =>
   have AQ : Hid (bT T k = true) := hide (by rw [BA.out, htk]; rfl)
   rw [htk] at CT
   clear htk
   by_cases he : r.body.length = 0
   ·have Ar : r.body.isEmpty = true := by rw [List.isEmpty_iff]; exact List.eq_nil_of_length_eq_zero he
    have Ae : Hid (iT T e1 k = defendE T e1 k) := hide (by unfold iT; rw [AQ.out, Bg.out, Ar]; rfl)
    have AS : ((r.body.length : Int) == 0) = true := by simpa using he
    clear Ar
    rw [he] at CT q2 Ax Br AS
    go_wp2_with (first | (go_at_call 176; refine CT.out.mono ?_; rintro _ w5 ⟨rfl, hb⟩; have Ah := hide hb; have k2 := Ax.out w5 hb; have CD := hide (nN (HEq.out.go hb) HL.out AQ.out); clear hb) | (go_at_call 179; refine CD.out.mono ?_; rintro _ w6 ⟨rfl, Bu, Bk⟩; have BF := hide Bu; have BE := hide Bk; clear Bu Bk))
    go_roundw
    case rel => exact ⟨k + 1, by have := HL.out; omega, by go_num, hide (by rw [Ay.out, Ae.out]; exact BF.out), hide ((HFq.out.trans (Fr.of_below Ah.out)).trans BE.out)⟩
    case measure => have := HL.out; simp [intOf]; omega
   have Ar : r.body.isEmpty = false := by cases hb : r.body with
    | nil => rw [hb] at he; simp at he
    | cons _ _ => rfl
   have Ae : Hid (iT T e1 k = e1) := hide (by unfold iT; rw [AQ.out, Bg.out, Ar]; rfl)
   have AS : ((r.body.length : Int) == 0) = false := by simpa using he
   have BR : (r.body.length == 0) = false := by simpa using he
   obtain ⟨bl, BC⟩ : ∃ bl, r.body.length = bl := ⟨_, rfl⟩
   rw [BC] at Ax he AS BR CT q2 Br
   clear Ar
   go_wp2_with (go_at_call 176; refine CT.out.mono ?_; rintro _ w5 ⟨rfl, hb⟩; have Ah := hide hb; have k2 := Ax.out w5 hb; clear hb)
   go_roundw
   case rel => exact ⟨k + 1, by have := HL.out; omega, by go_num, hide (by rw [Ay.out, Ae.out]; exact HEq.out.go Ah.out), hide (HFq.out.trans (Fr.of_below Ah.out))⟩
   case measure => have := HL.out; simp [intOf]; omega
 have Bd : k = T.rules.length := by omega
 have CB := hide (tD HEr.out)
 have Bl : Hid (oR T F n = { beginE T F n (bareE T k (dB T F)) with up := 0 }) := hide (by rw [Bd]; rfl)
 clear Bd
 generalize beginE T F n (bareE T k (dB T F)) = e3 at CB Bl
 clear HEr
 go_upto_region 15 with (go_at_call 180; refine CB.out.mono ?_; rintro _ w7 ⟨rfl, By, Bn⟩; have BB := hide By; have Bm := hide (HFr.out.trans Bn); clear By Bn)
 obtain ⟨Cj, Aw⟩ := BB.out
 have BM := Aw.bx.get (i := 21) rfl
 have Cb := Aw.bx.frz 21
 have h8 := Aw.setUp 0
 have BJ : Hid (Eg w.heap.size S A T F n (oR T F n) (w7.setCell ⟨A.K, 21, none⟩ (.int .i64 0))) := hide (by rw [Bl.out]; exact ⟨_, h8.1⟩)
 have BQ := hide (Bm.out.trans h8.2)
 generalize e3.up = u3 at BM
 clear Aw h8 BB Bm CB HFr
 go_wp2_with fail
 go_ret
 exact ⟨A, S, rfl, BJ.out, HBf.out _ BQ.out⟩
end Go.Proofs.YtmlhcncagdfjfaaGreat.Fa
