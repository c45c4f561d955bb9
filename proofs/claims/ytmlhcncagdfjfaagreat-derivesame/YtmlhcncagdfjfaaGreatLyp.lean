import Derived.Test.YtmlhcncagdfjfaaGreatNwS
import Derived.Test.YtmlhcncagdfjfaaGreatNwA
namespace Go.Proofs.YtmlhcncagdfjfaaGreat.Fa
open Go.RowKit Rg
structure Wt (b : Bool) (T : Th) (n lo hi us ms rr op : Nat) (W : World) : Prop where
 u : LL (fun k => lo ≤ k ∧ k < hi ∧ k ≠ ms ∧ k ≠ rr ∧ k ≠ op) (dI T (kW b) T.rules.length) n us W
 m : Fx ms 3 (bZ T.rules.length (d8 T (kW b) T.rules.length)) W
 r : Fx rr 4 (ct T.rules.length fun _ => false) W
 o : Fx op 3 (bZ n (cU T (kL b) (opK T (kL b) T.rules.length) T.rules.length)) W
 lo : lo ≤ ms ∧ lo ≤ rr ∧ lo ≤ op
 hi : ms < hi ∧ rr < hi ∧ op < hi
 ne : ms ≠ op
section
variable {b : Bool} {T : Th} {F : List Int} {n lo hi us ms rr op : Nat} {W W' : World}
theorem Wt.keep (h : Wt b T n lo hi us ms rr op W) (hh : hi ≤ W.heap.size) (hb : Below W.heap.size W W') : Wt b T n lo hi us ms rr op W' :=
 ⟨h.u.keep fun k hk => hb.block k (by omega), h.m.keep (hb.block _ h.m.lt), h.r.keep (hb.block _ h.r.lt), h.o.keep (hb.block _ h.o.lt), h.lo, h.hi, h.ne⟩
theorem Wt.of {q : Nat} {H : Nat → List (List Int)} {vs : Nat → List Value} (h : Nw lo q us ms rr op n T.rules.length (d8 T (kW b) T.rules.length) (cU T (kL b) (opK T (kL b) T.rules.length) T.rules.length) H vs W) (hu : ∀ z : Nat, z < n → (H 0).getD z [] = dI T (kW b) T.rules.length z) : Wt b T n lo W.heap.size us ms rr op W := by
 have Aa := h.h3.fx 0 (by decide)
 refine ⟨⟨⟨h.h3.lo 0 (by decide), Aa.lt, ao Aa h.fm (by decide), ao Aa h.fr (by decide), ao Aa h.fo (by decide)⟩, vs 0, Aa, h.h3.vl 0 (by decide), fun i hi => ?_⟩, h.fm, h.fr, h.fo, ⟨h.lo.2.1, h.lo.2.2.1, h.lo.2.2.2⟩, ⟨h.fm.lt, h.fr.lt, h.fo.lt⟩, h.ne⟩
 obtain ⟨l, a, k, h1, h2, -, h4⟩ := h.h3.at (c := 0) (by decide) hi
 have e : l = dI T (kW b) T.rules.length i := by
  have := hu i hi
  rw [List.getD_eq_getElem?_getD, h1] at this
  exact this
 subst e
 refine ⟨a, k, h2, iX h4, fun g o e2 _ => ?_⟩
 have Ab : Value.ownBlock (.slice a (dI T (kW b) T.rules.length i).length k) = some g := by rw [e2]; rfl
 have Ac := h4.lt g Ab
 have Ad := h.na i _ h2
 refine ⟨Ac.1, Ac.2, fun e => Ad.1 (e ▸ Ab), fun e => ay h4 h.fr (by decide) (e ▸ Ab), fun e => Ad.2 (e ▸ Ab)⟩
def Mu (A : Ad) (R : Nat) (k : Nat) : Prop := (∃ b, k = A.ms b ∨ k = A.rr b ∨ k = A.op b) ∨ (∃ s, s < R ∧ k = A.cr s) ∨ k = A.ob ∨ k = A.mq
structure Lp (N0 : Nat) (A : Ad) (T : Th) (F : List Int) (n : Nat) (W : World) : Prop where
 us : ∀ b, LL (fun k => N0 ≤ k ∧ k < W.heap.size ∧ k ≠ A.K ∧ ¬ Mu A T.rules.length k) (dI T (kW b) T.rules.length) n (A.us b) W
 lx : Fx A.cl 229 ((List.range T.rules.length).map fun s : Nat => sl (A.cr s) (al T (ag T s)).length) W
 ms : ∀ b, Fx (A.ms b) 3 (bZ T.rules.length (d8 T (kW b) T.rules.length)) W
 rr : ∀ b, Fx (A.rr b) 4 (ct T.rules.length fun _ => false) W
 op : ∀ b, Fx (A.op b) 3 (bZ n (cU T (kL b) (opK T (kL b) T.rules.length) T.rules.length)) W
 cr : ∀ s : Nat, s < T.rules.length → Fx (A.cr s) 231 (bY (al T (ag T s)) (fT T T.rules.length s) fun _ => false) W
 ob : Fx A.ob 3 (bZ n (obK T F n)) W
 mq : Fx A.mq 67 (fu n fun _ => 0) W
 lo : ∀ k, Mu A T.rules.length k → N0 ≤ k
 di : Di A T.rules.length
theorem Lp.keep {N0 : Nat} {A : Ad} (h : Lp N0 A T F n W) (hb : Below W.heap.size W W') : Lp N0 A T F n W' :=
 have k : ∀ {g t : Nat} {xs : List Value}, Fx g t xs W → Fx g t xs W' := fun hf => hf.keep (hb.block _ hf.lt)
 ⟨fun b => ((h.us b).keep fun k hk => hb.block k hk.2.1).sub fun _ hk => ⟨hk.1, Nat.lt_of_lt_of_le hk.2.1 hb.size, hk.2.2⟩, k h.lx, fun b => k (h.ms b), fun b => k (h.rr b), fun b => k (h.op b), fun s hs => k (h.cr s hs), k h.ob, k h.mq, h.lo, h.di⟩
theorem Lp.key {N0 : Nat} {A : Ad} (h : Lp N0 A T F n W) : Lp N0 { A with K := W.heap.size } T F n W :=
 ⟨fun b => (h.us b).sub fun _ hk => ⟨hk.1, hk.2.1, fun e => Nat.ne_of_lt hk.2.1 e, hk.2.2.2⟩, h.lx, h.ms, h.rr, h.op, h.cr, h.ob, h.mq, h.lo, ⟨h.di.mm, h.di.oo, h.di.rr, h.di.mo, h.di.mb, h.di.ob, h.di.cc⟩⟩
def xg {α : Type} (x y : α) (b : Bool) : α := if b then y else x
abbrev oP (K : Nat) (fa ra ba : Option Addr) (fc rc bc rl tm rv fm us0 ms0 rr0 op0 us1 ms1 rr1 op1 cl ob mq : Nat) (cr : Nat → Nat) : Ad := ⟨K, fa, ra, ba, fc, rc, bc, rl, tm, rv, fm, xg us0 us1, xg ms0 ms1, xg rr0 rr1, xg op0 op1, cl, ob, mq, cr⟩
theorem bH {k m l h l' h' : Nat} (a : l ≤ k ∧ k < h) (b : l' ≤ m ∧ m < h') (d : h ≤ l' ∨ h' ≤ l) : k ≠ m := by omega
theorem Lp.of {N0 K : Nat} {fa ra ba : Option Addr} {fc rc bc rl tm rv fm us0 ms0 rr0 op0 us1 ms1 rr1 op1 cl ob mq : Nat} {cr : Nat → Nat} {l0 h0 l1 h1 l2 h2 l3 h3 l4 h4 : Nat} (hK : K < N0) (w0 : Wt false T n l0 h0 us0 ms0 rr0 op0 W) (w1 : Wt true T n l1 h1 us1 ms1 rr1 op1 W) (cz : Cz l2 cl cr T T.rules.length (fT T T.rules.length) W) (hc : ∀ s, s < T.rules.length → cr s < h2) (fo : Fx ob 3 (bZ n (obK T F n)) W) (ho : l3 ≤ ob ∧ ob < h3) (fq : Fx mq 67 (fu n fun _ => 0) W) (hq : l4 ≤ mq ∧ mq < h4)
    (n0 : N0 ≤ l0) (n1 : N0 ≤ l1) (n2 : N0 ≤ l2) (n3 : N0 ≤ l3) (n4 : N0 ≤ l4) (m0 : h0 ≤ W.heap.size) (m1 : h1 ≤ W.heap.size)
    (d01 : h0 ≤ l1 ∨ h1 ≤ l0) (d02 : h0 ≤ l2 ∨ h2 ≤ l0) (d03 : h0 ≤ l3 ∨ h3 ≤ l0) (d04 : h0 ≤ l4 ∨ h4 ≤ l0) (d12 : h1 ≤ l2 ∨ h2 ≤ l1) (d13 : h1 ≤ l3 ∨ h3 ≤ l1) (d14 : h1 ≤ l4 ∨ h4 ≤ l1) :
    Lp N0 (oP K fa ra ba fc rc bc rl tm rv fm us0 ms0 rr0 op0 us1 ms1 rr1 op1 cl ob mq cr) T F n W := by
 have a0 := w0.lo
 have b0 := w0.hi
 have e0 := w0.ne
 have a1 := w1.lo
 have b1 := w1.hi
 have e1 := w1.ne
 have a2 := cz.lo.2
 have c2 : ∀ s, s < T.rules.length → l2 ≤ cr s ∧ cr s < h2 := fun s hs => ⟨a2 s hs, hc s hs⟩
 have M0 : ∀ k, l0 ≤ k ∧ k < h0 ∧ k ≠ ms0 ∧ k ≠ rr0 ∧ k ≠ op0 → ¬ Mu (oP K fa ra ba fc rc bc rl tm rv fm us0 ms0 rr0 op0 us1 ms1 rr1 op1 cl ob mq cr) T.rules.length k := by
  rintro k ⟨k1, k2, k3, k4, k5⟩ (⟨b, hb⟩ | ⟨s, hs, e⟩ | e | e)
  · cases b
    · rcases hb with e | e | e
      · exact k3 e
      · exact k4 e
      · exact k5 e
    · rcases hb with e | e | e
      · exact bH ⟨k1, k2⟩ ⟨a1.1, b1.1⟩ d01 e
      · exact bH ⟨k1, k2⟩ ⟨a1.2.1, b1.2.1⟩ d01 e
      · exact bH ⟨k1, k2⟩ ⟨a1.2.2, b1.2.2⟩ d01 e
  · exact bH ⟨k1, k2⟩ (c2 s hs) d02 e
  · exact bH ⟨k1, k2⟩ ho d03 e
  · exact bH ⟨k1, k2⟩ hq d04 e
 have M1 : ∀ k, l1 ≤ k ∧ k < h1 ∧ k ≠ ms1 ∧ k ≠ rr1 ∧ k ≠ op1 → ¬ Mu (oP K fa ra ba fc rc bc rl tm rv fm us0 ms0 rr0 op0 us1 ms1 rr1 op1 cl ob mq cr) T.rules.length k := by
  rintro k ⟨k1, k2, k3, k4, k5⟩ (⟨b, hb⟩ | ⟨s, hs, e⟩ | e | e)
  · cases b
    · rcases hb with e | e | e
      · exact bH ⟨k1, k2⟩ ⟨a0.1, b0.1⟩ d01.symm e
      · exact bH ⟨k1, k2⟩ ⟨a0.2.1, b0.2.1⟩ d01.symm e
      · exact bH ⟨k1, k2⟩ ⟨a0.2.2, b0.2.2⟩ d01.symm e
    · rcases hb with e | e | e
      · exact k3 e
      · exact k4 e
      · exact k5 e
  · exact bH ⟨k1, k2⟩ (c2 s hs) d12 e
  · exact bH ⟨k1, k2⟩ ho d13 e
  · exact bH ⟨k1, k2⟩ hq d14 e
 refine ⟨fun b => ?_, ?_, fun b => ?_, fun b => ?_, fun b => ?_, cz.cs, fo, fq, ?_, ?_⟩
 · cases b
   · exact w0.u.sub fun k hk => ⟨Nat.le_trans n0 hk.1, Nat.lt_of_lt_of_le hk.2.1 m0, fun e => (by have e : k = K := e; have := hk.1; omega), M0 k hk⟩
   · exact w1.u.sub fun k hk => ⟨Nat.le_trans n1 hk.1, Nat.lt_of_lt_of_le hk.2.1 m1, fun e => (by have e : k = K := e; have := hk.1; omega), M1 k hk⟩
 · have := cz.fx
   have e : ((List.range T.rules.length).map fun s : Nat => if s < T.rules.length then sl (cr s) (al T (ag T s)).length else .slice none 0 0) = (List.range T.rules.length).map fun s : Nat => sl (cr s) (al T (ag T s)).length := List.map_congr_left fun s hs => if_pos (List.mem_range.1 hs)
   rw [e] at this
   exact this
 · cases b
   · exact w0.m
   · exact w1.m
 · cases b
   · exact w0.r
   · exact w1.r
 · cases b
   · exact w0.o
   · exact w1.o
 · rintro k (⟨b, hb⟩ | ⟨s, hs, e⟩ | e | e)
   · cases b
     · rcases hb with e | e | e
       · exact e ▸ Nat.le_trans n0 a0.1
       · exact e ▸ Nat.le_trans n0 a0.2.1
       · exact e ▸ Nat.le_trans n0 a0.2.2
     · rcases hb with e | e | e
       · exact e ▸ Nat.le_trans n1 a1.1
       · exact e ▸ Nat.le_trans n1 a1.2.1
       · exact e ▸ Nat.le_trans n1 a1.2.2
   · exact e ▸ Nat.le_trans n2 (c2 s hs).1
   · exact e ▸ Nat.le_trans n3 ho.1
   · exact e ▸ Nat.le_trans n4 hq.1
 · refine ⟨fun b c e => ?_, fun b c e => ?_, fun b c e => ?_, fun b c e => ?_, fun b e => ?_, fun b e => ?_, cz.inj⟩
   · cases b <;> cases c
     · rfl
     · exact absurd e (bH ⟨a0.1, b0.1⟩ ⟨a1.1, b1.1⟩ d01)
     · exact absurd e.symm (bH ⟨a0.1, b0.1⟩ ⟨a1.1, b1.1⟩ d01)
     · rfl
   · cases b <;> cases c
     · rfl
     · exact absurd e (bH ⟨a0.2.2, b0.2.2⟩ ⟨a1.2.2, b1.2.2⟩ d01)
     · exact absurd e.symm (bH ⟨a0.2.2, b0.2.2⟩ ⟨a1.2.2, b1.2.2⟩ d01)
     · rfl
   · cases b <;> cases c
     · rfl
     · exact absurd e (bH ⟨a0.2.1, b0.2.1⟩ ⟨a1.2.1, b1.2.1⟩ d01)
     · exact absurd e.symm (bH ⟨a0.2.1, b0.2.1⟩ ⟨a1.2.1, b1.2.1⟩ d01)
     · rfl
   · cases b <;> cases c
     · exact e0 e
     · exact bH ⟨a0.1, b0.1⟩ ⟨a1.2.2, b1.2.2⟩ d01 e
     · exact bH ⟨a1.1, b1.1⟩ ⟨a0.2.2, b0.2.2⟩ d01.symm e
     · exact e1 e
   · cases b
     · exact bH ⟨a0.1, b0.1⟩ ho d03 e
     · exact bH ⟨a1.1, b1.1⟩ ho d13 e
   · cases b
     · exact bH ⟨a0.2.2, b0.2.2⟩ ho d03 e
     · exact bH ⟨a1.2.2, b1.2.2⟩ ho d13 e
end
def fL (T : Th) (F : List Int) (n : Nat) : Es where
 ms := fun b => d8 T (kW b) T.rules.length
 rf := fun _ _ => false
 op := fun b => cU T (kL b) (opK T (kL b) T.rules.length) T.rules.length
 cd := fT T T.rules.length
 cb := fun _ _ => false
 ob := obK T F n
 mq := fun _ => 0
 td := []
 tk := 0
 up := 0
def Sk (A : Ad) (R : Nat) (W : World) (k : Nat) : Prop := k < W.heap.size ∧ k ≠ A.K ∧ ¬ Mu A R k
section
variable {T : Th} {F : List Int} {n N N0 : Nat} {A : Ad} {W W' : World}
structure Iy (N N0 : Nat) (A : Ad) (T : Th) (F : List Int) (n : Nat) (W : World) : Prop where
 ta : TA N W T A.fa A.fc A.ra A.rc A.ba A.bc
 a : LL (fun k => k < N0) (ae T kA) n A.rl W
 t : LL (fun k => k < N0) (ae T kT) n A.tm W
 v : LL (fun k => k < N0) (al T) n A.rv W
 f : Fx A.fm 4 (ct n (aB T F)) W
 ff : A.fm < N0
theorem En.of (hp : Pf T F n) (hl : Lp N0 A T F n W) (hi : Iy N N0 A T F n W) (hN : N ≤ N0) (hK : N0 ≤ A.K) (hx : Fx A.K 181 (pW A T n T.rules.length (.slice none 0 0) 0 0) W) : En N (Sk A T.rules.length W) A T F n (fL T F n) (.slice none 0 0) W := by
 have Ac := hx.lt
 have Aa : ∀ k, k < N0 → Sk A T.rules.length W k := fun k hk => ⟨by omega, by omega, fun h => by have := hl.lo k h; omega⟩
 have Ab : Sk A T.rules.length W A.cl := by
  refine ⟨hl.lx.lt, ao hl.lx hx (by decide), ?_⟩
  rintro (⟨b, e | e | e⟩ | ⟨s, hs, e⟩ | e | e)
  · exact ao hl.lx (hl.ms b) (by decide) e
  · exact ao hl.lx (hl.rr b) (by decide) e
  · exact ao hl.lx (hl.op b) (by decide) e
  · exact ao hl.lx (hl.cr s hs) (by decide) e
  · exact ao hl.lx hl.ob (by decide) e
  · exact ao hl.lx hl.mq (by decide) e
 refine ⟨hp, ⟨hi.ta, fun g hg => Aa g (by omega), hi.a.sub Aa, hi.t.sub Aa, hi.v.sub Aa, Aa _ hi.ff, hi.f, fun b => (hl.us b).sub fun k hk => ⟨hk.2.1, hk.2.2.1, hk.2.2.2⟩, Ab, hl.lx⟩, hl.di, ⟨fun x hx => (by cases hx), List.Pairwise.nil, fun q => ?_, Nat.le_refl _⟩, hx, hl.ms, hl.rr, hl.op, hl.cr, hl.ob, hl.mq, ⟨rfl, .inl ⟨rfl, rfl⟩⟩, ?_⟩
 · show aR 0
   unfold aR
   omega
 · intro k hk
   refine ⟨hk.1, hk.2.1, fun b => ⟨fun e => hk.2.2 (.inl ⟨b, .inl e⟩), fun e => hk.2.2 (.inl ⟨b, .inr (.inl e)⟩), fun e => hk.2.2 (.inl ⟨b, .inr (.inr e)⟩)⟩, fun s hs e => hk.2.2 (.inr (.inl ⟨s, hs, e⟩)), fun e => hk.2.2 (.inr (.inr (.inl e))), fun e => hk.2.2 (.inr (.inr (.inr e))), fun e => by cases e⟩
theorem En.congr {S : Nat → Prop} {e e' : Es} {tv : Value} (h : En N S A T F n e tv W) (h1 : ∀ b (r : Nat), r < T.rules.length → e.ms b r = e'.ms b r) (h2 : ∀ b (r : Nat), r < T.rules.length → e.rf b r = e'.rf b r) (h3 : ∀ b (q : Nat), q < n → e.op b q = e'.op b q) (h4 : ∀ s : Nat, s < T.rules.length → ∀ p ∈ al T (ag T s), e.cd s p = e'.cd s p ∧ e.cb s p = e'.cb s p) (h5 : ∀ q : Nat, q < n → e.ob q = e'.ob q) (h6 : e.mq = e'.mq) (h7 : e.td = e'.td) (h8 : e.tk = e'.tk) (h9 : e.up = e'.up) : En N S A T F n e' tv W := by
 have rI : ∀ {m : Nat} {f g : Int → Int}, (∀ i : Nat, i < m → f i = g i) → bZ m f = bZ m g := fun h => List.map_congr_left fun i hi => by rw [h i (List.mem_range.1 hi)]
 have rB : ∀ {m : Nat} {f g : Int → Bool}, (∀ i : Nat, i < m → f i = g i) → ct m f = ct m g := fun h => List.map_congr_left fun i hi => by rw [h i (List.mem_range.1 hi)]
 have hh : ∀ q t, has e q t = has e' q t := fun q t => by unfold has; rw [h6]
 refine ⟨h.pf, h.ro, h.di, ⟨fun x hx => ?_, by rw [← h7]; exact h.tok.nd, fun q => by rw [← h6]; exact h.tok.by_ q, by rw [← h7, ← h8]; exact h.tok.tk⟩, by rw [← h8, ← h9]; exact h.bx, fun b => by rw [← rI (h1 b)]; exact h.ms b, fun b => by rw [← rB (h2 b)]; exact h.rf b, fun b => by rw [← rI (h3 b)]; exact h.op b, fun s hs => by rw [← kw (h4 s hs)]; exact h.cr s hs, by rw [← rI h5]; exact h.ob, by rw [← h6]; exact h.mq, by rw [← h7]; exact h.td, h.kp⟩
 rw [← h7] at hx
 have := h.tok.inn x hx
 rw [hh] at this
 exact this
end
def oE (T : Th) (F : List Int) (fa ra ba : Option Addr) (fc rc bc rl tm rv fm tb n N0 : Nat) (i : Nat) (v : Value) (W : World) (lo hi : Nat) : Prop := match i with
 | 0 | 5 | 7 => v = .agg (dl T fa ra ba fc rc bc rl tm rv fm n).toArray
 | 1 | 3 => v = tv T fa fc ra rc ba bc
 | 9 => v = ab tb
 | 10 => v = .int .i64 T.lits
 | 2 => ∃ us ms rr op, v = .agg (uv us ms rr op n T.rules.length).toArray ∧ Wt false T n lo hi us ms rr op W
 | 4 => ∃ us ms rr op, v = .agg (uv us ms rr op n T.rules.length).toArray ∧ Wt true T n lo hi us ms rr op W
 | 6 => ∃ cl cr, v = sl cl T.rules.length ∧ Cz lo cl cr T T.rules.length (fT T T.rules.length) W ∧ ∀ s, s < T.rules.length → cr s < hi
 | 8 => ∃ g, v = sl g n ∧ Fx g 3 (bZ n (obK T F n)) W ∧ lo ≤ g ∧ g < hi
 | 11 => ∃ g, v = sl g n ∧ Fx g 67 (fu n fun _ => 0) W ∧ lo ≤ g ∧ g < hi
 | 12 => ∃ us0 ms0 rr0 op0 us1 ms1 rr1 op1 cl ob mq cr, v = .agg (pW (oP tb fa ra ba fc rc bc rl tm rv fm us0 ms0 rr0 op0 us1 ms1 rr1 op1 cl ob mq cr) T n T.rules.length (.slice none 0 0) 0 0).toArray ∧ Lp N0 (oP tb fa ra ba fc rc bc rl tm rv fm us0 ms0 rr0 op0 us1 ms1 rr1 op1 cl ob mq cr) T F n W
 | 13 | 14 => ∃ K us0 ms0 rr0 op0 us1 ms1 rr1 op1 cl ob mq cr, v = ab K ∧ N0 ≤ K ∧ Fx K 181 (pW (oP K fa ra ba fc rc bc rl tm rv fm us0 ms0 rr0 op0 us1 ms1 rr1 op1 cl ob mq cr) T n T.rules.length (.slice none 0 0) 0 0) W ∧ Lp N0 (oP K fa ra ba fc rc bc rl tm rv fm us0 ms0 rr0 op0 us1 ms1 rr1 op1 cl ob mq cr) T F n W
 | _ => True
theorem bL {T : Th} {F : List Int} {fa ra ba : Option Addr} {fc rc bc rl tm rv fm tb n N0 : Nat} : ∀ i v W W' lo hi, oE T F fa ra ba fc rc bc rl tm rv fm tb n N0 i v W lo hi → hi ≤ W.heap.size → Below W.heap.size W W' → oE T F fa ra ba fc rc bc rl tm rv fm tb n N0 i v W' lo hi := by
 intro i v W W' lo hi h hh hb
 have k : ∀ {g t : Nat} {xs : List Value}, Fx g t xs W → Fx g t xs W' := fun hf => hf.keep (hb.block _ hf.lt)
 unfold oE at *
 split at h
 all_goals first
  | exact h
  | (obtain ⟨us, ms, rr, op, a, b⟩ := h; exact ⟨us, ms, rr, op, a, b.keep hh hb⟩)
  | (obtain ⟨cl, cr, a, b, c⟩ := h; exact ⟨cl, cr, a, b.go hb, c⟩)
  | (obtain ⟨g, a, b, c⟩ := h; exact ⟨g, a, k b, c⟩)
  | (obtain ⟨u0, m0, r0, o0, u1, m1, r1, o1, cl, ob, mq, cr, a, b⟩ := h; exact ⟨u0, m0, r0, o0, u1, m1, r1, o1, cl, ob, mq, cr, a, b.keep hb⟩)
  | (obtain ⟨K, u0, m0, r0, o0, u1, m1, r1, o1, cl, ob, mq, cr, a, b, c, d⟩ := h; exact ⟨K, u0, m0, r0, o0, u1, m1, r1, o1, cl, ob, mq, cr, a, b, k c, d.keep hb⟩)
  | trivial
set_option maxRecDepth 100000
set_option maxHeartbeats 12800000
theorem tV : (Tryz.prog.info? 67).map (fun i => (i.zero, i.size, i.bytes)) = some (some (.int .u8 0), 1, 1) := by kernel_rfl
theorem vq {n : Nat} : Array.replicate n (Value.int .u8 0) = (fu n fun _ => 0).toArray := by
 unfold fu
 rw [List.map_const', List.length_range, List.toArray_replicate]
def eI (l : List Int) (e : Es) : Es := { e with op := aJ e.op false (l.foldl (fun f x => ap f x 0) (e.op false)) }
theorem sM {α : Type} {f : Bool → α} {b : Bool} {x y : α} : aJ (aJ f b x) b y = aJ f b y := by
 funext c
 by_cases e : c = b
 · rw [e, aE, aE]
 · rw [aN e, aN e, aN e]
theorem tg {e : Es} : eI [] e = e := by
 unfold eI
 have : aJ e.op false (e.op false) = e.op := by
  funext c
  cases c
  · rw [aE]
  · rw [aN (by decide)]
 rw [List.foldl_nil, this]
theorem ss {l : List Int} {x : Int} {e : Es} : eI (l ++ [x]) e = { eI l e with op := aJ (eI l e).op false (ap ((eI l e).op false) x 0) } := by
 unfold eI
 simp only [aE, sM, List.foldl_append, List.foldl_cons, List.foldl_nil]
structure oh (T : Th) (F : List Int) (n : Nat) : Prop where
 ms : ∀ b (r : Nat), r < T.rules.length → (eI F (fL T F n)).ms b r = (aW T F).ms b r
 op : ∀ b (q : Nat), q < n → (eI F (fL T F n)).op b q = (aW T F).op b q
 cd : ∀ s : Nat, s < T.rules.length → ∀ p ∈ al T (ag T s), (eI F (fL T F n)).cd s p = (aW T F).cd s p
 ob : ∀ q : Nat, q < n → (eI F (fL T F n)).ob q = (aW T F).ob q
theorem yl {w : World} {T : Th} {F : List Int} {n : Nat} {fa ra ba ea : Option Addr} {fc rc bc ec : Nat} (h : TA w.heap.size w T fa fc ra rc ba bc) (hF : Ints w.heap.size w F (.slice ea F.length ec)) (hp : Pf T F n) (hso : oh T F n) :
    Calls Tryz.prog 156 #[tv T fa fc ra rc ba bc, .slice ea F.length ec] w fun o w' => ∃ A S, o = .returned (ab A.K) ∧ Eg w.heap.size S A T F n (mw T F n) w' ∧ Below w.heap.size w w' := by
 obtain ⟨iM, Bu, Bl, Bi, Bw⟩ := info_parts tV
 have BW := hp.n4
 have BY : T.rules.length ≤ 4096 := hp.ok.rl
 have AX : ∀ W, (Instr.makeSlice 64 (.int .i64 T.lits) (.int .i64 T.lits)).run Tryz.prog W = .ok (sl W.heap.size n) (W.alloc (.cells (Array.replicate n (.int .u8 0)) 67)) := fun W => by rw [hp.ln]; exact aK (P := Tryz.prog) Tryz.underlying64 Bu Bl Bi rfl n (by rw [Bw]; omega) (by unfold maxLen; omega) W
 have Az := ac w (.cells #[.int .i64 T.lits, .slice fa T.foes.length fc, .slice ra T.rules.length rc, .slice ba T.beats.length bc] 25)
 have Ak : Fx w.heap.size 25 [.int .i64 T.lits, .slice fa T.foes.length fc, .slice ra T.rules.length rc, .slice ba T.beats.length bc] (w.alloc (.cells #[.int .i64 T.lits, .slice fa T.foes.length fc, .slice ra T.rules.length rc, .slice ba T.beats.length bc] 25)) := heap_alloc_new w _
 have Bp := TR.go Az h
 have Bf := Ints.go Az hF
 have CI := hide (iT Bp Bf hp)
 have HT := hide h
 have HF := hide hF
 have HP := hide hp
 have Ay := hide hso
 have HB := hide Az
 have Al := hide Ak
 have t0 := Ak.get (i := 0) rfl
 have t1 := Ak.get (i := 1) rfl
 have t2 := Ak.get (i := 2) rfl
 have t3 := Ak.get (i := 3) rfl
 clear h hF hp hso Az Bp Bf Ak Bu Bl Bi Bw
 have BT : Tryz.prog.follows .mixedOrders = true := by kernel_rfl
 go_enter Tryz.func156, Tryz.ntmps156
 go_upto_region 2 with (go_at_call 172; refine CI.out.mono ?_; rintro _ w1 ⟨q, rl, tm, rv, fm, vs, H, rfl, hn, hh, hb⟩; have HN := hide hn; have HH := hide hh; have Ae := hide hb; clear hn hh hb)
 clear CI t0 t1 t2 t3
 generalize w.alloc (.cells #[.int .i64 T.lits, .slice fa T.foes.length fc, .slice ra T.rules.length rc, .slice ba T.beats.length bc] 25) = W at *
 obtain ⟨tb, AG⟩ : ∃ tb, w.heap.size = tb := ⟨_, rfl⟩
 have Cm := hide AG
 rw [AG] at Al ⊢
 clear AG
 have AE : Fx w1.heap.size 176 (dl T fa ra ba fc rc bc rl tm rv fm n) (w1.alloc (.cells (dl T fa ra ba fc rc bc rl tm rv fm n).toArray 176)) := heap_alloc_new w1 _
 have AI := ac w1 (.cells (dl T fa ra ba fc rc bc rl tm rv fm n).toArray 176)
 have AB := (Below.refl (w1.alloc (.cells (dl T fa ra ba fc rc bc rl tm rv fm n).toArray 176)).heap.size (w1.alloc (.cells (dl T fa ra ba fc rc bc rl tm rv fm n).toArray 176))).drew
 obtain ⟨W0, AL⟩ : ∃ W0, (w1.alloc (.cells (dl T fa ra ba fc rc bc rl tm rv fm n).toArray 176)).drew = W0 := ⟨_, rfl⟩
 have BI := hide AL
 rw [AL] at AB
 have Ap : Below w1.heap.size w1 W0 := AI.trans (AB.mono AI.size)
 have As := hide (AE.keep (AB.block _ AE.lt))
 have Aj := hide ((Al.out.keep (Ae.out.block _ Al.out.lt)).keep (Ap.block _ (Al.out.keep (Ae.out.block _ Al.out.lt)).lt))
 have Ah := hide (HN.out.go Ap)
 have Av : Hid (Below w.heap.size w W0) := hide (HB.out.trans ((Ae.out.trans (Ap.mono Ae.out.size)).mono HB.out.size))
 have BU : W.heap.size ≤ W0.heap.size := Nat.le_trans Ae.out.size Ap.size
 have AQ : tb < W0.heap.size := Aj.out.lt
 obtain ⟨ib, Bc⟩ : ∃ ib, w1.heap.size = ib := ⟨_, rfl⟩
 rw [Bc] at As ⊢
 clear AI AB AL Bc AE Ap HN Ae HB Al
 have AH : Hid (∀ X, Below W0.heap.size W0 X → Below w.heap.size w X) := hide fun X hX => Av.out.trans (hX.mono Av.out.size)
 have AA : Hid (∀ X, Below W0.heap.size W0 X → TA X.heap.size X T fa fc ra rc ba bc) := hide fun X hX => TR.go (AH.out X hX) HT.out
 have AS : Hid (∀ X, Below W0.heap.size W0 X → LL (fun k => k < W0.heap.size) (ae T kA) n rl X ∧ LL (fun k => k < W0.heap.size) (ae T kT) n tm X ∧ LL (fun k => k < W0.heap.size) (al T) n rv X ∧ Fx fm 4 (ct n (aB T F)) X) := hide fun X hX =>
  ⟨(Ah.out.h3.ll (c := 0) (S := fun k => k < W0.heap.size) (by decide) (fun z hz => (HH.out z hz).1) fun k _ h => h).keep fun k hk => hX.block k hk, (Ah.out.h3.ll (c := 1) (S := fun k => k < W0.heap.size) (by decide) (fun z hz => (HH.out z hz).2.1) fun k _ h => h).keep fun k hk => hX.block k hk, (Ah.out.h3.ll (c := 2) (S := fun k => k < W0.heap.size) (by decide) (fun z hz => (HH.out z hz).2.2) fun k _ h => h).keep fun k hk => hX.block k hk, Ah.out.ff.keep (hX.block _ Ah.out.ff.lt)⟩
 have AU : Hid (∀ X, Below W0.heap.size W0 X → Ix X T F n rl tm rv fm fa ra ba fc rc bc) := hide fun X hX => by
  obtain ⟨a, b, c, d⟩ := AS.out X hX
  exact ⟨AA.out X hX, a.sub fun k hk => Nat.lt_of_lt_of_le hk hX.size, b.sub fun k hk => Nat.lt_of_lt_of_le hk hX.size, c.sub fun k hk => Nat.lt_of_lt_of_le hk hX.size, d⟩
 have Aw : Hid (∀ X, Below W0.heap.size W0 X → X.cell? ⟨ib, 0, none⟩ = some (.int .i64 T.lits) ∧ X.cell? ⟨ib, 1, none⟩ = some (.slice fa T.foes.length fc) ∧ X.cell? ⟨ib, 2, none⟩ = some (.slice ra T.rules.length rc) ∧ X.cell? ⟨ib, 3, none⟩ = some (.slice ba T.beats.length bc) ∧ X.cell? ⟨ib, 4, none⟩ = some (sl rl n) ∧ X.cell? ⟨ib, 5, none⟩ = some (sl tm n) ∧ X.cell? ⟨ib, 6, none⟩ = some (sl rv n) ∧ X.cell? ⟨ib, 7, none⟩ = some (sl fm n)) := hide fun X hX => by
  have hf := As.out.keep (hX.block _ As.out.lt)
  exact ⟨hf.get (i := 0) rfl, hf.get (i := 1) rfl, hf.get (i := 2) rfl, hf.get (i := 3) rfl, hf.get (i := 4) rfl, hf.get (i := 5) rfl, hf.get (i := 6) rfl, hf.get (i := 7) rfl⟩
 have Ar : Hid (∀ X, Below W0.heap.size W0 X → X.cell? ⟨tb, 0, none⟩ = some (.int .i64 T.lits) ∧ X.cell? ⟨tb, 1, none⟩ = some (.slice fa T.foes.length fc) ∧ X.cell? ⟨tb, 2, none⟩ = some (.slice ra T.rules.length rc) ∧ X.cell? ⟨tb, 3, none⟩ = some (.slice ba T.beats.length bc)) := hide fun X hX => by
  have hf := Aj.out.keep (hX.block _ Aj.out.lt)
  exact ⟨hf.get (i := 0) rfl, hf.get (i := 1) rfl, hf.get (i := 2) rfl, hf.get (i := 3) rfl⟩
 have Ab : Hid (fK [some 14, some 15, some 16, some 17, some 18, some 19, some 20, some 21, some 22, some 23, some 24, some 25, some 26, some 27, some 6] [(5, ab ib), (2, ab tb)] = true) := hide rfl
 have AJ := hide AQ
 clear AQ
 have AP : Hid (∀ args w', (callFunc 173 args).run Tryz.prog w' = .ok (.enter 173 args) w') := hide (enters_go Tryz.func173 (by kernel_rfl) (by kernel_rfl))
 have By : Hid (∀ args w', (callFunc 177 args).run Tryz.prog w' = .ok (.enter 177 args) w') := hide (enters_go Tryz.func177 (by kernel_rfl) (by kernel_rfl))
 have Bz : Hid (∀ args w', (callFunc 178 args).run Tryz.prog w' = .ok (.enter 178 args) w') := hide (enters_go Tryz.func178 (by kernel_rfl) (by kernel_rfl))
 refine bM fI (Jg [some 14, some 15, some 16, some 17, some 18, some 19, some 20, some 21, some 22, some 23, some 24, some 25, some 26, some 27, some 6] [(5, ab ib), (2, ab tb)] (oE T F fa ra ba fc rc bc rl tm rv fm tb n W0.heap.size) W0) (by kernel_rfl) (by kernel_rfl) ?_ (bT ⟨?_, ?_, ?_, ?_, ?_, ?_, ?_, ?_, ?_, ?_, ?_, ?_, ?_, ?_, ?_, trivial⟩) ?_ ?_
 · have := BI.out
   show Jg _ _ _ W0 _ _ ((w1.alloc _).drew)
   rw [this]
   exact Jg.start.2 fun p hp => by simp at hp; rcases hp with rfl | rfl <;> rfl
 · intro ρ X L hc hf hL hd Aa hJ
   have k5 : ρ (.tmp 5) = ab ib := hJ.base (5, ab ib) (by simp)
   obtain ⟨c0, c1, c2, c3, c4, c5, c6, c7⟩ := Aw.out X hJ.low
   refine aa (v := .agg (dl T fa ra ba fc rc bc rl tm rv fm n).toArray) (w' := X) ?_ (hJ.put Ab.out bL (i := 0) (d := 14) rfl (Below.refl _ _) (rfl))
   clear hd Aa hJ hL
   go_simp
 · intro ρ X L hc hf hL hd Aa hJ
   have k2 : ρ (.tmp 2) = ab tb := hJ.base (2, ab tb) (by simp)
   obtain ⟨c0, c1, c2, c3⟩ := Ar.out X hJ.low
   refine aa (v := .agg #[.int .i64 T.lits, .slice fa T.foes.length fc, .slice ra T.rules.length rc, .slice ba T.beats.length bc]) (w' := X) ?_ (hJ.put Ab.out bL (i := 1) (d := 15) rfl (Below.refl _ _) (rfl))
   clear hd Aa hJ hL
   go_simp
 · intro ρ X L hc hf hL hd Aa hJ
   obtain ⟨_, _, _, e1⟩ := hJ.get (i := 1) (d := 15) rfl (hd ⟨1, .data⟩ (by simp) rfl)
   have Ci : ρ (.tmp 15) = tv T fa fc ra rc ba bc := e1
   clear e1
   have hC := mU (AA.out X hJ.low) HP.out
   have he := AP.out #[tv T fa fc ra rc ba bc, .func (.func 174) #[] #[], .func (.func 174) #[] #[]] X
   refine eB (f := 173) (args := #[tv T fa fc ra rc ba bc, .func (.func 174) #[] #[], .func (.func 174) #[] #[]]) (w' := X) ?_ hC ?_
   · clear hd Aa hJ hL hC
     go_simp
   · rintro _ Y ⟨q, us, ms, rr, op, vs, H, rfl, hn, hu, hb⟩
     exact ⟨_, rfl, hJ.put Ab.out bL (i := 2) (d := 16) rfl hb (⟨us, ms, rr, op, rfl, Wt.of (b := false) hn hu⟩)⟩
 · intro ρ X L hc hf hL hd Aa hJ
   have k2 : ρ (.tmp 2) = ab tb := hJ.base (2, ab tb) (by simp)
   obtain ⟨c0, c1, c2, c3⟩ := Ar.out X hJ.low
   refine aa (v := .agg #[.int .i64 T.lits, .slice fa T.foes.length fc, .slice ra T.rules.length rc, .slice ba T.beats.length bc]) (w' := X) ?_ (hJ.put Ab.out bL (i := 3) (d := 17) rfl (Below.refl _ _) (rfl))
   clear hd Aa hJ hL
   go_simp
 · intro ρ X L hc hf hL hd Aa hJ
   obtain ⟨_, _, _, e1⟩ := hJ.get (i := 3) (d := 17) rfl (hd ⟨3, .data⟩ (by simp) rfl)
   have Ck : ρ (.tmp 17) = tv T fa fc ra rc ba bc := e1
   clear e1
   have hC := pO (AA.out X hJ.low) HP.out
   have he := AP.out #[tv T fa fc ra rc ba bc, .func (.func 175) #[] #[], .func (.func 176) #[] #[]] X
   refine eB (f := 173) (args := #[tv T fa fc ra rc ba bc, .func (.func 175) #[] #[], .func (.func 176) #[] #[]]) (w' := X) ?_ hC ?_
   · clear hd Aa hJ hL hC
     go_simp
   · rintro _ Y ⟨q, us, ms, rr, op, vs, H, rfl, hn, hu, hb⟩
     exact ⟨_, rfl, hJ.put Ab.out bL (i := 4) (d := 18) rfl hb (⟨us, ms, rr, op, rfl, Wt.of (b := true) hn hu⟩)⟩
 · intro ρ X L hc hf hL hd Aa hJ
   have k5 : ρ (.tmp 5) = ab ib := hJ.base (5, ab ib) (by simp)
   obtain ⟨c0, c1, c2, c3, c4, c5, c6, c7⟩ := Aw.out X hJ.low
   refine aa (v := .agg (dl T fa ra ba fc rc bc rl tm rv fm n).toArray) (w' := X) ?_ (hJ.put Ab.out bL (i := 5) (d := 19) rfl (Below.refl _ _) (rfl))
   clear hd Aa hJ hL
   go_simp
 · intro ρ X L hc hf hL hd Aa hJ
   obtain ⟨_, _, _, e1⟩ := hJ.get (i := 5) (d := 19) rfl (hd ⟨5, .data⟩ (by simp) rfl)
   have Cq : ρ (.tmp 19) = .agg (dl T fa ra ba fc rc bc rl tm rv fm n).toArray := e1
   clear e1
   have hC := ow (AU.out X hJ.low) HP.out
   have he := By.out #[.agg (dl T fa ra ba fc rc bc rl tm rv fm n).toArray] X
   refine eB (f := 177) (args := #[.agg (dl T fa ra ba fc rc bc rl tm rv fm n).toArray]) (w' := X) ?_ hC ?_
   · clear hd Aa hJ hL hC
     go_simp
   · rintro _ Y ⟨cl, cr, rfl, hz, hb⟩
     exact ⟨_, rfl, hJ.put Ab.out bL (i := 6) (d := 20) rfl hb (⟨cl, cr, rfl, hz, fun s hs => (hz.cs s hs).lt⟩)⟩
 · intro ρ X L hc hf hL hd Aa hJ
   have k5 : ρ (.tmp 5) = ab ib := hJ.base (5, ab ib) (by simp)
   obtain ⟨c0, c1, c2, c3, c4, c5, c6, c7⟩ := Aw.out X hJ.low
   refine aa (v := .agg (dl T fa ra ba fc rc bc rl tm rv fm n).toArray) (w' := X) ?_ (hJ.put Ab.out bL (i := 7) (d := 21) rfl (Below.refl _ _) (rfl))
   clear hd Aa hJ hL
   go_simp
 · intro ρ X L hc hf hL hd Aa hJ
   obtain ⟨_, _, _, e1⟩ := hJ.get (i := 7) (d := 21) rfl (hd ⟨7, .data⟩ (by simp) rfl)
   have Cd : ρ (.tmp 21) = .agg (dl T fa ra ba fc rc bc rl tm rv fm n).toArray := e1
   clear e1
   have hC := mr (AU.out X hJ.low) HP.out
   have he := Bz.out #[.agg (dl T fa ra ba fc rc bc rl tm rv fm n).toArray] X
   refine eB (f := 178) (args := #[.agg (dl T fa ra ba fc rc bc rl tm rv fm n).toArray]) (w' := X) ?_ hC ?_
   · clear hd Aa hJ hL hC
     go_simp
   · rintro _ Y ⟨g, rfl, hg, hl, hb⟩
     exact ⟨_, rfl, hJ.put Ab.out bL (i := 8) (d := 22) rfl hb (⟨g, rfl, hg, hl, hg.lt⟩)⟩
 · intro ρ X L hc hf hL hd Aa hJ
   have k2 : ρ (.tmp 2) = ab tb := hJ.base (2, ab tb) (by simp)
   obtain ⟨c0, c1, c2, c3⟩ := Ar.out X hJ.low
   refine aa (v := ab tb) (w' := X) ?_ (hJ.put Ab.out bL (i := 9) (d := 23) rfl (Below.refl _ _) (rfl))
   clear hd Aa hJ hL
   go_simp
 · intro ρ X L hc hf hL hd Aa hJ
   obtain ⟨_, _, _, e1⟩ := hJ.get (i := 9) (d := 23) rfl (hd ⟨9, .data⟩ (by simp) rfl)
   have BZ : ρ (.tmp 23) = ab tb := e1
   clear e1
   obtain ⟨c0, c1, c2, c3⟩ := Ar.out X hJ.low
   refine aa (v := .int .i64 T.lits) (w' := X) ?_ (hJ.put Ab.out bL (i := 10) (d := 24) rfl (Below.refl _ _) (rfl))
   clear hd Aa hJ hL
   go_simp
 · intro ρ X L hc hf hL hd Aa hJ
   obtain ⟨_, _, _, e1⟩ := hJ.get (i := 10) (d := 24) rfl (hd ⟨10, .data⟩ (by simp) rfl)
   have BX : ρ (.tmp 24) = .int .i64 T.lits := e1
   clear e1
   have Co := AX X
   refine aa (v := sl X.heap.size n) (w' := X.alloc (.cells (Array.replicate n (.int .u8 0)) 67)) ?_ (hJ.put Ab.out bL (i := 11) (d := 25) rfl (ac X _) (⟨X.heap.size, rfl, by unfold Fx; rw [heap_alloc_new, vq], Nat.le_refl _, by simp⟩))
   clear hd Aa hJ hL
   go_simp
 · intro ρ X L hc hf hL hd Aa hJ
   obtain ⟨lo, hi, Ag, Af⟩ := hJ.at_
   have l0 : L 0 = true := hd ⟨0, .data⟩ (by simp) rfl
   have l2 : L 2 = true := hd ⟨2, .data⟩ (by simp) rfl
   have l4 : L 4 = true := hd ⟨4, .data⟩ (by simp) rfl
   have l6 : L 6 = true := hd ⟨6, .data⟩ (by simp) rfl
   have l8 : L 8 = true := hd ⟨8, .data⟩ (by simp) rfl
   have AC : L 11 = true := hd ⟨11, .data⟩ (by simp) rfl
   obtain ⟨-, -, -, e0⟩ := Ag 0 14 rfl l0
   obtain ⟨p2, -, m2, u0, s0, r0, o0, e2, w2⟩ := Ag 2 16 rfl l2
   obtain ⟨p4, -, m4, u1, s1, r1, o1, e4, w4⟩ := Ag 4 18 rfl l4
   obtain ⟨p6, -, -, cl, cr, e6, z6, h6⟩ := Ag 6 20 rfl l6
   obtain ⟨p8, -, -, ob, e8, f8, a8, b8⟩ := Ag 8 22 rfl l8
   obtain ⟨BN, -, -, mq, BB, Bq, BP, BS⟩ := Ag 11 25 rfl AC
   have Ao := Lp.of (K := tb) (fa := fa) (ra := ra) (ba := ba) (fc := fc) (rc := rc) (bc := bc) (rl := rl) (tm := tm) (rv := rv) (fm := fm) AJ.out w2 w4 z6 h6 f8 ⟨a8, b8⟩ Bq ⟨BP, BS⟩ p2 p4 p6 p8 BN m2 m4 (Af 2 4 16 18 rfl rfl (by decide) l2 l4) (Af 2 6 16 20 rfl rfl (by decide) l2 l6) (Af 2 8 16 22 rfl rfl (by decide) l2 l8) (Af 2 11 16 25 rfl rfl (by decide) l2 AC) (Af 4 6 18 20 rfl rfl (by decide) l4 l6) (Af 4 8 18 22 rfl rfl (by decide) l4 l8) (Af 4 11 18 25 rfl rfl (by decide) l4 AC)
   have Cb : ρ (.tmp 14) = .agg #[.int .i64 T.lits, .slice fa T.foes.length fc, .slice ra T.rules.length rc, .slice ba T.beats.length bc, sl rl n, sl tm n, sl rv n, sl fm n] := e0
   have Cp : ρ (.tmp 16) = .agg #[sl u0 n, sl s0 T.rules.length, sl r0 T.rules.length, sl o0 n] := e2
   have Cf : ρ (.tmp 18) = .agg #[sl u1 n, sl s1 T.rules.length, sl r1 T.rules.length, sl o1 n] := e4
   have Cg : ρ (.tmp 20) = sl cl T.rules.length := e6
   have Cl : ρ (.tmp 22) = sl ob n := e8
   have Ch : ρ (.tmp 25) = sl mq n := BB
   refine aa (v := .agg #[.int .i64 T.lits, .slice fa T.foes.length fc, .slice ra T.rules.length rc, .slice ba T.beats.length bc, sl rl n, sl tm n, sl rv n, sl fm n, sl u0 n, sl s0 T.rules.length, sl r0 T.rules.length, sl o0 n, sl u1 n, sl s1 T.rules.length, sl r1 T.rules.length, sl o1 n, sl cl T.rules.length, sl ob n, sl mq n, .slice none 0 0, .int .i64 0, .int .i64 0]) (w' := X) ?_ (hJ.put Ab.out bL (i := 12) (d := 26) rfl (Below.refl _ _) ⟨u0, s0, r0, o0, u1, s1, r1, o1, cl, ob, mq, cr, rfl, Ao⟩)
   clear hd Aa hJ hL Ag Af Ao e0 e2 e4 e6 e8 BB w2 w4 z6 h6 f8 Bq
   go_simp
 · intro ρ X L hc hf hL hd Aa hJ
   obtain ⟨_, _, _, u0, s0, r0, o0, u1, s1, r1, o1, cl, ob, mq, cr, e1, Ao⟩ := hJ.get (i := 12) (d := 26) rfl (hd ⟨12, .data⟩ (by simp) rfl)
   have Cc : ρ (.tmp 26) = .agg #[.int .i64 T.lits, .slice fa T.foes.length fc, .slice ra T.rules.length rc, .slice ba T.beats.length bc, sl rl n, sl tm n, sl rv n, sl fm n, sl u0 n, sl s0 T.rules.length, sl r0 T.rules.length, sl o0 n, sl u1 n, sl s1 T.rules.length, sl r1 T.rules.length, sl o1 n, sl cl T.rules.length, sl ob n, sl mq n, .slice none 0 0, .int .i64 0, .int .i64 0] := e1
   refine aa (v := ab X.heap.size) (w' := X.alloc (.cells #[.int .i64 T.lits, .slice fa T.foes.length fc, .slice ra T.rules.length rc, .slice ba T.beats.length bc, sl rl n, sl tm n, sl rv n, sl fm n, sl u0 n, sl s0 T.rules.length, sl r0 T.rules.length, sl o0 n, sl u1 n, sl s1 T.rules.length, sl r1 T.rules.length, sl o1 n, sl cl T.rules.length, sl ob n, sl mq n, .slice none 0 0, .int .i64 0, .int .i64 0] 181)) ?_ (hJ.put Ab.out bL (i := 13) (d := 27) rfl (ac X _) ⟨X.heap.size, u0, s0, r0, o0, u1, s1, r1, o1, cl, ob, mq, cr, rfl, hJ.low.size, heap_alloc_new X _, Ao.key.keep (ac X _)⟩)
   clear hd Aa hJ hL e1 Ao
   go_simp
 · intro ρ X L hc hf hL hd Aa hJ
   obtain ⟨_, _, _, K, u0, s0, r0, o0, u1, s1, r1, o1, cl, ob, mq, cr, e1, h1, h2, h3⟩ := hJ.get (i := 13) (d := 27) rfl (hd ⟨13, .data⟩ (by simp) rfl)
   have BV : ρ (.tmp 27) = ab K := e1
   refine aa (v := ab K) (w' := X) ?_ (hJ.put Ab.out bL (i := 14) (d := 6) rfl (Below.refl _ _) ⟨K, u0, s0, r0, o0, u1, s1, r1, o1, cl, ob, mq, cr, rfl, h1, h2, h3⟩)
   clear hd Aa hJ hL e1 h2 h3
   go_simp
 · intro c a' w' _ hE
   exact hE.elim
 · rintro ⟨Ac, df⟩ w' AF Bb ⟨L, hL, hJ⟩ AR
   simp only at Bb AF
   subst Bb
   obtain ⟨_, _, _, K, u0, s0, r0, o0, u1, s1, r1, o1, cl, ob, mq, cr, e6, h1, h2, h3⟩ := hJ.get (i := 14) (d := 6) rfl (hL 14 (by decide))
   have e6 : Ac.getD 6 undef = ab K := e6
   have Am := d7 14 27 6 (by kernel_rfl) AF AR
   simp only [zs, Nat.reduceLT, Nat.reduceAdd, true_or, or_true, or_self, false_and, ne_eq, Nat.reduceEqDiff, not_false_eq_true, not_true_eq_false, and_self, and_false, if_true, if_false, e6] at Am
   rw [Am]
   obtain ⟨ia, it, iv, AK⟩ := AS.out w' hJ.low
   obtain ⟨A, hA⟩ : ∃ A : Ad, oP K fa ra ba fc rc bc rl tm rv fm u0 s0 r0 o0 u1 s1 r1 o1 cl ob mq cr = A := ⟨_, rfl⟩
   have An : A.K = K := by rw [← hA]
   have Bo : En w.heap.size (Sk A T.rules.length w') A T F n (fL T F n) (.slice none 0 0) w' := by
    have BH : Iy w.heap.size W0.heap.size A T F n w' := by
     rw [← hA]
     exact ⟨TR.keep (AH.out w' hJ.low).block HT.out, ia, it, iv, AK, Ah.out.ff.lt⟩
    rw [hA] at h2 h3
    exact En.of HP.out h3 BH Av.out.size (by rw [An]; exact h1) (by rw [An]; exact h2)
   have HE := hide Bo
   have Bv := hide (AH.out w' hJ.low)
   have Bd := hide (Aj.out.keep (hJ.low.block _ Aj.out.lt))
   have AD : Hid (∀ k, k < W0.heap.size → Sk A T.rules.length w' k) := hide fun k hk => ⟨Nat.lt_of_lt_of_le hk hJ.low.size, fun e => (by rw [An] at e; omega), fun hm => (by rw [hA] at h3; have := h3.lo k hm; omega)⟩
   rw [← An]
   clear Am hJ hL AR AF e6 h2 h3 Bo ia it iv AK hA An Aw Ar Ab AU AS AA Ah AP By Bz AX As Aj
   generalize Ac.getD 14 undef = x14
   generalize Ac.getD 15 undef = x15
   generalize Ac.getD 16 undef = x16
   generalize Ac.getD 17 undef = x17
   generalize Ac.getD 18 undef = x18
   generalize Ac.getD 19 undef = x19
   generalize Ac.getD 20 undef = x20
   generalize Ac.getD 21 undef = x21
   generalize Ac.getD 22 undef = x22
   generalize Ac.getD 23 undef = x23
   generalize Ac.getD 24 undef = x24
   generalize Ac.getD 25 undef = x25
   generalize Ac.getD 26 undef = x26
   generalize Ac.getD 27 undef = x27
   have HSl : Hid (∀ k, k < W0.heap.size → Sk A T.rules.length w' k) := hide AD.out
   clear h1 AD
   have BM : Hid (Sk A T.rules.length w' tb) := hide (HSl.out tb AJ.out)
   have BK : Hid (∀ k, k < w.heap.size → Sk A T.rules.length w' k) := hide fun k hk => HSl.out k (Nat.lt_of_lt_of_le hk Av.out.size)
   clear HSl
   generalize Sk A T.rules.length w' = S at *
   have HBf : Hid (∀ X, Fr (fun k => ¬ S k) w' X → Below w.heap.size w X) := hide fun X hX => Bv.out.trans (hX.below fun k hk => ⟨Nat.lt_of_lt_of_le hk Bv.out.size, fun hn => hn (BK.out k hk)⟩)
   have HXf : Hid (∀ X, Fr (fun k => ¬ S k) w' X → Fx tb 25 [.int .i64 T.lits, .slice fa T.foes.length fc, .slice ra T.rules.length rc, .slice ba T.beats.length bc] X) := hide fun X hX => Bd.out.keep (hX.block _ Bd.out.lt fun hn => hn BM.out)
   have Ce := HF.out.lim
   go_wp2_with fail
   go_loopw [30] (fun x wr => ∃ k : Nat, k ≤ F.length ∧ x = .int .i64 k ∧ Hid (En w.heap.size S A T F n (eI (F.take k) (fL T F n)) (.slice none 0 0) wr) ∧ Hid (Fr (fun k => ¬ S k) w' wr)) (fun x _ => F.length - (intOf x).toNat)
   case atStart => exact ⟨0, by omega, rfl, hide (by rw [List.take_zero, tg]; exact HE.out), hide (Fr.refl _ _)⟩
   case round =>
    obtain ⟨k, hk, rfl, HEr, HFr⟩ := hrel
    by_cases hlt : k < F.length
    · obtain ⟨x, hx⟩ := am hlt
      obtain ⟨x0, x1⟩ := HP.out.fact x (List.mem_of_getElem? hx)
      obtain ⟨xm, rfl⟩ := Int.eq_ofNat_of_zero_le x0
      have Bn : xm < n := by omega
      obtain ⟨ge, oe, rfl, cx⟩ := ((Ints.go (HBf.out wr HFr.out) HF.out).at1).get hx
      have Cj := HEr.out.bx.get (i := 11) rfl
      have co := (HEr.out.op false).get (aY Bn)
      have zo := (HEr.out.op false).frz xm
      have h2 := HEr.out.setOp false Bn 0
      have BR : Hid (En w.heap.size S A T F n (eI (F.take (k + 1)) (fL T F n)) (.slice none 0 0) (wr.setCell ⟨A.op false, xm, none⟩ (.int .i64 0))) := hide (by rw [bt hx, ss]; exact h2.1)
      have BL := hide (HFr.out.trans h2.2)
      generalize (eI (F.take k) (fL T F n)).op false xm = xo at co
      clear hx x0 x1 h2 HEr HFr
      go_wp2_with fail
      go_roundw
      case rel => exact ⟨k + 1, by omega, by go_num, BR, BL⟩
      case measure => simp [intOf]; omega
    · have Ba : Hid (Eg w.heap.size S A T F n (aW T F) wr) := hide (by
       have h3 := HEr.out
       rw [List.take_of_length_le (by omega)] at h3
       exact ⟨_, h3.congr Ay.out.ms (fun _ _ _ => rfl) Ay.out.op (fun s hs p hp => ⟨Ay.out.cd s hs p hp, rfl⟩) Ay.out.ob rfl rfl rfl rfl⟩)
      have AT := hide HFr.out
      clear HEr HFr HE
      have c2 := (HXf.out wr AT.out).get (i := 2) rfl
      go_wp2_with fail
      clear c2
      go_loopw [45] (fun x wr => ∃ k : Nat, k ≤ T.rules.length ∧ x = .int .i64 k ∧ Hid (Eg w.heap.size S A T F n (bareE T k (aW T F)) wr) ∧ Hid (Fr (fun k => ¬ S k) w' wr)) (fun x _ => T.rules.length - (intOf x).toNat)
      case atStart => exact ⟨0, by omega, rfl, Ba, AT⟩
      case round =>
       clear Ba AT
       rename World => wr2
       obtain ⟨k, hk, rfl, HEr, HFr⟩ := hrel
       by_cases hlt : k < T.rules.length
       · have Ax : Hid (bareE T (k + 1) (aW T F) = gy T (bareE T k (aW T F)) k) := hide kD
         generalize bareE T k (aW T F) = e1 at HEr Ax
         obtain ⟨r, hr⟩ := am hlt
         obtain ⟨h0, h1⟩ := HP.out.head r (List.mem_of_getElem? hr)
         obtain ⟨hm, AY⟩ := Int.eq_ofNat_of_zero_le h0
         have Am : aQ T k = !decide (r.kind = 3) := by unfold aQ; rw [Int.toNat_natCast, hr]; rfl
         have Be : aq T k = r.body := by unfold aq; rw [Int.toNat_natCast, hr]; rfl
         obtain ⟨gr, go, bd, bp, rfl, BD, x0, x1, x2, -, Br, AV⟩ := dY (TR.keep (HBf.out wr2 HFr.out).block HT.out).rules hr
         rw [AY] at x1
         have AN := ac wr2 (.cells #[.int .i64 r.kind, .int .i64 hm, .slice bd r.body.length bp] 114)
         have HQ : Hid (Fx wr2.heap.size 114 [.int .i64 r.kind, .int .i64 hm, .slice bd r.body.length bp] (wr2.alloc (.cells #[.int .i64 r.kind, .int .i64 hm, .slice bd r.body.length bp] 114))) := hide (heap_alloc_new wr2 _)
         have HEq := hide (HEr.out.go AN)
         have HFq := hide (HFr.out.trans (Fr.of_below AN))
         have Bx := hide Am
         have Bt := hide Be
         have HL := hide hlt
         clear hr h0 h1 AY AN AV HEr HFr BD Am Be
         go_upto_region 11 with fail
         clear x0 x1 x2
         generalize wr2.alloc (.cells #[.int .i64 r.kind, .int .i64 hm, .slice bd r.body.length bp] 114) = wq at *
         obtain ⟨qr, Bg⟩ : ∃ qr, wr2.heap.size = qr := ⟨_, rfl⟩
         rw [Bg] at HQ ⊢
         clear Bg
         have q0 := HQ.out.get (i := 0) rfl
         have q1 := HQ.out.get (i := 1) rfl
         have q2 := HQ.out.get (i := 2) rfl
         have CT := hide (eF (w := wq) (k := r.kind) (h := (hm : Int)) (v := .slice bd r.body.length bp))
         have Au : Hid (∀ X, Below wq.heap.size wq X → X.cell? ⟨qr, 2, none⟩ = some (.slice bd r.body.length bp)) := hide fun X hX => (HQ.out.keep (hX.block _ HQ.out.lt)).get (i := 2) rfl
         cases htk : decide (r.kind = 3) with
         | true =>
          have Ae : Hid (gy T e1 k = e1) := hide (by unfold gy; rw [Bx.out, htk]; rfl)
          rw [htk] at CT
          clear htk
          go_wp2_with (go_at_call 176; refine CT.out.mono ?_; rintro _ w5 ⟨rfl, hb⟩; have Ai := hide hb; clear hb)
          go_roundw
          case rel => exact ⟨k + 1, by have := HL.out; omega, by go_num, hide (by rw [Ax.out, Ae.out]; exact HEq.out.go Ai.out), hide (HFq.out.trans (Fr.of_below Ai.out))⟩
          case measure => have := HL.out; simp [intOf]; omega
         | false =>
          have AM : Hid (aQ T k = true) := hide (by rw [Bx.out, htk]; rfl)
          rw [htk] at CT
          clear htk
          by_cases he : r.body.length = 0
          · have Aq : r.body.isEmpty = true := by rw [List.isEmpty_iff]; exact List.eq_nil_of_length_eq_zero he
            have Ae : Hid (gy T e1 k = defendE T e1 k) := hide (by unfold gy; rw [AM.out, Bt.out, Aq]; rfl)
            have AO : ((r.body.length : Int) == 0) = true := by simpa using he
            clear Aq
            rw [he] at CT q2 Au Br AO
            go_wp2_with (first | (go_at_call 176; refine CT.out.mono ?_; rintro _ w5 ⟨rfl, hb⟩; have Ai := hide hb; have k2 := Au.out w5 hb; have CD := hide (nI (HEq.out.go hb) HL.out AM.out); clear hb) | (go_at_call 179; refine CD.out.mono ?_; rintro _ w6 ⟨rfl, Bk, Bs⟩; have BF := hide Bk; have BG := hide Bs; clear Bk Bs))
            go_roundw
            case rel => exact ⟨k + 1, by have := HL.out; omega, by go_num, hide (by rw [Ax.out, Ae.out]; exact BF.out), hide ((HFq.out.trans (Fr.of_below Ai.out)).trans BG.out)⟩
            case measure => have := HL.out; simp [intOf]; omega
          · have Aq : r.body.isEmpty = false := by cases hb : r.body with
             | nil => rw [hb] at he; simp at he
             | cons _ _ => rfl
            have Ae : Hid (gy T e1 k = e1) := hide (by unfold gy; rw [AM.out, Bt.out, Aq]; rfl)
            have AO : ((r.body.length : Int) == 0) = false := by simpa using he
            have BJ : (r.body.length == 0) = false := by simpa using he
            obtain ⟨bl, BC⟩ : ∃ bl, r.body.length = bl := ⟨_, rfl⟩
            rw [BC] at Au he AO BJ CT q2 Br
            clear Aq
            go_wp2_with (go_at_call 176; refine CT.out.mono ?_; rintro _ w5 ⟨rfl, hb⟩; have Ai := hide hb; have k2 := Au.out w5 hb; clear hb)
            go_roundw
            case rel => exact ⟨k + 1, by have := HL.out; omega, by go_num, hide (by rw [Ax.out, Ae.out]; exact HEq.out.go Ai.out), hide (HFq.out.trans (Fr.of_below Ai.out))⟩
            case measure => have := HL.out; simp [intOf]; omega
       · have AZ : k = T.rules.length := by omega
         have CB := hide (tR HEr.out)
         have Bh : Hid (mw T F n = { beginE T F n (bareE T k (aW T F)) with up := 0 }) := hide (by rw [AZ]; rfl)
         clear AZ
         generalize beginE T F n (bareE T k (aW T F)) = e3 at CB Bh
         clear HEr
         go_upto_region 15 with (go_at_call 180; refine CB.out.mono ?_; rintro _ w7 ⟨rfl, AW, BA⟩; have Bj := hide AW; have Bm := hide (HFr.out.trans BA); clear AW BA)
         obtain ⟨Cn, At⟩ := Bj.out
         have BO := At.bx.get (i := 21) rfl
         have Ca := At.bx.frz 21
         have h8 := At.setUp 0
         have BQ : Hid (Eg w.heap.size S A T F n (mw T F n) (w7.setCell ⟨A.K, 21, none⟩ (.int .i64 0))) := hide (by rw [Bh.out]; exact ⟨_, h8.1⟩)
         have BE := hide (Bm.out.trans h8.2)
         generalize e3.up = u3 at BO
         clear At h8 Bj Bm CB HFr
         go_wp2_with fail
         go_ret
         exact ⟨A, S, rfl, BQ.out, HBf.out _ BE.out⟩
end Go.Proofs.YtmlhcncagdfjfaaGreat.Fa
