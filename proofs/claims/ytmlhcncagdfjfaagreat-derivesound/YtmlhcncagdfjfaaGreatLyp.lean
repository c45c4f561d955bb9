import Derived.Test.YtmlhcncagdfjfaaGreatNwG
namespace Go.Proofs.YtmlhcncagdfjfaaGreat.Fa
open Go.RowKit Rg
structure Wt (b : Bool) (T : Th) (n lo hi us ms rr op : Nat) (W : World) : Prop where
 u : LL (fun k => lo ≤ k ∧ k < hi ∧ k ≠ ms ∧ k ≠ rr ∧ k ≠ op) (dQ T (kW b) T.rules.length) n us W
 m : Fx ms 3 (bO T.rules.length (fi T (kW b) T.rules.length)) W
 r : Fx rr 4 (ct T.rules.length fun _ => false) W
 o : Fx op 3 (bO n (eh T (kL b) (opK T (kL b) T.rules.length) T.rules.length)) W
 lo : lo ≤ ms ∧ lo ≤ rr ∧ lo ≤ op
 hi : ms < hi ∧ rr < hi ∧ op < hi
 ne : ms ≠ op
section
variable {b : Bool} {T : Th} {F : List Int} {n lo hi us ms rr op : Nat} {W W' : World}
theorem Wt.keep (h : Wt b T n lo hi us ms rr op W) (hh : hi ≤ W.heap.size) (hb : Below W.heap.size W W') : Wt b T n lo hi us ms rr op W' :=
 ⟨h.u.keep fun k hk => hb.block k (by omega), h.m.keep (hb.block _ h.m.lt), h.r.keep (hb.block _ h.r.lt), h.o.keep (hb.block _ h.o.lt), h.lo, h.hi, h.ne⟩
theorem Wt.of {q : Nat} {H : Nat → List (List Int)} {vs : Nat → List Value} (h : Nw lo q us ms rr op n T.rules.length (fi T (kW b) T.rules.length) (eh T (kL b) (opK T (kL b) T.rules.length) T.rules.length) H vs W) (hu : ∀ z : Nat, z < n → (H 0).getD z [] = dQ T (kW b) T.rules.length z) : Wt b T n lo W.heap.size us ms rr op W := by
 have Aa := h.h3.fx 0 (by decide)
 refine ⟨⟨⟨h.h3.lo 0 (by decide), Aa.lt, an Aa h.fm (by decide), an Aa h.fr (by decide), an Aa h.fo (by decide)⟩, vs 0, Aa, h.h3.vl 0 (by decide), fun i hi => ?_⟩, h.fm, h.fr, h.fo, ⟨h.lo.2.1, h.lo.2.2.1, h.lo.2.2.2⟩, ⟨h.fm.lt, h.fr.lt, h.fo.lt⟩, h.ne⟩
 obtain ⟨l, a, k, h1, h2, -, h4⟩ := h.h3.at (c := 0) (by decide) hi
 have e : l = dQ T (kW b) T.rules.length i := by
  have := hu i hi
  rw [List.getD_eq_getElem?_getD, h1] at this
  exact this
 subst e
 refine ⟨a, k, h2, dV h4, fun g o e2 _ => ?_⟩
 have Ab : Value.ownBlock (.slice a (dQ T (kW b) T.rules.length i).length k) = some g := by rw [e2]; rfl
 have Ad := h4.lt g Ab
 have Ac := h.na i _ h2
 refine ⟨Ad.1, Ad.2, fun e => Ac.1 (e ▸ Ab), fun e => au h4 h.fr (by decide) (e ▸ Ab), fun e => Ac.2 (e ▸ Ab)⟩
def Mu (A : Ad) (R : Nat) (k : Nat) : Prop := (∃ b, k = A.ms b ∨ k = A.rr b ∨ k = A.op b) ∨ (∃ s, s < R ∧ k = A.cr s) ∨ k = A.ob ∨ k = A.mq
structure Lp (N0 : Nat) (A : Ad) (T : Th) (F : List Int) (n : Nat) (W : World) : Prop where
 us : ∀ b, LL (fun k => N0 ≤ k ∧ k < W.heap.size ∧ k ≠ A.K ∧ ¬ Mu A T.rules.length k) (dQ T (kW b) T.rules.length) n (A.us b) W
 lx : Fx A.cl 229 ((List.range T.rules.length).map fun s : Nat => sl (A.cr s) (ao T (aj T s)).length) W
 ms : ∀ b, Fx (A.ms b) 3 (bO T.rules.length (fi T (kW b) T.rules.length)) W
 rr : ∀ b, Fx (A.rr b) 4 (ct T.rules.length fun _ => false) W
 op : ∀ b, Fx (A.op b) 3 (bO n (eh T (kL b) (opK T (kL b) T.rules.length) T.rules.length)) W
 cr : ∀ s : Nat, s < T.rules.length → Fx (A.cr s) 231 (bR (ao T (aj T s)) (fK T T.rules.length s) fun _ => false) W
 ob : Fx A.ob 3 (bO n (obK T F n)) W
 mq : Fx A.mq 67 (eR n fun _ => 0) W
 lo : ∀ k, Mu A T.rules.length k → N0 ≤ k
 di : Di A T.rules.length
theorem Lp.keep {N0 : Nat} {A : Ad} (h : Lp N0 A T F n W) (hb : Below W.heap.size W W') : Lp N0 A T F n W' :=
 have k : ∀ {g t : Nat} {xs : List Value}, Fx g t xs W → Fx g t xs W' := fun hf => hf.keep (hb.block _ hf.lt)
 ⟨fun b => ((h.us b).keep fun k hk => hb.block k hk.2.1).sub fun _ hk => ⟨hk.1, Nat.lt_of_lt_of_le hk.2.1 hb.size, hk.2.2⟩, k h.lx, fun b => k (h.ms b), fun b => k (h.rr b), fun b => k (h.op b), fun s hs => k (h.cr s hs), k h.ob, k h.mq, h.lo, h.di⟩
theorem Lp.key {N0 : Nat} {A : Ad} (h : Lp N0 A T F n W) : Lp N0 { A with K := W.heap.size } T F n W :=
 ⟨fun b => (h.us b).sub fun _ hk => ⟨hk.1, hk.2.1, fun e => Nat.ne_of_lt hk.2.1 e, hk.2.2.2⟩, h.lx, h.ms, h.rr, h.op, h.cr, h.ob, h.mq, h.lo, ⟨h.di.mm, h.di.oo, h.di.rr, h.di.mo, h.di.mb, h.di.ob, h.di.cc⟩⟩
def xe {α : Type} (x y : α) (b : Bool) : α := if b then y else x
abbrev pu (K : Nat) (fa ra ba : Option Addr) (fc rc bc rl tm rv fm us0 ms0 rr0 op0 us1 ms1 rr1 op1 cl ob mq : Nat) (cr : Nat → Nat) : Ad := ⟨K, fa, ra, ba, fc, rc, bc, rl, tm, rv, fm, xe us0 us1, xe ms0 ms1, xe rr0 rr1, xe op0 op1, cl, ob, mq, cr⟩
theorem bw {k m l h l' h' : Nat} (a : l ≤ k ∧ k < h) (b : l' ≤ m ∧ m < h') (d : h ≤ l' ∨ h' ≤ l) : k ≠ m := by omega
theorem Lp.of {N0 K : Nat} {fa ra ba : Option Addr} {fc rc bc rl tm rv fm us0 ms0 rr0 op0 us1 ms1 rr1 op1 cl ob mq : Nat} {cr : Nat → Nat} {l0 h0 l1 h1 l2 h2 l3 h3 l4 h4 : Nat} (hK : K < N0) (w0 : Wt false T n l0 h0 us0 ms0 rr0 op0 W) (w1 : Wt true T n l1 h1 us1 ms1 rr1 op1 W) (cz : Cz l2 cl cr T T.rules.length (fK T T.rules.length) W) (hc : ∀ s, s < T.rules.length → cr s < h2) (fo : Fx ob 3 (bO n (obK T F n)) W) (ho : l3 ≤ ob ∧ ob < h3) (fq : Fx mq 67 (eR n fun _ => 0) W) (hq : l4 ≤ mq ∧ mq < h4)
    (n0 : N0 ≤ l0) (n1 : N0 ≤ l1) (n2 : N0 ≤ l2) (n3 : N0 ≤ l3) (n4 : N0 ≤ l4) (m0 : h0 ≤ W.heap.size) (m1 : h1 ≤ W.heap.size)
    (d01 : h0 ≤ l1 ∨ h1 ≤ l0) (d02 : h0 ≤ l2 ∨ h2 ≤ l0) (d03 : h0 ≤ l3 ∨ h3 ≤ l0) (d04 : h0 ≤ l4 ∨ h4 ≤ l0) (d12 : h1 ≤ l2 ∨ h2 ≤ l1) (d13 : h1 ≤ l3 ∨ h3 ≤ l1) (d14 : h1 ≤ l4 ∨ h4 ≤ l1) :
    Lp N0 (pu K fa ra ba fc rc bc rl tm rv fm us0 ms0 rr0 op0 us1 ms1 rr1 op1 cl ob mq cr) T F n W := by
 have a0 := w0.lo
 have b0 := w0.hi
 have e0 := w0.ne
 have a1 := w1.lo
 have b1 := w1.hi
 have e1 := w1.ne
 have a2 := cz.lo.2
 have c2 : ∀ s, s < T.rules.length → l2 ≤ cr s ∧ cr s < h2 := fun s hs => ⟨a2 s hs, hc s hs⟩
 have M0 : ∀ k, l0 ≤ k ∧ k < h0 ∧ k ≠ ms0 ∧ k ≠ rr0 ∧ k ≠ op0 → ¬ Mu (pu K fa ra ba fc rc bc rl tm rv fm us0 ms0 rr0 op0 us1 ms1 rr1 op1 cl ob mq cr) T.rules.length k := by
  rintro k ⟨k1, k2, k3, k4, k5⟩ (⟨b, hb⟩ | ⟨s, hs, e⟩ | e | e)
  · cases b
    · rcases hb with e | e | e
      · exact k3 e
      · exact k4 e
      · exact k5 e
    · rcases hb with e | e | e
      · exact bw ⟨k1, k2⟩ ⟨a1.1, b1.1⟩ d01 e
      · exact bw ⟨k1, k2⟩ ⟨a1.2.1, b1.2.1⟩ d01 e
      · exact bw ⟨k1, k2⟩ ⟨a1.2.2, b1.2.2⟩ d01 e
  · exact bw ⟨k1, k2⟩ (c2 s hs) d02 e
  · exact bw ⟨k1, k2⟩ ho d03 e
  · exact bw ⟨k1, k2⟩ hq d04 e
 have M1 : ∀ k, l1 ≤ k ∧ k < h1 ∧ k ≠ ms1 ∧ k ≠ rr1 ∧ k ≠ op1 → ¬ Mu (pu K fa ra ba fc rc bc rl tm rv fm us0 ms0 rr0 op0 us1 ms1 rr1 op1 cl ob mq cr) T.rules.length k := by
  rintro k ⟨k1, k2, k3, k4, k5⟩ (⟨b, hb⟩ | ⟨s, hs, e⟩ | e | e)
  · cases b
    · rcases hb with e | e | e
      · exact bw ⟨k1, k2⟩ ⟨a0.1, b0.1⟩ d01.symm e
      · exact bw ⟨k1, k2⟩ ⟨a0.2.1, b0.2.1⟩ d01.symm e
      · exact bw ⟨k1, k2⟩ ⟨a0.2.2, b0.2.2⟩ d01.symm e
    · rcases hb with e | e | e
      · exact k3 e
      · exact k4 e
      · exact k5 e
  · exact bw ⟨k1, k2⟩ (c2 s hs) d12 e
  · exact bw ⟨k1, k2⟩ ho d13 e
  · exact bw ⟨k1, k2⟩ hq d14 e
 refine ⟨fun b => ?_, ?_, fun b => ?_, fun b => ?_, fun b => ?_, cz.cs, fo, fq, ?_, ?_⟩
 · cases b
   · exact w0.u.sub fun k hk => ⟨Nat.le_trans n0 hk.1, Nat.lt_of_lt_of_le hk.2.1 m0, fun e => (by have e : k = K := e; have := hk.1; omega), M0 k hk⟩
   · exact w1.u.sub fun k hk => ⟨Nat.le_trans n1 hk.1, Nat.lt_of_lt_of_le hk.2.1 m1, fun e => (by have e : k = K := e; have := hk.1; omega), M1 k hk⟩
 · have := cz.fx
   have e : ((List.range T.rules.length).map fun s : Nat => if s < T.rules.length then sl (cr s) (ao T (aj T s)).length else .slice none 0 0) = (List.range T.rules.length).map fun s : Nat => sl (cr s) (ao T (aj T s)).length := List.map_congr_left fun s hs => if_pos (List.mem_range.1 hs)
   rw [e] at this
   exact this
 · cases b
   · exact w0.m
   · exact w1.m
 · cases b
   · exact w0.r
   · exact w1.r
 · cases b
   · exact w0.o
   · exact w1.o
 · rintro k (⟨b, hb⟩ | ⟨s, hs, e⟩ | e | e)
   · cases b
     · rcases hb with e | e | e
       · exact e ▸ Nat.le_trans n0 a0.1
       · exact e ▸ Nat.le_trans n0 a0.2.1
       · exact e ▸ Nat.le_trans n0 a0.2.2
     · rcases hb with e | e | e
       · exact e ▸ Nat.le_trans n1 a1.1
       · exact e ▸ Nat.le_trans n1 a1.2.1
       · exact e ▸ Nat.le_trans n1 a1.2.2
   · exact e ▸ Nat.le_trans n2 (c2 s hs).1
   · exact e ▸ Nat.le_trans n3 ho.1
   · exact e ▸ Nat.le_trans n4 hq.1
 · refine ⟨fun b c e => ?_, fun b c e => ?_, fun b c e => ?_, fun b c e => ?_, fun b e => ?_, fun b e => ?_, cz.inj⟩
   · cases b <;> cases c
     · rfl
     · exact absurd e (bw ⟨a0.1, b0.1⟩ ⟨a1.1, b1.1⟩ d01)
     · exact absurd e.symm (bw ⟨a0.1, b0.1⟩ ⟨a1.1, b1.1⟩ d01)
     · rfl
   · cases b <;> cases c
     · rfl
     · exact absurd e (bw ⟨a0.2.2, b0.2.2⟩ ⟨a1.2.2, b1.2.2⟩ d01)
     · exact absurd e.symm (bw ⟨a0.2.2, b0.2.2⟩ ⟨a1.2.2, b1.2.2⟩ d01)
     · rfl
   · cases b <;> cases c
     · rfl
     · exact absurd e (bw ⟨a0.2.1, b0.2.1⟩ ⟨a1.2.1, b1.2.1⟩ d01)
     · exact absurd e.symm (bw ⟨a0.2.1, b0.2.1⟩ ⟨a1.2.1, b1.2.1⟩ d01)
     · rfl
   · cases b <;> cases c
     · exact e0 e
     · exact bw ⟨a0.1, b0.1⟩ ⟨a1.2.2, b1.2.2⟩ d01 e
     · exact bw ⟨a1.1, b1.1⟩ ⟨a0.2.2, b0.2.2⟩ d01.symm e
     · exact e1 e
   · cases b
     · exact bw ⟨a0.1, b0.1⟩ ho d03 e
     · exact bw ⟨a1.1, b1.1⟩ ho d13 e
   · cases b
     · exact bw ⟨a0.2.2, b0.2.2⟩ ho d03 e
     · exact bw ⟨a1.2.2, b1.2.2⟩ ho d13 e
end
def fw (T : Th) (F : List Int) (n : Nat) : Es where
 ms := fun b => fi T (kW b) T.rules.length
 rf := fun _ _ => false
 op := fun b => eh T (kL b) (opK T (kL b) T.rules.length) T.rules.length
 cd := fK T T.rules.length
 cb := fun _ _ => false
 ob := obK T F n
 mq := fun _ => 0
 td := []
 tk := 0
 up := 0
def Sk (A : Ad) (R : Nat) (W : World) (k : Nat) : Prop := k < W.heap.size ∧ k ≠ A.K ∧ ¬ Mu A R k
section
variable {T : Th} {F : List Int} {n N N0 : Nat} {A : Ad} {W W' : World}
structure Iy (N N0 : Nat) (A : Ad) (T : Th) (F : List Int) (n : Nat) (W : World) : Prop where
 ta : TA N W T A.fa A.fc A.ra A.rc A.ba A.bc
 a : LL (fun k => k < N0) (ag T kA) n A.rl W
 t : LL (fun k => k < N0) (ag T kT) n A.tm W
 v : LL (fun k => k < N0) (ao T) n A.rv W
 f : Fx A.fm 4 (ct n (bI T F)) W
 ff : A.fm < N0
theorem En.of (hp : Pf T F n) (hl : Lp N0 A T F n W) (hi : Iy N N0 A T F n W) (hN : N ≤ N0) (hK : N0 ≤ A.K) (hx : Fx A.K 181 (qw A T n T.rules.length (.slice none 0 0) 0 0) W) : En N (Sk A T.rules.length W) A T F n (fw T F n) (.slice none 0 0) W := by
 have Ac := hx.lt
 have Aa : ∀ k, k < N0 → Sk A T.rules.length W k := fun k hk => ⟨by omega, by omega, fun h => by have := hl.lo k h; omega⟩
 have Ab : Sk A T.rules.length W A.cl := by
  refine ⟨hl.lx.lt, an hl.lx hx (by decide), ?_⟩
  rintro (⟨b, e | e | e⟩ | ⟨s, hs, e⟩ | e | e)
  · exact an hl.lx (hl.ms b) (by decide) e
  · exact an hl.lx (hl.rr b) (by decide) e
  · exact an hl.lx (hl.op b) (by decide) e
  · exact an hl.lx (hl.cr s hs) (by decide) e
  · exact an hl.lx hl.ob (by decide) e
  · exact an hl.lx hl.mq (by decide) e
 refine ⟨hp, ⟨hi.ta, fun g hg => Aa g (by omega), hi.a.sub Aa, hi.t.sub Aa, hi.v.sub Aa, Aa _ hi.ff, hi.f, fun b => (hl.us b).sub fun k hk => ⟨hk.2.1, hk.2.2.1, hk.2.2.2⟩, Ab, hl.lx⟩, hl.di, ⟨fun x hx => (by cases hx), List.Pairwise.nil, fun q => ?_, Nat.le_refl _⟩, hx, hl.ms, hl.rr, hl.op, hl.cr, hl.ob, hl.mq, ⟨rfl, .inl ⟨rfl, rfl⟩⟩, ?_⟩
 · show dh 0
   unfold dh
   omega
 · intro k hk
   refine ⟨hk.1, hk.2.1, fun b => ⟨fun e => hk.2.2 (.inl ⟨b, .inl e⟩), fun e => hk.2.2 (.inl ⟨b, .inr (.inl e)⟩), fun e => hk.2.2 (.inl ⟨b, .inr (.inr e)⟩)⟩, fun s hs e => hk.2.2 (.inr (.inl ⟨s, hs, e⟩)), fun e => hk.2.2 (.inr (.inr (.inl e))), fun e => hk.2.2 (.inr (.inr (.inr e))), fun e => by cases e⟩
theorem En.congr {S : Nat → Prop} {e e' : Es} {tv : Value} (h : En N S A T F n e tv W) (h1 : ∀ b (r : Nat), r < T.rules.length → e.ms b r = e'.ms b r) (h2 : ∀ b (r : Nat), r < T.rules.length → e.rf b r = e'.rf b r) (h3 : ∀ b (q : Nat), q < n → e.op b q = e'.op b q) (h4 : ∀ s : Nat, s < T.rules.length → ∀ p ∈ ao T (aj T s), e.cd s p = e'.cd s p ∧ e.cb s p = e'.cb s p) (h5 : ∀ q : Nat, q < n → e.ob q = e'.ob q) (h6 : e.mq = e'.mq) (h7 : e.td = e'.td) (h8 : e.tk = e'.tk) (h9 : e.up = e'.up) : En N S A T F n e' tv W := by
 have rI : ∀ {m : Nat} {f g : Int → Int}, (∀ i : Nat, i < m → f i = g i) → bO m f = bO m g := fun h => List.map_congr_left fun i hi => by rw [h i (List.mem_range.1 hi)]
 have rB : ∀ {m : Nat} {f g : Int → Bool}, (∀ i : Nat, i < m → f i = g i) → ct m f = ct m g := fun h => List.map_congr_left fun i hi => by rw [h i (List.mem_range.1 hi)]
 have hh : ∀ q t, has e q t = has e' q t := fun q t => by unfold has; rw [h6]
 refine ⟨h.pf, h.ro, h.di, ⟨fun x hx => ?_, by rw [← h7]; exact h.tok.nd, fun q => by rw [← h6]; exact h.tok.by_ q, by rw [← h7, ← h8]; exact h.tok.tk⟩, by rw [← h8, ← h9]; exact h.bx, fun b => by rw [← rI (h1 b)]; exact h.ms b, fun b => by rw [← rB (h2 b)]; exact h.rf b, fun b => by rw [← rI (h3 b)]; exact h.op b, fun s hs => by rw [← jH (h4 s hs)]; exact h.cr s hs, by rw [← rI h5]; exact h.ob, by rw [← h6]; exact h.mq, by rw [← h7]; exact h.td, h.kp⟩
 rw [← h7] at hx
 have := h.tok.inn x hx
 rw [hh] at this
 exact this
end
def ph (T : Th) (F : List Int) (fa ra ba : Option Addr) (fc rc bc rl tm rv fm tb n N0 : Nat) (i : Nat) (v : Value) (W : World) (lo hi : Nat) : Prop := match i with
 | 0 | 5 | 7 => v = .agg (cU T fa ra ba fc rc bc rl tm rv fm n).toArray
 | 1 | 3 => v = tv T fa fc ra rc ba bc
 | 9 => v = aa tb
 | 10 => v = .int .i64 T.lits
 | 2 => ∃ us ms rr op, v = .agg (rS us ms rr op n T.rules.length).toArray ∧ Wt false T n lo hi us ms rr op W
 | 4 => ∃ us ms rr op, v = .agg (rS us ms rr op n T.rules.length).toArray ∧ Wt true T n lo hi us ms rr op W
 | 6 => ∃ cl cr, v = sl cl T.rules.length ∧ Cz lo cl cr T T.rules.length (fK T T.rules.length) W ∧ ∀ s, s < T.rules.length → cr s < hi
 | 8 => ∃ g, v = sl g n ∧ Fx g 3 (bO n (obK T F n)) W ∧ lo ≤ g ∧ g < hi
 | 11 => ∃ g, v = sl g n ∧ Fx g 67 (eR n fun _ => 0) W ∧ lo ≤ g ∧ g < hi
 | 12 => ∃ us0 ms0 rr0 op0 us1 ms1 rr1 op1 cl ob mq cr, v = .agg (qw (pu tb fa ra ba fc rc bc rl tm rv fm us0 ms0 rr0 op0 us1 ms1 rr1 op1 cl ob mq cr) T n T.rules.length (.slice none 0 0) 0 0).toArray ∧ Lp N0 (pu tb fa ra ba fc rc bc rl tm rv fm us0 ms0 rr0 op0 us1 ms1 rr1 op1 cl ob mq cr) T F n W
 | 13 | 14 => ∃ K us0 ms0 rr0 op0 us1 ms1 rr1 op1 cl ob mq cr, v = aa K ∧ N0 ≤ K ∧ Fx K 181 (qw (pu K fa ra ba fc rc bc rl tm rv fm us0 ms0 rr0 op0 us1 ms1 rr1 op1 cl ob mq cr) T n T.rules.length (.slice none 0 0) 0 0) W ∧ Lp N0 (pu K fa ra ba fc rc bc rl tm rv fm us0 ms0 rr0 op0 us1 ms1 rr1 op1 cl ob mq cr) T F n W
 | _ => True
theorem bD {T : Th} {F : List Int} {fa ra ba : Option Addr} {fc rc bc rl tm rv fm tb n N0 : Nat} : ∀ i v W W' lo hi, ph T F fa ra ba fc rc bc rl tm rv fm tb n N0 i v W lo hi → hi ≤ W.heap.size → Below W.heap.size W W' → ph T F fa ra ba fc rc bc rl tm rv fm tb n N0 i v W' lo hi := by
 intro i v W W' lo hi h hh hb
 have k : ∀ {g t : Nat} {xs : List Value}, Fx g t xs W → Fx g t xs W' := fun hf => hf.keep (hb.block _ hf.lt)
 unfold ph at *
 split at h
 all_goals first
  | exact h
  | (obtain ⟨us, ms, rr, op, a, b⟩ := h; exact ⟨us, ms, rr, op, a, b.keep hh hb⟩)
  | (obtain ⟨cl, cr, a, b, c⟩ := h; exact ⟨cl, cr, a, b.go hb, c⟩)
  | (obtain ⟨g, a, b, c⟩ := h; exact ⟨g, a, k b, c⟩)
  | (obtain ⟨u0, m0, r0, o0, u1, m1, r1, o1, cl, ob, mq, cr, a, b⟩ := h; exact ⟨u0, m0, r0, o0, u1, m1, r1, o1, cl, ob, mq, cr, a, b.keep hb⟩)
  | (obtain ⟨K, u0, m0, r0, o0, u1, m1, r1, o1, cl, ob, mq, cr, a, b, c, d⟩ := h; exact ⟨K, u0, m0, r0, o0, u1, m1, r1, o1, cl, ob, mq, cr, a, b, k c, d.keep hb⟩)
  | trivial
set_option maxRecDepth 100000
set_option maxHeartbeats 12800000
theorem ur : (Tryz.prog.info? 67).map (fun i => (i.zero, i.size, i.bytes)) = some (some (.int .u8 0), 1, 1) := by kernel_rfl
theorem vS {n : Nat} : Array.replicate n (Value.int .u8 0) = (eR n fun _ => 0).toArray := by
 unfold eR
 rw [List.map_const', List.length_range, List.toArray_replicate]
def dX (l : List Int) (e : Es) : Es := { e with op := dF e.op false (l.foldl (fun f x => aB f x 0) (e.op false)) }
theorem sr {α : Type} {f : Bool → α} {b : Bool} {x y : α} : dF (dF f b x) b y = dF f b y := by
 funext c
 by_cases e : c = b
 · rw [e, dz, dz]
 · rw [eW e, eW e, eW e]
theorem uC {e : Es} : dX [] e = e := by
 unfold dX
 have : dF e.op false (e.op false) = e.op := by
  funext c
  cases c
  · rw [dz]
  · rw [eW (by decide)]
 rw [List.foldl_nil, this]
theorem sY {l : List Int} {x : Int} {e : Es} : dX (l ++ [x]) e = { dX l e with op := dF (dX l e).op false (aB ((dX l e).op false) x 0) } := by
 unfold dX
 simp only [dz, sr, List.foldl_append, List.foldl_cons, List.foldl_nil]
structure jC (T : Th) (F : List Int) (n : Nat) : Prop where
 ms : ∀ b (r : Nat), r < T.rules.length → (dX F (fw T F n)).ms b r = (dE T F).ms b r
 op : ∀ b (q : Nat), q < n → (dX F (fw T F n)).op b q = (dE T F).op b q
 cd : ∀ s : Nat, s < T.rules.length → ∀ p ∈ ao T (aj T s), (dX F (fw T F n)).cd s p = (dE T F).cd s p
 ob : ∀ q : Nat, q < n → (dX F (fw T F n)).ob q = (dE T F).ob q
theorem xD {w : World} {T : Th} {F : List Int} {n : Nat} {fa ra ba ea : Option Addr} {fc rc bc ec : Nat} (h : TA w.heap.size w T fa fc ra rc ba bc) (hF : Ints w.heap.size w F (.slice ea F.length ec)) (hp : Pf T F n) (hso : jC T F n) :
    Calls Tryz.prog 156 #[tv T fa fc ra rc ba bc, .slice ea F.length ec] w fun o w' => ∃ A S, o = .returned (aa A.K) ∧ Eg w.heap.size S A T F n (oP T F n) w' ∧ Below w.heap.size w w' := by
 obtain ⟨iM, Bm, Bd, Bp, AZ⟩ := info_parts ur
 have Cm := hp.n4
 have Ce : T.rules.length ≤ 4096 := hp.ok.rl
 have Bn : ∀ W, (Instr.makeSlice 64 (.int .i64 T.lits) (.int .i64 T.lits)).run Tryz.prog W = .ok (sl W.heap.size n) (W.alloc (.cells (Array.replicate n (.int .u8 0)) 67)) := fun W => by rw [hp.ln]; exact aH (P := Tryz.prog) Tryz.underlying64 Bm Bd Bp rfl n (by rw [AZ]; omega) (by unfold maxLen; omega) W
 have Az := ae w (.cells #[.int .i64 T.lits, .slice fa T.foes.length fc, .slice ra T.rules.length rc, .slice ba T.beats.length bc] 25)
 have Al : Fx w.heap.size 25 [.int .i64 T.lits, .slice fa T.foes.length fc, .slice ra T.rules.length rc, .slice ba T.beats.length bc] (w.alloc (.cells #[.int .i64 T.lits, .slice fa T.foes.length fc, .slice ra T.rules.length rc, .slice ba T.beats.length bc] 25)) := heap_alloc_new w _
 have Bi := TR.go Az h
 have Bu := Ints.go Az hF
 have CI := hide (ix Bi Bu hp)
 have HT := hide h
 have HF := hide hF
 have HP := hide hp
 have Au := hide hso
 have HB := hide Az
 have Am := hide Al
 have t0 := Al.get (i := 0) rfl
 have t1 := Al.get (i := 1) rfl
 have t2 := Al.get (i := 2) rfl
 have t3 := Al.get (i := 3) rfl
 clear h hF hp hso Az Bi Bu Al Bm Bd Bp AZ
 have BT : Tryz.prog.follows .mixedOrders = true := by kernel_rfl
 go_enter Tryz.func156, Tryz.ntmps156
 go_upto_region 2 with (go_at_call 172; refine CI.out.mono ?_; rintro _ w1 ⟨q, rl, tm, rv, fm, vs, H, rfl, hn, hh, hb⟩; have HN := hide hn; have HH := hide hh; have Ae := hide hb; clear hn hh hb)
 clear CI t0 t1 t2 t3
 generalize w.alloc (.cells #[.int .i64 T.lits, .slice fa T.foes.length fc, .slice ra T.rules.length rc, .slice ba T.beats.length bc] 25) = W at *
 obtain ⟨tb, AO⟩ : ∃ tb, w.heap.size = tb := ⟨_, rfl⟩
 have BY := hide AO
 rw [AO] at Am ⊢
 clear AO
 have AS : Fx w1.heap.size 176 (cU T fa ra ba fc rc bc rl tm rv fm n) (w1.alloc (.cells (cU T fa ra ba fc rc bc rl tm rv fm n).toArray 176)) := heap_alloc_new w1 _
 have AP := ae w1 (.cells (cU T fa ra ba fc rc bc rl tm rv fm n).toArray 176)
 have Ax := (Below.refl (w1.alloc (.cells (cU T fa ra ba fc rc bc rl tm rv fm n).toArray 176)).heap.size (w1.alloc (.cells (cU T fa ra ba fc rc bc rl tm rv fm n).toArray 176))).drew
 obtain ⟨W0, AQ⟩ : ∃ W0, (w1.alloc (.cells (cU T fa ra ba fc rc bc rl tm rv fm n).toArray 176)).drew = W0 := ⟨_, rfl⟩
 have BK := hide AQ
 rw [AQ] at Ax
 have Ar : Below w1.heap.size w1 W0 := AP.trans (Ax.mono AP.size)
 have AB := hide (AS.keep (Ax.block _ AS.lt))
 have Ak := hide ((Am.out.keep (Ae.out.block _ Am.out.lt)).keep (Ar.block _ (Am.out.keep (Ae.out.block _ Am.out.lt)).lt))
 have Ag := hide (HN.out.go Ar)
 have Aw : Hid (Below w.heap.size w W0) := hide (HB.out.trans ((Ae.out.trans (Ar.mono Ae.out.size)).mono HB.out.size))
 have BU : W.heap.size ≤ W0.heap.size := Nat.le_trans Ae.out.size Ar.size
 have AD : tb < W0.heap.size := Ak.out.lt
 obtain ⟨ib, Bq⟩ : ∃ ib, w1.heap.size = ib := ⟨_, rfl⟩
 rw [Bq] at AB ⊢
 clear AP Ax AQ Bq AS Ar HN Ae HB Am
 have AE : Hid (∀ X, Below W0.heap.size W0 X → Below w.heap.size w X) := hide fun X hX => Aw.out.trans (hX.mono Aw.out.size)
 have Ay : Hid (∀ X, Below W0.heap.size W0 X → TA X.heap.size X T fa fc ra rc ba bc) := hide fun X hX => TR.go (AE.out X hX) HT.out
 have AT : Hid (∀ X, Below W0.heap.size W0 X → LL (fun k => k < W0.heap.size) (ag T kA) n rl X ∧ LL (fun k => k < W0.heap.size) (ag T kT) n tm X ∧ LL (fun k => k < W0.heap.size) (ao T) n rv X ∧ Fx fm 4 (ct n (bI T F)) X) := hide fun X hX =>
  ⟨(Ag.out.h3.ll (c := 0) (S := fun k => k < W0.heap.size) (by decide) (fun z hz => (HH.out z hz).1) fun k _ h => h).keep fun k hk => hX.block k hk, (Ag.out.h3.ll (c := 1) (S := fun k => k < W0.heap.size) (by decide) (fun z hz => (HH.out z hz).2.1) fun k _ h => h).keep fun k hk => hX.block k hk, (Ag.out.h3.ll (c := 2) (S := fun k => k < W0.heap.size) (by decide) (fun z hz => (HH.out z hz).2.2) fun k _ h => h).keep fun k hk => hX.block k hk, Ag.out.ff.keep (hX.block _ Ag.out.ff.lt)⟩
 have AJ : Hid (∀ X, Below W0.heap.size W0 X → Ix X T F n rl tm rv fm fa ra ba fc rc bc) := hide fun X hX => by
  obtain ⟨a, b, c, d⟩ := AT.out X hX
  exact ⟨Ay.out X hX, a.sub fun k hk => Nat.lt_of_lt_of_le hk hX.size, b.sub fun k hk => Nat.lt_of_lt_of_le hk hX.size, c.sub fun k hk => Nat.lt_of_lt_of_le hk hX.size, d⟩
 have AA : Hid (∀ X, Below W0.heap.size W0 X → X.cell? ⟨ib, 0, none⟩ = some (.int .i64 T.lits) ∧ X.cell? ⟨ib, 1, none⟩ = some (.slice fa T.foes.length fc) ∧ X.cell? ⟨ib, 2, none⟩ = some (.slice ra T.rules.length rc) ∧ X.cell? ⟨ib, 3, none⟩ = some (.slice ba T.beats.length bc) ∧ X.cell? ⟨ib, 4, none⟩ = some (sl rl n) ∧ X.cell? ⟨ib, 5, none⟩ = some (sl tm n) ∧ X.cell? ⟨ib, 6, none⟩ = some (sl rv n) ∧ X.cell? ⟨ib, 7, none⟩ = some (sl fm n)) := hide fun X hX => by
  have hf := AB.out.keep (hX.block _ AB.out.lt)
  exact ⟨hf.get (i := 0) rfl, hf.get (i := 1) rfl, hf.get (i := 2) rfl, hf.get (i := 3) rfl, hf.get (i := 4) rfl, hf.get (i := 5) rfl, hf.get (i := 6) rfl, hf.get (i := 7) rfl⟩
 have Ap : Hid (∀ X, Below W0.heap.size W0 X → X.cell? ⟨tb, 0, none⟩ = some (.int .i64 T.lits) ∧ X.cell? ⟨tb, 1, none⟩ = some (.slice fa T.foes.length fc) ∧ X.cell? ⟨tb, 2, none⟩ = some (.slice ra T.rules.length rc) ∧ X.cell? ⟨tb, 3, none⟩ = some (.slice ba T.beats.length bc)) := hide fun X hX => by
  have hf := Ak.out.keep (hX.block _ Ak.out.lt)
  exact ⟨hf.get (i := 0) rfl, hf.get (i := 1) rfl, hf.get (i := 2) rfl, hf.get (i := 3) rfl⟩
 have Ab : Hid (fZ [some 14, some 15, some 16, some 17, some 18, some 19, some 20, some 21, some 22, some 23, some 24, some 25, some 26, some 27, some 6] [(5, aa ib), (2, aa tb)] = true) := hide rfl
 have AH := hide AD
 clear AD
 have AU : Hid (∀ args w', (callFunc 173 args).run Tryz.prog w' = .ok (.enter 173 args) w') := hide (enters_go Tryz.func173 (by kernel_rfl) (by kernel_rfl))
 have Br : Hid (∀ args w', (callFunc 177 args).run Tryz.prog w' = .ok (.enter 177 args) w') := hide (enters_go Tryz.func177 (by kernel_rfl) (by kernel_rfl))
 have AW : Hid (∀ args w', (callFunc 178 args).run Tryz.prog w' = .ok (.enter 178 args) w') := hide (enters_go Tryz.func178 (by kernel_rfl) (by kernel_rfl))
 refine bV fW (Jg [some 14, some 15, some 16, some 17, some 18, some 19, some 20, some 21, some 22, some 23, some 24, some 25, some 26, some 27, some 6] [(5, aa ib), (2, aa tb)] (ph T F fa ra ba fc rc bc rl tm rv fm tb n W0.heap.size) W0) (by kernel_rfl) (by kernel_rfl) ?_ (ci ⟨?_, ?_, ?_, ?_, ?_, ?_, ?_, ?_, ?_, ?_, ?_, ?_, ?_, ?_, ?_, trivial⟩) ?_ ?_
 · have := BK.out
   show Jg _ _ _ W0 _ _ ((w1.alloc _).drew)
   rw [this]
   exact Jg.start.2 fun p hp => by simp at hp; rcases hp with rfl | rfl <;> rfl
 · intro ρ X L hc hf hL hd Aa hJ
   have k5 : ρ (.tmp 5) = aa ib := hJ.base (5, aa ib) (by simp)
   obtain ⟨c0, c1, c2, c3, c4, c5, c6, c7⟩ := AA.out X hJ.low
   refine ac (v := .agg (cU T fa ra ba fc rc bc rl tm rv fm n).toArray) (w' := X) ?_ (hJ.put Ab.out bD (i := 0) (d := 14) rfl (Below.refl _ _) (rfl))
   clear hd Aa hJ hL
   go_simp
 · intro ρ X L hc hf hL hd Aa hJ
   have k2 : ρ (.tmp 2) = aa tb := hJ.base (2, aa tb) (by simp)
   obtain ⟨c0, c1, c2, c3⟩ := Ap.out X hJ.low
   refine ac (v := .agg #[.int .i64 T.lits, .slice fa T.foes.length fc, .slice ra T.rules.length rc, .slice ba T.beats.length bc]) (w' := X) ?_ (hJ.put Ab.out bD (i := 1) (d := 15) rfl (Below.refl _ _) (rfl))
   clear hd Aa hJ hL
   go_simp
 · intro ρ X L hc hf hL hd Aa hJ
   obtain ⟨_, _, _, e1⟩ := hJ.get (i := 1) (d := 15) rfl (hd ⟨1, .data⟩ (by simp) rfl)
   have Cd : ρ (.tmp 15) = tv T fa fc ra rc ba bc := e1
   clear e1
   have hC := m8 (Ay.out X hJ.low) HP.out
   have he := AU.out #[tv T fa fc ra rc ba bc, .func (.func 174) #[] #[], .func (.func 174) #[] #[]] X
   refine dT (f := 173) (args := #[tv T fa fc ra rc ba bc, .func (.func 174) #[] #[], .func (.func 174) #[] #[]]) (w' := X) ?_ hC ?_
   · clear hd Aa hJ hL hC
     go_simp
   · rintro _ Y ⟨q, us, ms, rr, op, vs, H, rfl, hn, hu, hb⟩
     exact ⟨_, rfl, hJ.put Ab.out bD (i := 2) (d := 16) rfl hb (⟨us, ms, rr, op, rfl, Wt.of (b := false) hn hu⟩)⟩
 · intro ρ X L hc hf hL hd Aa hJ
   have k2 : ρ (.tmp 2) = aa tb := hJ.base (2, aa tb) (by simp)
   obtain ⟨c0, c1, c2, c3⟩ := Ap.out X hJ.low
   refine ac (v := .agg #[.int .i64 T.lits, .slice fa T.foes.length fc, .slice ra T.rules.length rc, .slice ba T.beats.length bc]) (w' := X) ?_ (hJ.put Ab.out bD (i := 3) (d := 17) rfl (Below.refl _ _) (rfl))
   clear hd Aa hJ hL
   go_simp
 · intro ρ X L hc hf hL hd Aa hJ
   obtain ⟨_, _, _, e1⟩ := hJ.get (i := 3) (d := 17) rfl (hd ⟨3, .data⟩ (by simp) rfl)
   have Cj : ρ (.tmp 17) = tv T fa fc ra rc ba bc := e1
   clear e1
   have hC := pK (Ay.out X hJ.low) HP.out
   have he := AU.out #[tv T fa fc ra rc ba bc, .func (.func 175) #[] #[], .func (.func 176) #[] #[]] X
   refine dT (f := 173) (args := #[tv T fa fc ra rc ba bc, .func (.func 175) #[] #[], .func (.func 176) #[] #[]]) (w' := X) ?_ hC ?_
   · clear hd Aa hJ hL hC
     go_simp
   · rintro _ Y ⟨q, us, ms, rr, op, vs, H, rfl, hn, hu, hb⟩
     exact ⟨_, rfl, hJ.put Ab.out bD (i := 4) (d := 18) rfl hb (⟨us, ms, rr, op, rfl, Wt.of (b := true) hn hu⟩)⟩
 · intro ρ X L hc hf hL hd Aa hJ
   have k5 : ρ (.tmp 5) = aa ib := hJ.base (5, aa ib) (by simp)
   obtain ⟨c0, c1, c2, c3, c4, c5, c6, c7⟩ := AA.out X hJ.low
   refine ac (v := .agg (cU T fa ra ba fc rc bc rl tm rv fm n).toArray) (w' := X) ?_ (hJ.put Ab.out bD (i := 5) (d := 19) rfl (Below.refl _ _) (rfl))
   clear hd Aa hJ hL
   go_simp
 · intro ρ X L hc hf hL hd Aa hJ
   obtain ⟨_, _, _, e1⟩ := hJ.get (i := 5) (d := 19) rfl (hd ⟨5, .data⟩ (by simp) rfl)
   have Cl : ρ (.tmp 19) = .agg (cU T fa ra ba fc rc bc rl tm rv fm n).toArray := e1
   clear e1
   have hC := nX (AJ.out X hJ.low) HP.out
   have he := Br.out #[.agg (cU T fa ra ba fc rc bc rl tm rv fm n).toArray] X
   refine dT (f := 177) (args := #[.agg (cU T fa ra ba fc rc bc rl tm rv fm n).toArray]) (w' := X) ?_ hC ?_
   · clear hd Aa hJ hL hC
     go_simp
   · rintro _ Y ⟨cl, cr, rfl, hz, hb⟩
     exact ⟨_, rfl, hJ.put Ab.out bD (i := 6) (d := 20) rfl hb (⟨cl, cr, rfl, hz, fun s hs => (hz.cs s hs).lt⟩)⟩
 · intro ρ X L hc hf hL hd Aa hJ
   have k5 : ρ (.tmp 5) = aa ib := hJ.base (5, aa ib) (by simp)
   obtain ⟨c0, c1, c2, c3, c4, c5, c6, c7⟩ := AA.out X hJ.low
   refine ac (v := .agg (cU T fa ra ba fc rc bc rl tm rv fm n).toArray) (w' := X) ?_ (hJ.put Ab.out bD (i := 7) (d := 21) rfl (Below.refl _ _) (rfl))
   clear hd Aa hJ hL
   go_simp
 · intro ρ X L hc hf hL hd Aa hJ
   obtain ⟨_, _, _, e1⟩ := hJ.get (i := 7) (d := 21) rfl (hd ⟨7, .data⟩ (by simp) rfl)
   have Cg : ρ (.tmp 21) = .agg (cU T fa ra ba fc rc bc rl tm rv fm n).toArray := e1
   clear e1
   have hC := mK (AJ.out X hJ.low) HP.out
   have he := AW.out #[.agg (cU T fa ra ba fc rc bc rl tm rv fm n).toArray] X
   refine dT (f := 178) (args := #[.agg (cU T fa ra ba fc rc bc rl tm rv fm n).toArray]) (w' := X) ?_ hC ?_
   · clear hd Aa hJ hL hC
     go_simp
   · rintro _ Y ⟨g, rfl, hg, hl, hb⟩
     exact ⟨_, rfl, hJ.put Ab.out bD (i := 8) (d := 22) rfl hb (⟨g, rfl, hg, hl, hg.lt⟩)⟩
 · intro ρ X L hc hf hL hd Aa hJ
   have k2 : ρ (.tmp 2) = aa tb := hJ.base (2, aa tb) (by simp)
   obtain ⟨c0, c1, c2, c3⟩ := Ap.out X hJ.low
   refine ac (v := aa tb) (w' := X) ?_ (hJ.put Ab.out bD (i := 9) (d := 23) rfl (Below.refl _ _) (rfl))
   clear hd Aa hJ hL
   go_simp
 · intro ρ X L hc hf hL hd Aa hJ
   obtain ⟨_, _, _, e1⟩ := hJ.get (i := 9) (d := 23) rfl (hd ⟨9, .data⟩ (by simp) rfl)
   have Ca : ρ (.tmp 23) = aa tb := e1
   clear e1
   obtain ⟨c0, c1, c2, c3⟩ := Ap.out X hJ.low
   refine ac (v := .int .i64 T.lits) (w' := X) ?_ (hJ.put Ab.out bD (i := 10) (d := 24) rfl (Below.refl _ _) (rfl))
   clear hd Aa hJ hL
   go_simp
 · intro ρ X L hc hf hL hd Aa hJ
   obtain ⟨_, _, _, e1⟩ := hJ.get (i := 10) (d := 24) rfl (hd ⟨10, .data⟩ (by simp) rfl)
   have Co : ρ (.tmp 24) = .int .i64 T.lits := e1
   clear e1
   have Ci := Bn X
   refine ac (v := sl X.heap.size n) (w' := X.alloc (.cells (Array.replicate n (.int .u8 0)) 67)) ?_ (hJ.put Ab.out bD (i := 11) (d := 25) rfl (ae X _) (⟨X.heap.size, rfl, by unfold Fx; rw [heap_alloc_new, vS], Nat.le_refl _, by simp⟩))
   clear hd Aa hJ hL
   go_simp
 · intro ρ X L hc hf hL hd Aa hJ
   obtain ⟨lo, hi, Ah, Af⟩ := hJ.at_
   have l0 : L 0 = true := hd ⟨0, .data⟩ (by simp) rfl
   have l2 : L 2 = true := hd ⟨2, .data⟩ (by simp) rfl
   have l4 : L 4 = true := hd ⟨4, .data⟩ (by simp) rfl
   have l6 : L 6 = true := hd ⟨6, .data⟩ (by simp) rfl
   have l8 : L 8 = true := hd ⟨8, .data⟩ (by simp) rfl
   have AK : L 11 = true := hd ⟨11, .data⟩ (by simp) rfl
   obtain ⟨-, -, -, e0⟩ := Ah 0 14 rfl l0
   obtain ⟨p2, -, m2, u0, s0, r0, o0, e2, w2⟩ := Ah 2 16 rfl l2
   obtain ⟨p4, -, m4, u1, s1, r1, o1, e4, w4⟩ := Ah 4 18 rfl l4
   obtain ⟨p6, -, -, cl, cr, e6, z6, h6⟩ := Ah 6 20 rfl l6
   obtain ⟨p8, -, -, ob, e8, f8, a8, b8⟩ := Ah 8 22 rfl l8
   obtain ⟨BI, -, -, mq, Bl, By, BQ, BJ⟩ := Ah 11 25 rfl AK
   have An := Lp.of (K := tb) (fa := fa) (ra := ra) (ba := ba) (fc := fc) (rc := rc) (bc := bc) (rl := rl) (tm := tm) (rv := rv) (fm := fm) AH.out w2 w4 z6 h6 f8 ⟨a8, b8⟩ By ⟨BQ, BJ⟩ p2 p4 p6 p8 BI m2 m4 (Af 2 4 16 18 rfl rfl (by decide) l2 l4) (Af 2 6 16 20 rfl rfl (by decide) l2 l6) (Af 2 8 16 22 rfl rfl (by decide) l2 l8) (Af 2 11 16 25 rfl rfl (by decide) l2 AK) (Af 4 6 18 20 rfl rfl (by decide) l4 l6) (Af 4 8 18 22 rfl rfl (by decide) l4 l8) (Af 4 11 18 25 rfl rfl (by decide) l4 AK)
   have Ch : ρ (.tmp 14) = .agg #[.int .i64 T.lits, .slice fa T.foes.length fc, .slice ra T.rules.length rc, .slice ba T.beats.length bc, sl rl n, sl tm n, sl rv n, sl fm n] := e0
   have BW : ρ (.tmp 16) = .agg #[sl u0 n, sl s0 T.rules.length, sl r0 T.rules.length, sl o0 n] := e2
   have Cb : ρ (.tmp 18) = .agg #[sl u1 n, sl s1 T.rules.length, sl r1 T.rules.length, sl o1 n] := e4
   have Cc : ρ (.tmp 20) = sl cl T.rules.length := e6
   have Cq : ρ (.tmp 22) = sl ob n := e8
   have Ck : ρ (.tmp 25) = sl mq n := Bl
   refine ac (v := .agg #[.int .i64 T.lits, .slice fa T.foes.length fc, .slice ra T.rules.length rc, .slice ba T.beats.length bc, sl rl n, sl tm n, sl rv n, sl fm n, sl u0 n, sl s0 T.rules.length, sl r0 T.rules.length, sl o0 n, sl u1 n, sl s1 T.rules.length, sl r1 T.rules.length, sl o1 n, sl cl T.rules.length, sl ob n, sl mq n, .slice none 0 0, .int .i64 0, .int .i64 0]) (w' := X) ?_ (hJ.put Ab.out bD (i := 12) (d := 26) rfl (Below.refl _ _) ⟨u0, s0, r0, o0, u1, s1, r1, o1, cl, ob, mq, cr, rfl, An⟩)
   clear hd Aa hJ hL Ah Af An e0 e2 e4 e6 e8 Bl w2 w4 z6 h6 f8 By
   go_simp
 · intro ρ X L hc hf hL hd Aa hJ
   obtain ⟨_, _, _, u0, s0, r0, o0, u1, s1, r1, o1, cl, ob, mq, cr, e1, An⟩ := hJ.get (i := 12) (d := 26) rfl (hd ⟨12, .data⟩ (by simp) rfl)
   have BX : ρ (.tmp 26) = .agg #[.int .i64 T.lits, .slice fa T.foes.length fc, .slice ra T.rules.length rc, .slice ba T.beats.length bc, sl rl n, sl tm n, sl rv n, sl fm n, sl u0 n, sl s0 T.rules.length, sl r0 T.rules.length, sl o0 n, sl u1 n, sl s1 T.rules.length, sl r1 T.rules.length, sl o1 n, sl cl T.rules.length, sl ob n, sl mq n, .slice none 0 0, .int .i64 0, .int .i64 0] := e1
   refine ac (v := aa X.heap.size) (w' := X.alloc (.cells #[.int .i64 T.lits, .slice fa T.foes.length fc, .slice ra T.rules.length rc, .slice ba T.beats.length bc, sl rl n, sl tm n, sl rv n, sl fm n, sl u0 n, sl s0 T.rules.length, sl r0 T.rules.length, sl o0 n, sl u1 n, sl s1 T.rules.length, sl r1 T.rules.length, sl o1 n, sl cl T.rules.length, sl ob n, sl mq n, .slice none 0 0, .int .i64 0, .int .i64 0] 181)) ?_ (hJ.put Ab.out bD (i := 13) (d := 27) rfl (ae X _) ⟨X.heap.size, u0, s0, r0, o0, u1, s1, r1, o1, cl, ob, mq, cr, rfl, hJ.low.size, heap_alloc_new X _, An.key.keep (ae X _)⟩)
   clear hd Aa hJ hL e1 An
   go_simp
 · intro ρ X L hc hf hL hd Aa hJ
   obtain ⟨_, _, _, K, u0, s0, r0, o0, u1, s1, r1, o1, cl, ob, mq, cr, e1, h1, h2, h3⟩ := hJ.get (i := 13) (d := 27) rfl (hd ⟨13, .data⟩ (by simp) rfl)
   have Cn : ρ (.tmp 27) = aa K := e1
   refine ac (v := aa K) (w' := X) ?_ (hJ.put Ab.out bD (i := 14) (d := 6) rfl (Below.refl _ _) ⟨K, u0, s0, r0, o0, u1, s1, r1, o1, cl, ob, mq, cr, rfl, h1, h2, h3⟩)
   clear hd Aa hJ hL e1 h2 h3
   go_simp
 · intro c a' w' _ hE
   exact hE.elim
 · rintro ⟨Ac, df⟩ w' AR Bz ⟨L, hL, hJ⟩ AC
   simp only at Bz AR
   subst Bz
   obtain ⟨_, _, _, K, u0, s0, r0, o0, u1, s1, r1, o1, cl, ob, mq, cr, e6, h1, h2, h3⟩ := hJ.get (i := 14) (d := 6) rfl (hL 14 (by decide))
   have e6 : Ac.getD 6 undef = aa K := e6
   have Aj := em 14 27 6 (by kernel_rfl) AR AC
   simp only [zs, Nat.reduceLT, Nat.reduceAdd, true_or, or_true, or_self, false_and, ne_eq, Nat.reduceEqDiff, not_false_eq_true, not_true_eq_false, and_self, and_false, if_true, if_false, e6] at Aj
   rw [Aj]
   obtain ⟨ia, it, iv, AI⟩ := AT.out w' hJ.low
   obtain ⟨A, hA⟩ : ∃ A : Ad, pu K fa ra ba fc rc bc rl tm rv fm u0 s0 r0 o0 u1 s1 r1 o1 cl ob mq cr = A := ⟨_, rfl⟩
   have Aq : A.K = K := by rw [← hA]
   have BB : En w.heap.size (Sk A T.rules.length w') A T F n (fw T F n) (.slice none 0 0) w' := by
    have BL : Iy w.heap.size W0.heap.size A T F n w' := by
     rw [← hA]
     exact ⟨TR.keep (AE.out w' hJ.low).block HT.out, ia, it, iv, AI, Ag.out.ff.lt⟩
    rw [hA] at h2 h3
    exact En.of HP.out h3 BL Aw.out.size (by rw [Aq]; exact h1) (by rw [Aq]; exact h2)
   have HE := hide BB
   have Bc := hide (AE.out w' hJ.low)
   have Bs := hide (Ak.out.keep (hJ.low.block _ Ak.out.lt))
   have AL : Hid (∀ k, k < W0.heap.size → Sk A T.rules.length w' k) := hide fun k hk => ⟨Nat.lt_of_lt_of_le hk hJ.low.size, fun e => (by rw [Aq] at e; omega), fun hm => (by rw [hA] at h3; have := h3.lo k hm; omega)⟩
   rw [← Aq]
   clear Aj hJ hL AC AR e6 h2 h3 BB ia it iv AI hA Aq AA Ap Ab AJ AT Ay Ag AU Br AW Bn AB Ak
   generalize Ac.getD 14 undef = x14
   generalize Ac.getD 15 undef = x15
   generalize Ac.getD 16 undef = x16
   generalize Ac.getD 17 undef = x17
   generalize Ac.getD 18 undef = x18
   generalize Ac.getD 19 undef = x19
   generalize Ac.getD 20 undef = x20
   generalize Ac.getD 21 undef = x21
   generalize Ac.getD 22 undef = x22
   generalize Ac.getD 23 undef = x23
   generalize Ac.getD 24 undef = x24
   generalize Ac.getD 25 undef = x25
   generalize Ac.getD 26 undef = x26
   generalize Ac.getD 27 undef = x27
   have HSl : Hid (∀ k, k < W0.heap.size → Sk A T.rules.length w' k) := hide AL.out
   clear h1 AL
   have BM : Hid (Sk A T.rules.length w' tb) := hide (HSl.out tb AH.out)
   have BG : Hid (∀ k, k < w.heap.size → Sk A T.rules.length w' k) := hide fun k hk => HSl.out k (Nat.lt_of_lt_of_le hk Aw.out.size)
   clear HSl
   generalize Sk A T.rules.length w' = S at *
   have HBf : Hid (∀ X, Fr (fun k => ¬ S k) w' X → Below w.heap.size w X) := hide fun X hX => Bc.out.trans (hX.below fun k hk => ⟨Nat.lt_of_lt_of_le hk Bc.out.size, fun hn => hn (BG.out k hk)⟩)
   have HXf : Hid (∀ X, Fr (fun k => ¬ S k) w' X → Fx tb 25 [.int .i64 T.lits, .slice fa T.foes.length fc, .slice ra T.rules.length rc, .slice ba T.beats.length bc] X) := hide fun X hX => Bs.out.keep (hX.block _ Bs.out.lt fun hn => hn BM.out)
   have Cf := HF.out.lim
   go_wp2_with fail
   go_loopw [30] (fun x wr => ∃ k : Nat, k ≤ F.length ∧ x = .int .i64 k ∧ Hid (En w.heap.size S A T F n (dX (F.take k) (fw T F n)) (.slice none 0 0) wr) ∧ Hid (Fr (fun k => ¬ S k) w' wr)) (fun x _ => F.length - (intOf x).toNat)
   case atStart => exact ⟨0, by omega, rfl, hide (by rw [List.take_zero, uC]; exact HE.out), hide (Fr.refl _ _)⟩
   case round =>
    obtain ⟨k, hk, rfl, HEr, HFr⟩ := hrel
    by_cases hlt : k < F.length
    · obtain ⟨x, hx⟩ := am hlt
      obtain ⟨x0, x1⟩ := HP.out.fact x (List.mem_of_getElem? hx)
      obtain ⟨xm, rfl⟩ := Int.eq_ofNat_of_zero_le x0
      have Bg : xm < n := by omega
      obtain ⟨ge, oe, rfl, cx⟩ := ((Ints.go (HBf.out wr HFr.out) HF.out).at1).get hx
      have Cp := HEr.out.bx.get (i := 11) rfl
      have co := (HEr.out.op false).get (aX Bg)
      have zo := (HEr.out.op false).frz xm
      have h2 := HEr.out.setOp false Bg 0
      have BF : Hid (En w.heap.size S A T F n (dX (F.take (k + 1)) (fw T F n)) (.slice none 0 0) (wr.setCell ⟨A.op false, xm, none⟩ (.int .i64 0))) := hide (by rw [bC hx, sY]; exact h2.1)
      have BN := hide (HFr.out.trans h2.2)
      generalize (dX (F.take k) (fw T F n)).op false xm = xo at co
      clear hx x0 x1 h2 HEr HFr
      go_wp2_with fail
      go_roundw
      case rel => exact ⟨k + 1, by omega, by go_num, BF, BN⟩
      case measure => simp [intOf]; omega
    · have Ba : Hid (Eg w.heap.size S A T F n (dE T F) wr) := hide (by
       have h3 := HEr.out
       rw [List.take_of_length_le (by omega)] at h3
       exact ⟨_, h3.congr Au.out.ms (fun _ _ _ => rfl) Au.out.op (fun s hs p hp => ⟨Au.out.cd s hs p hp, rfl⟩) Au.out.ob rfl rfl rfl rfl⟩)
      have AM := hide HFr.out
      clear HEr HFr HE
      have c2 := (HXf.out wr AM.out).get (i := 2) rfl
      go_wp2_with fail
      clear c2
      go_loopw [45] (fun x wr => ∃ k : Nat, k ≤ T.rules.length ∧ x = .int .i64 k ∧ Hid (Eg w.heap.size S A T F n (bareE T k (dE T F)) wr) ∧ Hid (Fr (fun k => ¬ S k) w' wr)) (fun x _ => T.rules.length - (intOf x).toNat)
      case atStart => exact ⟨0, by omega, rfl, Ba, AM⟩
      case round =>
       clear Ba AM
       rename World => wr2
       obtain ⟨k, hk, rfl, HEr, HFr⟩ := hrel
       by_cases hlt : k < T.rules.length
       · have As : Hid (bareE T (k + 1) (dE T F) = jc T (bareE T k (dE T F)) k) := hide jE
         generalize bareE T k (dE T F) = e1 at HEr As
         obtain ⟨r, hr⟩ := am hlt
         obtain ⟨h0, h1⟩ := HP.out.head r (List.mem_of_getElem? hr)
         obtain ⟨hm, BA⟩ := Int.eq_ofNat_of_zero_le h0
         have Aj : bS T k = !decide (r.kind = 3) := by unfold bS; rw [Int.toNat_natCast, hr]; rfl
         have Bj : az T k = r.body := by unfold az; rw [Int.toNat_natCast, hr]; rfl
         obtain ⟨gr, go, bd, bp, rfl, BD, x0, x1, x2, -, Bh, AV⟩ := dI (TR.keep (HBf.out wr2 HFr.out).block HT.out).rules hr
         rw [BA] at x1
         have AN := ae wr2 (.cells #[.int .i64 r.kind, .int .i64 hm, .slice bd r.body.length bp] 114)
         have HQ : Hid (Fx wr2.heap.size 114 [.int .i64 r.kind, .int .i64 hm, .slice bd r.body.length bp] (wr2.alloc (.cells #[.int .i64 r.kind, .int .i64 hm, .slice bd r.body.length bp] 114))) := hide (heap_alloc_new wr2 _)
         have HEq := hide (HEr.out.go AN)
         have HFq := hide (HFr.out.trans (Fr.of_below AN))
         have Bw := hide Aj
         have Bk := hide Bj
         have HL := hide hlt
         clear hr h0 h1 BA AN AV HEr HFr BD Aj Bj
         go_upto_region 11 with fail
         clear x0 x1 x2
         generalize wr2.alloc (.cells #[.int .i64 r.kind, .int .i64 hm, .slice bd r.body.length bp] 114) = wq at *
         obtain ⟨qr, AX⟩ : ∃ qr, wr2.heap.size = qr := ⟨_, rfl⟩
         rw [AX] at HQ ⊢
         clear AX
         have q0 := HQ.out.get (i := 0) rfl
         have q1 := HQ.out.get (i := 1) rfl
         have q2 := HQ.out.get (i := 2) rfl
         have CT := hide (fh (w := wq) (k := r.kind) (h := (hm : Int)) (v := .slice bd r.body.length bp))
         have Av : Hid (∀ X, Below wq.heap.size wq X → X.cell? ⟨qr, 2, none⟩ = some (.slice bd r.body.length bp)) := hide fun X hX => (HQ.out.keep (hX.block _ HQ.out.lt)).get (i := 2) rfl
         cases htk : decide (r.kind = 3) with
         | true =>
          have Ae : Hid (jc T e1 k = e1) := hide (by unfold jc; rw [Bw.out, htk]; rfl)
          rw [htk] at CT
          clear htk
          go_wp2_with (go_at_call 176; refine CT.out.mono ?_; rintro _ w5 ⟨rfl, hb⟩; have Ai := hide hb; clear hb)
          go_roundw
          case rel => exact ⟨k + 1, by have := HL.out; omega, by go_num, hide (by rw [As.out, Ae.out]; exact HEq.out.go Ai.out), hide (HFq.out.trans (Fr.of_below Ai.out))⟩
          case measure => have := HL.out; simp [intOf]; omega
         | false =>
          have AF : Hid (bS T k = true) := hide (by rw [Bw.out, htk]; rfl)
          rw [htk] at CT
          clear htk
          by_cases he : r.body.length = 0
          · have Ao : r.body.isEmpty = true := by rw [List.isEmpty_iff]; exact List.eq_nil_of_length_eq_zero he
            have Ae : Hid (jc T e1 k = defendE T e1 k) := hide (by unfold jc; rw [AF.out, Bk.out, Ao]; rfl)
            have AG : ((r.body.length : Int) == 0) = true := by simpa using he
            clear Ao
            rw [he] at CT q2 Av Bh AG
            go_wp2_with (first | (go_at_call 176; refine CT.out.mono ?_; rintro _ w5 ⟨rfl, hb⟩; have Ai := hide hb; have k2 := Av.out w5 hb; have CD := hide (nU (HEq.out.go hb) HL.out AF.out); clear hb) | (go_at_call 179; refine CD.out.mono ?_; rintro _ w6 ⟨rfl, Be, Bf⟩; have BO := hide Be; have BE := hide Bf; clear Be Bf))
            go_roundw
            case rel => exact ⟨k + 1, by have := HL.out; omega, by go_num, hide (by rw [As.out, Ae.out]; exact BO.out), hide ((HFq.out.trans (Fr.of_below Ai.out)).trans BE.out)⟩
            case measure => have := HL.out; simp [intOf]; omega
          · have Ao : r.body.isEmpty = false := by cases hb : r.body with
             | nil => rw [hb] at he; simp at he
             | cons _ _ => rfl
            have Ae : Hid (jc T e1 k = e1) := hide (by unfold jc; rw [AF.out, Bk.out, Ao]; rfl)
            have AG : ((r.body.length : Int) == 0) = false := by simpa using he
            have BH : (r.body.length == 0) = false := by simpa using he
            obtain ⟨bl, BC⟩ : ∃ bl, r.body.length = bl := ⟨_, rfl⟩
            rw [BC] at Av he AG BH CT q2 Bh
            clear Ao
            go_wp2_with (go_at_call 176; refine CT.out.mono ?_; rintro _ w5 ⟨rfl, hb⟩; have Ai := hide hb; have k2 := Av.out w5 hb; clear hb)
            go_roundw
            case rel => exact ⟨k + 1, by have := HL.out; omega, by go_num, hide (by rw [As.out, Ae.out]; exact HEq.out.go Ai.out), hide (HFq.out.trans (Fr.of_below Ai.out))⟩
            case measure => have := HL.out; simp [intOf]; omega
       · have Bv : k = T.rules.length := by omega
         have CB := hide (tz HEr.out)
         have AY : Hid (oP T F n = { beginE T F n (bareE T k (dE T F)) with up := 0 }) := hide (by rw [Bv]; rfl)
         clear Bv
         generalize beginE T F n (bareE T k (dE T F)) = e3 at CB AY
         clear HEr
         go_upto_region 15 with (go_at_call 180; refine CB.out.mono ?_; rintro _ w7 ⟨rfl, Bx, Bt⟩; have Bb := hide Bx; have Bo := hide (HFr.out.trans Bt); clear Bx Bt)
         obtain ⟨BZ, At⟩ := Bb.out
         have BS := At.bx.get (i := 21) rfl
         have BV := At.bx.frz 21
         have h8 := At.setUp 0
         have BR : Hid (Eg w.heap.size S A T F n (oP T F n) (w7.setCell ⟨A.K, 21, none⟩ (.int .i64 0))) := hide (by rw [AY.out]; exact ⟨_, h8.1⟩)
         have BP := hide (Bo.out.trans h8.2)
         generalize e3.up = u3 at BS
         clear At h8 Bb Bo CB HFr
         go_wp2_with fail
         go_ret
         exact ⟨A, S, rfl, BR.out, HBf.out _ BP.out⟩
end Go.Proofs.YtmlhcncagdfjfaaGreat.Fa
