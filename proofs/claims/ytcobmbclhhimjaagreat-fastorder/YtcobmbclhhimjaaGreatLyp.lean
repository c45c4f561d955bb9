/- lay: its parts, plain. -/
import Derived.Test.YtcobmbclhhimjaaGreatNwS
import Derived.Test.YtcobmbclhhimjaaGreatNwA
namespace Go.Proofs.YtcobmbclhhimjaaGreat.Fa
open Go.RowKit Rg

/-- What a part of the engine waits by, between two marks. -/
structure Wt (b : Bool) (T : Th) (n lo hi us ms rr op : Nat) (W : World) : Prop where
  u : LL (fun k => lo ≤ k ∧ k < hi ∧ k ≠ ms ∧ k ≠ rr ∧ k ≠ op) (useK T (kW b) T.rules.length) n us W
  m : Fx ms 3 (rowI T.rules.length (msK T (kW b) T.rules.length)) W
  r : Fx rr 4 (rowB T.rules.length fun _ => false) W
  o : Fx op 3 (rowI n (opZ T (kL b) (opK T (kL b) T.rules.length) T.rules.length)) W
  lo : lo ≤ ms ∧ lo ≤ rr ∧ lo ≤ op
  hi : ms < hi ∧ rr < hi ∧ op < hi
  ne : ms ≠ op
section
variable {b : Bool} {T : Th} {F : List Int} {n lo hi us ms rr op : Nat} {W W' : World}
theorem Wt.keep (h : Wt b T n lo hi us ms rr op W) (hh : hi ≤ W.heap.size) (hb : Below W.heap.size W W') : Wt b T n lo hi us ms rr op W' :=
  ⟨h.u.keep fun k hk => hb.block k (by omega), h.m.keep (hb.block _ h.m.lt), h.r.keep (hb.block _ h.r.lt), h.o.keep (hb.block _ h.o.lt), h.lo, h.hi, h.ne⟩
theorem Wt.of {q : Nat} {H : Nat → List (List Int)} {vs : Nat → List Value} (h : Nw lo q us ms rr op n T.rules.length (msK T (kW b) T.rules.length) (opZ T (kL b) (opK T (kL b) T.rules.length) T.rules.length) H vs W) (hu : ∀ z : Nat, z < n → (H 0).getD z [] = useK T (kW b) T.rules.length z) : Wt b T n lo W.heap.size us ms rr op W := by
  have hfu := h.h3.fx 0 (by decide)
  refine ⟨⟨⟨h.h3.lo 0 (by decide), hfu.lt, fx_ne hfu h.fm (by decide), fx_ne hfu h.fr (by decide), fx_ne hfu h.fo (by decide)⟩, vs 0, hfu, h.h3.vl 0 (by decide), fun i hi => ?_⟩, h.fm, h.fr, h.fo, ⟨h.lo.2.1, h.lo.2.2.1, h.lo.2.2.2⟩, ⟨h.fm.lt, h.fr.lt, h.fo.lt⟩, h.ne⟩
  obtain ⟨l, a, k, h1, h2, -, h4⟩ := h.h3.at (c := 0) (by decide) hi
  have e : l = useK T (kW b) T.rules.length i := by
    have := hu i hi
    rw [List.getD_eq_getElem?_getD, h1] at this
    exact this
  subst e
  refine ⟨a, k, h2, owns_at1 h4, fun g o e2 _ => ?_⟩
  have hob : Value.ownBlock (.slice a (useK T (kW b) T.rules.length i).length k) = some g := by rw [e2]; rfl
  have hlt := h4.lt g hob
  have hna := h.na i _ h2
  refine ⟨hlt.1, hlt.2, fun e => hna.1 (e ▸ hob), fun e => own_fx h4 h.fr (by decide) (e ▸ hob), fun e => hna.2 (e ▸ hob)⟩
/-- The blocks that are written. -/
def Mu (A : Ad) (R : Nat) (k : Nat) : Prop := (∃ b, k = A.ms b ∨ k = A.rr b ∨ k = A.op b) ∨ (∃ s, s < R ∧ k = A.cr s) ∨ k = A.ob ∨ k = A.mq
/-- All the parts. -/
structure Lp (N0 : Nat) (A : Ad) (T : Th) (F : List Int) (n : Nat) (W : World) : Prop where
  us : ∀ b, LL (fun k => N0 ≤ k ∧ k < W.heap.size ∧ k ≠ A.K ∧ ¬ Mu A T.rules.length k) (useK T (kW b) T.rules.length) n (A.us b) W
  lx : Fx A.cl 122 ((List.range T.rules.length).map fun s : Nat => sl (A.cr s) (rivalsL T (headOf T s)).length) W
  ms : ∀ b, Fx (A.ms b) 3 (rowI T.rules.length (msK T (kW b) T.rules.length)) W
  rr : ∀ b, Fx (A.rr b) 4 (rowB T.rules.length fun _ => false) W
  op : ∀ b, Fx (A.op b) 3 (rowI n (opZ T (kL b) (opK T (kL b) T.rules.length) T.rules.length)) W
  cr : ∀ s : Nat, s < T.rules.length → Fx (A.cr s) 124 (clsL (rivalsL T (headOf T s)) (cdK T T.rules.length s) fun _ => false) W
  ob : Fx A.ob 3 (rowI n (obK T F n)) W
  mq : Fx A.mq 77 (rowU n fun _ => 0) W
  lo : ∀ k, Mu A T.rules.length k → N0 ≤ k
  di : Di A T.rules.length
theorem Lp.keep {N0 : Nat} {A : Ad} (h : Lp N0 A T F n W) (hb : Below W.heap.size W W') : Lp N0 A T F n W' :=
  have k : ∀ {g t : Nat} {xs : List Value}, Fx g t xs W → Fx g t xs W' := fun hf => hf.keep (hb.block _ hf.lt)
  ⟨fun b => ((h.us b).keep fun k hk => hb.block k hk.2.1).sub fun _ hk => ⟨hk.1, Nat.lt_of_lt_of_le hk.2.1 hb.size, hk.2.2⟩, k h.lx, fun b => k (h.ms b), fun b => k (h.rr b), fun b => k (h.op b), fun s hs => k (h.cr s hs), k h.ob, k h.mq, h.lo, h.di⟩
theorem Lp.key {N0 : Nat} {A : Ad} (h : Lp N0 A T F n W) : Lp N0 { A with K := W.heap.size } T F n W :=
  ⟨fun b => (h.us b).sub fun _ hk => ⟨hk.1, hk.2.1, fun e => Nat.ne_of_lt hk.2.1 e, hk.2.2.2⟩, h.lx, h.ms, h.rr, h.op, h.cr, h.ob, h.mq, h.lo, ⟨h.di.mm, h.di.oo, h.di.rr, h.di.mo, h.di.mb, h.di.ob, h.di.cc⟩⟩
def sel {α : Type} (x y : α) (b : Bool) : α := if b then y else x
abbrev mkA (K : Nat) (fa ra ba : Option Addr) (fc rc bc rl tm rv fm us0 ms0 rr0 op0 us1 ms1 rr1 op1 cl ob mq : Nat) (cr : Nat → Nat) : Ad := ⟨K, fa, ra, ba, fc, rc, bc, rl, tm, rv, fm, sel us0 us1, sel ms0 ms1, sel rr0 rr1, sel op0 op1, cl, ob, mq, cr⟩
theorem apart2 {k m l h l' h' : Nat} (a : l ≤ k ∧ k < h) (b : l' ≤ m ∧ m < h') (d : h ≤ l' ∨ h' ≤ l) : k ≠ m := by omega
theorem Lp.of {N0 K : Nat} {fa ra ba : Option Addr} {fc rc bc rl tm rv fm us0 ms0 rr0 op0 us1 ms1 rr1 op1 cl ob mq : Nat} {cr : Nat → Nat} {l0 h0 l1 h1 l2 h2 l3 h3 l4 h4 : Nat} (hK : K < N0) (w0 : Wt false T n l0 h0 us0 ms0 rr0 op0 W) (w1 : Wt true T n l1 h1 us1 ms1 rr1 op1 W) (cz : Cz l2 cl cr T T.rules.length (cdK T T.rules.length) W) (hc : ∀ s, s < T.rules.length → cr s < h2) (fo : Fx ob 3 (rowI n (obK T F n)) W) (ho : l3 ≤ ob ∧ ob < h3) (fq : Fx mq 77 (rowU n fun _ => 0) W) (hq : l4 ≤ mq ∧ mq < h4)
    (n0 : N0 ≤ l0) (n1 : N0 ≤ l1) (n2 : N0 ≤ l2) (n3 : N0 ≤ l3) (n4 : N0 ≤ l4) (m0 : h0 ≤ W.heap.size) (m1 : h1 ≤ W.heap.size)
    (d01 : h0 ≤ l1 ∨ h1 ≤ l0) (d02 : h0 ≤ l2 ∨ h2 ≤ l0) (d03 : h0 ≤ l3 ∨ h3 ≤ l0) (d04 : h0 ≤ l4 ∨ h4 ≤ l0) (d12 : h1 ≤ l2 ∨ h2 ≤ l1) (d13 : h1 ≤ l3 ∨ h3 ≤ l1) (d14 : h1 ≤ l4 ∨ h4 ≤ l1) :
    Lp N0 (mkA K fa ra ba fc rc bc rl tm rv fm us0 ms0 rr0 op0 us1 ms1 rr1 op1 cl ob mq cr) T F n W := by
  have a0 := w0.lo
  have b0 := w0.hi
  have e0 := w0.ne
  have a1 := w1.lo
  have b1 := w1.hi
  have e1 := w1.ne
  have a2 := cz.lo.2
  have c2 : ∀ s, s < T.rules.length → l2 ≤ cr s ∧ cr s < h2 := fun s hs => ⟨a2 s hs, hc s hs⟩
  have M0 : ∀ k, l0 ≤ k ∧ k < h0 ∧ k ≠ ms0 ∧ k ≠ rr0 ∧ k ≠ op0 → ¬ Mu (mkA K fa ra ba fc rc bc rl tm rv fm us0 ms0 rr0 op0 us1 ms1 rr1 op1 cl ob mq cr) T.rules.length k := by
    rintro k ⟨k1, k2, k3, k4, k5⟩ (⟨b, hb⟩ | ⟨s, hs, e⟩ | e | e)
    · cases b
      · rcases hb with e | e | e
        · exact k3 e
        · exact k4 e
        · exact k5 e
      · rcases hb with e | e | e
        · exact apart2 ⟨k1, k2⟩ ⟨a1.1, b1.1⟩ d01 e
        · exact apart2 ⟨k1, k2⟩ ⟨a1.2.1, b1.2.1⟩ d01 e
        · exact apart2 ⟨k1, k2⟩ ⟨a1.2.2, b1.2.2⟩ d01 e
    · exact apart2 ⟨k1, k2⟩ (c2 s hs) d02 e
    · exact apart2 ⟨k1, k2⟩ ho d03 e
    · exact apart2 ⟨k1, k2⟩ hq d04 e
  have M1 : ∀ k, l1 ≤ k ∧ k < h1 ∧ k ≠ ms1 ∧ k ≠ rr1 ∧ k ≠ op1 → ¬ Mu (mkA K fa ra ba fc rc bc rl tm rv fm us0 ms0 rr0 op0 us1 ms1 rr1 op1 cl ob mq cr) T.rules.length k := by
    rintro k ⟨k1, k2, k3, k4, k5⟩ (⟨b, hb⟩ | ⟨s, hs, e⟩ | e | e)
    · cases b
      · rcases hb with e | e | e
        · exact apart2 ⟨k1, k2⟩ ⟨a0.1, b0.1⟩ d01.symm e
        · exact apart2 ⟨k1, k2⟩ ⟨a0.2.1, b0.2.1⟩ d01.symm e
        · exact apart2 ⟨k1, k2⟩ ⟨a0.2.2, b0.2.2⟩ d01.symm e
      · rcases hb with e | e | e
        · exact k3 e
        · exact k4 e
        · exact k5 e
    · exact apart2 ⟨k1, k2⟩ (c2 s hs) d12 e
    · exact apart2 ⟨k1, k2⟩ ho d13 e
    · exact apart2 ⟨k1, k2⟩ hq d14 e
  refine ⟨fun b => ?_, ?_, fun b => ?_, fun b => ?_, fun b => ?_, cz.cs, fo, fq, ?_, ?_⟩
  · cases b
    · exact w0.u.sub fun k hk => ⟨Nat.le_trans n0 hk.1, Nat.lt_of_lt_of_le hk.2.1 m0, fun e => (by have e : k = K := e; have := hk.1; omega), M0 k hk⟩
    · exact w1.u.sub fun k hk => ⟨Nat.le_trans n1 hk.1, Nat.lt_of_lt_of_le hk.2.1 m1, fun e => (by have e : k = K := e; have := hk.1; omega), M1 k hk⟩
  · have := cz.fx
    have e : ((List.range T.rules.length).map fun s : Nat => if s < T.rules.length then sl (cr s) (rivalsL T (headOf T s)).length else .slice none 0 0) = (List.range T.rules.length).map fun s : Nat => sl (cr s) (rivalsL T (headOf T s)).length := List.map_congr_left fun s hs => if_pos (List.mem_range.1 hs)
    rw [e] at this
    exact this
  · cases b
    · exact w0.m
    · exact w1.m
  · cases b
    · exact w0.r
    · exact w1.r
  · cases b
    · exact w0.o
    · exact w1.o
  · rintro k (⟨b, hb⟩ | ⟨s, hs, e⟩ | e | e)
    · cases b
      · rcases hb with e | e | e
        · exact e ▸ Nat.le_trans n0 a0.1
        · exact e ▸ Nat.le_trans n0 a0.2.1
        · exact e ▸ Nat.le_trans n0 a0.2.2
      · rcases hb with e | e | e
        · exact e ▸ Nat.le_trans n1 a1.1
        · exact e ▸ Nat.le_trans n1 a1.2.1
        · exact e ▸ Nat.le_trans n1 a1.2.2
    · exact e ▸ Nat.le_trans n2 (c2 s hs).1
    · exact e ▸ Nat.le_trans n3 ho.1
    · exact e ▸ Nat.le_trans n4 hq.1
  · refine ⟨fun b c e => ?_, fun b c e => ?_, fun b c e => ?_, fun b c e => ?_, fun b e => ?_, fun b e => ?_, cz.inj⟩
    · cases b <;> cases c
      · rfl
      · exact absurd e (apart2 ⟨a0.1, b0.1⟩ ⟨a1.1, b1.1⟩ d01)
      · exact absurd e.symm (apart2 ⟨a0.1, b0.1⟩ ⟨a1.1, b1.1⟩ d01)
      · rfl
    · cases b <;> cases c
      · rfl
      · exact absurd e (apart2 ⟨a0.2.2, b0.2.2⟩ ⟨a1.2.2, b1.2.2⟩ d01)
      · exact absurd e.symm (apart2 ⟨a0.2.2, b0.2.2⟩ ⟨a1.2.2, b1.2.2⟩ d01)
      · rfl
    · cases b <;> cases c
      · rfl
      · exact absurd e (apart2 ⟨a0.2.1, b0.2.1⟩ ⟨a1.2.1, b1.2.1⟩ d01)
      · exact absurd e.symm (apart2 ⟨a0.2.1, b0.2.1⟩ ⟨a1.2.1, b1.2.1⟩ d01)
      · rfl
    · cases b <;> cases c
      · exact e0 e
      · exact apart2 ⟨a0.1, b0.1⟩ ⟨a1.2.2, b1.2.2⟩ d01 e
      · exact apart2 ⟨a1.1, b1.1⟩ ⟨a0.2.2, b0.2.2⟩ d01.symm e
      · exact e1 e
    · cases b
      · exact apart2 ⟨a0.1, b0.1⟩ ho d03 e
      · exact apart2 ⟨a1.1, b1.1⟩ ho d13 e
    · cases b
      · exact apart2 ⟨a0.2.2, b0.2.2⟩ ho d03 e
      · exact apart2 ⟨a1.2.2, b1.2.2⟩ ho d13 e
end
end Go.Proofs.YtcobmbclhhimjaaGreat.Fa
/- lay: the engine as it is made, plain. -/
namespace Go.Proofs.YtcobmbclhhimjaaGreat.Fa
open Go.RowKit Rg

def baseE (T : Th) (F : List Int) (n : Nat) : Es where
  ms := fun b => msK T (kW b) T.rules.length
  rf := fun _ _ => false
  op := fun b => opZ T (kL b) (opK T (kL b) T.rules.length) T.rules.length
  cd := cdK T T.rules.length
  cb := fun _ _ => false
  ob := obK T F n
  mq := fun _ => 0
  td := []
  tk := 0
  up := 0
def Sk (A : Ad) (R : Nat) (W : World) (k : Nat) : Prop := k < W.heap.size ∧ k ≠ A.K ∧ ¬ Mu A R k
section
variable {T : Th} {F : List Int} {n N N0 : Nat} {A : Ad} {W W' : World}
/-- What newIndex made, as it stays. -/
structure Iy (N N0 : Nat) (A : Ad) (T : Th) (F : List Int) (n : Nat) (W : World) : Prop where
  ta : TA N W T A.fa A.fc A.ra A.rc A.ba A.bc
  a : LL (fun k => k < N0) (rulesL T kA) n A.rl W
  t : LL (fun k => k < N0) (rulesL T kT) n A.tm W
  v : LL (fun k => k < N0) (rivalsL T) n A.rv W
  f : Fx A.fm 4 (rowB n (firmB T F)) W
  ff : A.fm < N0
theorem En.of (hp : Pf T F n) (hl : Lp N0 A T F n W) (hi : Iy N N0 A T F n W) (hN : N ≤ N0) (hK : N0 ≤ A.K) (hx : Fx A.K 74 (boxL A T n T.rules.length (.slice none 0 0) 0 0) W) : En N (Sk A T.rules.length W) A T F n (baseE T F n) (.slice none 0 0) W := by
  have hKs := hx.lt
  have low : ∀ k, k < N0 → Sk A T.rules.length W k := fun k hk => ⟨by omega, by omega, fun h => by have := hl.lo k h; omega⟩
  have hcl : Sk A T.rules.length W A.cl := by
    refine ⟨hl.lx.lt, fx_ne hl.lx hx (by decide), ?_⟩
    rintro (⟨b, e | e | e⟩ | ⟨s, hs, e⟩ | e | e)
    · exact fx_ne hl.lx (hl.ms b) (by decide) e
    · exact fx_ne hl.lx (hl.rr b) (by decide) e
    · exact fx_ne hl.lx (hl.op b) (by decide) e
    · exact fx_ne hl.lx (hl.cr s hs) (by decide) e
    · exact fx_ne hl.lx hl.ob (by decide) e
    · exact fx_ne hl.lx hl.mq (by decide) e
  refine ⟨hp, ⟨hi.ta, fun g hg => low g (by omega), hi.a.sub low, hi.t.sub low, hi.v.sub low, low _ hi.ff, hi.f, fun b => (hl.us b).sub fun k hk => ⟨hk.2.1, hk.2.2.1, hk.2.2.2⟩, hcl, hl.lx⟩, hl.di, ⟨fun x hx => (by cases hx), List.Pairwise.nil, fun q => ?_, Nat.le_refl _⟩, hx, hl.ms, hl.rr, hl.op, hl.cr, hl.ob, hl.mq, ⟨rfl, .inl ⟨rfl, rfl⟩⟩, ?_⟩
  · show isByte 0
    unfold isByte
    omega
  · intro k hk
    refine ⟨hk.1, hk.2.1, fun b => ⟨fun e => hk.2.2 (.inl ⟨b, .inl e⟩), fun e => hk.2.2 (.inl ⟨b, .inr (.inl e)⟩), fun e => hk.2.2 (.inl ⟨b, .inr (.inr e)⟩)⟩, fun s hs e => hk.2.2 (.inr (.inl ⟨s, hs, e⟩)), fun e => hk.2.2 (.inr (.inr (.inl e))), fun e => hk.2.2 (.inr (.inr (.inr e))), fun e => by cases e⟩
/-- The engine speaks of its rows alone. -/
theorem En.congr {S : Nat → Prop} {e e' : Es} {tv : Value} (h : En N S A T F n e tv W) (h1 : ∀ b (r : Nat), r < T.rules.length → e.ms b r = e'.ms b r) (h2 : ∀ b (r : Nat), r < T.rules.length → e.rf b r = e'.rf b r) (h3 : ∀ b (q : Nat), q < n → e.op b q = e'.op b q) (h4 : ∀ s : Nat, s < T.rules.length → ∀ p ∈ rivalsL T (headOf T s), e.cd s p = e'.cd s p ∧ e.cb s p = e'.cb s p) (h5 : ∀ q : Nat, q < n → e.ob q = e'.ob q) (h6 : e.mq = e'.mq) (h7 : e.td = e'.td) (h8 : e.tk = e'.tk) (h9 : e.up = e'.up) : En N S A T F n e' tv W := by
  have rI : ∀ {m : Nat} {f g : Int → Int}, (∀ i : Nat, i < m → f i = g i) → rowI m f = rowI m g := fun h => List.map_congr_left fun i hi => by rw [h i (List.mem_range.1 hi)]
  have rB : ∀ {m : Nat} {f g : Int → Bool}, (∀ i : Nat, i < m → f i = g i) → rowB m f = rowB m g := fun h => List.map_congr_left fun i hi => by rw [h i (List.mem_range.1 hi)]
  have hh : ∀ q t, has e q t = has e' q t := fun q t => by unfold has; rw [h6]
  refine ⟨h.pf, h.ro, h.di, ⟨fun x hx => ?_, by rw [← h7]; exact h.tok.nd, fun q => by rw [← h6]; exact h.tok.by_ q, by rw [← h7, ← h8]; exact h.tok.tk⟩, by rw [← h8, ← h9]; exact h.bx, fun b => by rw [← rI (h1 b)]; exact h.ms b, fun b => by rw [← rB (h2 b)]; exact h.rf b, fun b => by rw [← rI (h3 b)]; exact h.op b, fun s hs => by rw [← clsL_congr (h4 s hs)]; exact h.cr s hs, by rw [← rI h5]; exact h.ob, by rw [← h6]; exact h.mq, by rw [← h7]; exact h.td, h.kp⟩
  rw [← h7] at hx
  have := h.tok.inn x hx
  rw [hh] at this
  exact this
end
/-- What each part of the engine comes to. -/
def prL (T : Th) (F : List Int) (fa ra ba : Option Addr) (fc rc bc rl tm rv fm tb n N0 : Nat) (i : Nat) (v : Value) (W : World) (lo hi : Nat) : Prop := match i with
  | 0 | 5 | 7 => v = .agg (ixL T fa ra ba fc rc bc rl tm rv fm n).toArray
  | 1 | 3 => v = tv T fa fc ra rc ba bc
  | 9 => v = ptr tb
  | 10 => v = .int .i64 T.lits
  | 2 => ∃ us ms rr op, v = .agg (wtL us ms rr op n T.rules.length).toArray ∧ Wt false T n lo hi us ms rr op W
  | 4 => ∃ us ms rr op, v = .agg (wtL us ms rr op n T.rules.length).toArray ∧ Wt true T n lo hi us ms rr op W
  | 6 => ∃ cl cr, v = sl cl T.rules.length ∧ Cz lo cl cr T T.rules.length (cdK T T.rules.length) W ∧ ∀ s, s < T.rules.length → cr s < hi
  | 8 => ∃ g, v = sl g n ∧ Fx g 3 (rowI n (obK T F n)) W ∧ lo ≤ g ∧ g < hi
  | 11 => ∃ g, v = sl g n ∧ Fx g 77 (rowU n fun _ => 0) W ∧ lo ≤ g ∧ g < hi
  | 12 => ∃ us0 ms0 rr0 op0 us1 ms1 rr1 op1 cl ob mq cr, v = .agg (boxL (mkA tb fa ra ba fc rc bc rl tm rv fm us0 ms0 rr0 op0 us1 ms1 rr1 op1 cl ob mq cr) T n T.rules.length (.slice none 0 0) 0 0).toArray ∧ Lp N0 (mkA tb fa ra ba fc rc bc rl tm rv fm us0 ms0 rr0 op0 us1 ms1 rr1 op1 cl ob mq cr) T F n W
  | 13 | 14 => ∃ K us0 ms0 rr0 op0 us1 ms1 rr1 op1 cl ob mq cr, v = ptr K ∧ N0 ≤ K ∧ Fx K 74 (boxL (mkA K fa ra ba fc rc bc rl tm rv fm us0 ms0 rr0 op0 us1 ms1 rr1 op1 cl ob mq cr) T n T.rules.length (.slice none 0 0) 0 0) W ∧ Lp N0 (mkA K fa ra ba fc rc bc rl tm rv fm us0 ms0 rr0 op0 us1 ms1 rr1 op1 cl ob mq cr) T F n W
  | _ => True
theorem prL_go {T : Th} {F : List Int} {fa ra ba : Option Addr} {fc rc bc rl tm rv fm tb n N0 : Nat} : ∀ i v W W' lo hi, prL T F fa ra ba fc rc bc rl tm rv fm tb n N0 i v W lo hi → hi ≤ W.heap.size → Below W.heap.size W W' → prL T F fa ra ba fc rc bc rl tm rv fm tb n N0 i v W' lo hi := by
  intro i v W W' lo hi h hh hb
  have k : ∀ {g t : Nat} {xs : List Value}, Fx g t xs W → Fx g t xs W' := fun hf => hf.keep (hb.block _ hf.lt)
  unfold prL at *
  split at h
  all_goals first
    | exact h
    | (obtain ⟨us, ms, rr, op, a, b⟩ := h; exact ⟨us, ms, rr, op, a, b.keep hh hb⟩)
    | (obtain ⟨cl, cr, a, b, c⟩ := h; exact ⟨cl, cr, a, b.go hb, c⟩)
    | (obtain ⟨g, a, b, c⟩ := h; exact ⟨g, a, k b, c⟩)
    | (obtain ⟨u0, m0, r0, o0, u1, m1, r1, o1, cl, ob, mq, cr, a, b⟩ := h; exact ⟨u0, m0, r0, o0, u1, m1, r1, o1, cl, ob, mq, cr, a, b.keep hb⟩)
    | (obtain ⟨K, u0, m0, r0, o0, u1, m1, r1, o1, cl, ob, mq, cr, a, b, c, d⟩ := h; exact ⟨K, u0, m0, r0, o0, u1, m1, r1, o1, cl, ob, mq, cr, a, b, k c, d.keep hb⟩)
    | trivial
end Go.Proofs.YtcobmbclhhimjaaGreat.Fa
