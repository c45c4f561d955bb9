/- lay: the engine as it is made, plain. -/
import Derived.Test.YthifoamnmhlghaaGreatLyp
namespace Go.Proofs.YthifoamnmhlghaaGreat.Fa
open Go.RowKit Rg

def baseE (T : Th) (F : List Int) (n : Nat) : Es where
  ms := fun b => msK T (kW b) T.rules.length
  rf := fun _ _ => false
  op := fun b => opZ T (kL b) (opK T (kL b) T.rules.length) T.rules.length
  cd := cdK T T.rules.length
  cb := fun _ _ => false
  ob := obK T F n
  mq := fun _ => 0
  td := []
  tk := 0
  up := 0
def Sk (A : Ad) (R : Nat) (W : World) (k : Nat) : Prop := k < W.heap.size ∧ k ≠ A.K ∧ ¬ Mu A R k
section
variable {T : Th} {F : List Int} {n N N0 : Nat} {A : Ad} {W W' : World}
/-- What newIndex made, as it stays. -/
structure Iy (N N0 : Nat) (A : Ad) (T : Th) (F : List Int) (n : Nat) (W : World) : Prop where
  ta : TA N W T A.fa A.fc A.ra A.rc A.ba A.bc
  a : LL (fun k => k < N0) (rulesL T kA) n A.rl W
  t : LL (fun k => k < N0) (rulesL T kT) n A.tm W
  v : LL (fun k => k < N0) (rivalsL T) n A.rv W
  f : Fx A.fm 4 (rowB n (firmB T F)) W
  ff : A.fm < N0
theorem En.of (hp : Pf T F n) (hl : Lp N0 A T F n W) (hi : Iy N N0 A T F n W) (hN : N ≤ N0) (hK : N0 ≤ A.K) (hx : Fx A.K 52 (boxL A T n T.rules.length (.slice none 0 0) 0 0) W) : En N (Sk A T.rules.length W) A T F n (baseE T F n) (.slice none 0 0) W := by
  have hKs := hx.lt
  have low : ∀ k, k < N0 → Sk A T.rules.length W k := fun k hk => ⟨by omega, by omega, fun h => by have := hl.lo k h; omega⟩
  have hcl : Sk A T.rules.length W A.cl := by
    refine ⟨hl.lx.lt, fx_ne hl.lx hx (by decide), ?_⟩
    rintro (⟨b, e | e | e⟩ | ⟨s, hs, e⟩ | e | e)
    · exact fx_ne hl.lx (hl.ms b) (by decide) e
    · exact fx_ne hl.lx (hl.rr b) (by decide) e
    · exact fx_ne hl.lx (hl.op b) (by decide) e
    · exact fx_ne hl.lx (hl.cr s hs) (by decide) e
    · exact fx_ne hl.lx hl.ob (by decide) e
    · exact fx_ne hl.lx hl.mq (by decide) e
  refine ⟨hp, ⟨hi.ta, fun g hg => low g (by omega), hi.a.sub low, hi.t.sub low, hi.v.sub low, low _ hi.ff, hi.f, fun b => (hl.us b).sub fun k hk => ⟨hk.2.1, hk.2.2.1, hk.2.2.2⟩, hcl, hl.lx⟩, hl.di, ⟨fun x hx => (by cases hx), List.Pairwise.nil, fun q => ?_, Nat.le_refl _⟩, hx, hl.ms, hl.rr, hl.op, hl.cr, hl.ob, hl.mq, ⟨rfl, .inl ⟨rfl, rfl⟩⟩, ?_⟩
  · show isByte 0
    unfold isByte
    omega
  · intro k hk
    refine ⟨hk.1, hk.2.1, fun b => ⟨fun e => hk.2.2 (.inl ⟨b, .inl e⟩), fun e => hk.2.2 (.inl ⟨b, .inr (.inl e)⟩), fun e => hk.2.2 (.inl ⟨b, .inr (.inr e)⟩)⟩, fun s hs e => hk.2.2 (.inr (.inl ⟨s, hs, e⟩)), fun e => hk.2.2 (.inr (.inr (.inl e))), fun e => hk.2.2 (.inr (.inr (.inr e))), fun e => by cases e⟩
/-- The engine speaks of its rows alone. -/
theorem En.congr {S : Nat → Prop} {e e' : Es} {tv : Value} (h : En N S A T F n e tv W) (h1 : ∀ b (r : Nat), r < T.rules.length → e.ms b r = e'.ms b r) (h2 : ∀ b (r : Nat), r < T.rules.length → e.rf b r = e'.rf b r) (h3 : ∀ b (q : Nat), q < n → e.op b q = e'.op b q) (h4 : ∀ s : Nat, s < T.rules.length → ∀ p ∈ rivalsL T (headOf T s), e.cd s p = e'.cd s p ∧ e.cb s p = e'.cb s p) (h5 : ∀ q : Nat, q < n → e.ob q = e'.ob q) (h6 : e.mq = e'.mq) (h7 : e.td = e'.td) (h8 : e.tk = e'.tk) (h9 : e.up = e'.up) : En N S A T F n e' tv W := by
  have rI : ∀ {m : Nat} {f g : Int → Int}, (∀ i : Nat, i < m → f i = g i) → rowI m f = rowI m g := fun h => List.map_congr_left fun i hi => by rw [h i (List.mem_range.1 hi)]
  have rB : ∀ {m : Nat} {f g : Int → Bool}, (∀ i : Nat, i < m → f i = g i) → rowB m f = rowB m g := fun h => List.map_congr_left fun i hi => by rw [h i (List.mem_range.1 hi)]
  have hh : ∀ q t, has e q t = has e' q t := fun q t => by unfold has; rw [h6]
  refine ⟨h.pf, h.ro, h.di, ⟨fun x hx => ?_, by rw [← h7]; exact h.tok.nd, fun q => by rw [← h6]; exact h.tok.by_ q, by rw [← h7, ← h8]; exact h.tok.tk⟩, by rw [← h8, ← h9]; exact h.bx, fun b => by rw [← rI (h1 b)]; exact h.ms b, fun b => by rw [← rB (h2 b)]; exact h.rf b, fun b => by rw [← rI (h3 b)]; exact h.op b, fun s hs => by rw [← clsL_congr (h4 s hs)]; exact h.cr s hs, by rw [← rI h5]; exact h.ob, by rw [← h6]; exact h.mq, by rw [← h7]; exact h.td, h.kp⟩
  rw [← h7] at hx
  have := h.tok.inn x hx
  rw [hh] at this
  exact this
end
/-- What each part of the engine comes to. -/
def prL (T : Th) (F : List Int) (fa ra ba : Option Addr) (fc rc bc rl tm rv fm tb n N0 : Nat) (i : Nat) (v : Value) (W : World) (lo hi : Nat) : Prop := match i with
  | 0 | 5 | 7 => v = .agg (ixL T fa ra ba fc rc bc rl tm rv fm n).toArray
  | 1 | 3 => v = tv T fa fc ra rc ba bc
  | 9 => v = ptr tb
  | 10 => v = .int .i64 T.lits
  | 2 => ∃ us ms rr op, v = .agg (wtL us ms rr op n T.rules.length).toArray ∧ Wt false T n lo hi us ms rr op W
  | 4 => ∃ us ms rr op, v = .agg (wtL us ms rr op n T.rules.length).toArray ∧ Wt true T n lo hi us ms rr op W
  | 6 => ∃ cl cr, v = sl cl T.rules.length ∧ Cz lo cl cr T T.rules.length (cdK T T.rules.length) W ∧ ∀ s, s < T.rules.length → cr s < hi
  | 8 => ∃ g, v = sl g n ∧ Fx g 3 (rowI n (obK T F n)) W ∧ lo ≤ g ∧ g < hi
  | 11 => ∃ g, v = sl g n ∧ Fx g 42 (rowU n fun _ => 0) W ∧ lo ≤ g ∧ g < hi
  | 12 => ∃ us0 ms0 rr0 op0 us1 ms1 rr1 op1 cl ob mq cr, v = .agg (boxL (mkA tb fa ra ba fc rc bc rl tm rv fm us0 ms0 rr0 op0 us1 ms1 rr1 op1 cl ob mq cr) T n T.rules.length (.slice none 0 0) 0 0).toArray ∧ Lp N0 (mkA tb fa ra ba fc rc bc rl tm rv fm us0 ms0 rr0 op0 us1 ms1 rr1 op1 cl ob mq cr) T F n W
  | 13 | 14 => ∃ K us0 ms0 rr0 op0 us1 ms1 rr1 op1 cl ob mq cr, v = ptr K ∧ N0 ≤ K ∧ Fx K 52 (boxL (mkA K fa ra ba fc rc bc rl tm rv fm us0 ms0 rr0 op0 us1 ms1 rr1 op1 cl ob mq cr) T n T.rules.length (.slice none 0 0) 0 0) W ∧ Lp N0 (mkA K fa ra ba fc rc bc rl tm rv fm us0 ms0 rr0 op0 us1 ms1 rr1 op1 cl ob mq cr) T F n W
  | _ => True
theorem prL_go {T : Th} {F : List Int} {fa ra ba : Option Addr} {fc rc bc rl tm rv fm tb n N0 : Nat} : ∀ i v W W' lo hi, prL T F fa ra ba fc rc bc rl tm rv fm tb n N0 i v W lo hi → hi ≤ W.heap.size → Below W.heap.size W W' → prL T F fa ra ba fc rc bc rl tm rv fm tb n N0 i v W' lo hi := by
  intro i v W W' lo hi h hh hb
  have k : ∀ {g t : Nat} {xs : List Value}, Fx g t xs W → Fx g t xs W' := fun hf => hf.keep (hb.block _ hf.lt)
  unfold prL at *
  split at h
  all_goals first
    | exact h
    | (obtain ⟨us, ms, rr, op, a, b⟩ := h; exact ⟨us, ms, rr, op, a, b.keep hh hb⟩)
    | (obtain ⟨cl, cr, a, b, c⟩ := h; exact ⟨cl, cr, a, b.go hb, c⟩)
    | (obtain ⟨g, a, b, c⟩ := h; exact ⟨g, a, k b, c⟩)
    | (obtain ⟨u0, m0, r0, o0, u1, m1, r1, o1, cl, ob, mq, cr, a, b⟩ := h; exact ⟨u0, m0, r0, o0, u1, m1, r1, o1, cl, ob, mq, cr, a, b.keep hb⟩)
    | (obtain ⟨K, u0, m0, r0, o0, u1, m1, r1, o1, cl, ob, mq, cr, a, b, c, d⟩ := h; exact ⟨K, u0, m0, r0, o0, u1, m1, r1, o1, cl, ob, mq, cr, a, b, k c, d.keep hb⟩)
    | trivial
end Go.Proofs.YthifoamnmhlghaaGreat.Fa
