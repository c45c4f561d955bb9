/- Differ: what its two runs and boxes hold, in whatever order they are made. -/
import Derived.Test.YthifoamnmhlghaaLit
import Derived.Test.YthifoamnmhlghaaInjB
import Derived.Test.YthifoamnmhlghaaFrs
import Derived.Test.YthifoamnmhlghaaSiz
namespace Go.Proofs.Ythifoamnmhlghaa.Fa
open Go.RowKit Rg

section
variable {n N0 : Nat} {m mA mB : List Int} {tvv slA slB v : Value} {X Y : World}
def Mv (n : Nat) (m : List Int) (v : Value) (W : World) : Prop := ∃ va, v = .slice va n n ∧ W.ownsRow 0 32 1 (.slice va n n) n (u8s m)
def Rm (n : Nat) (m : List Int) (v : Value) (W : World) : Prop := ∃ K va, v = ptr K ∧ W.cell? ⟨K, 18, none⟩ = some (.slice va n n) ∧ W.ownsRow 0 32 1 (.slice va n n) n (u8s m)
def Rp (n : Nat) (m : List Int) (v : Value) (W : World) : Prop := ∃ K va, v = .pointer (some ⟨K, 18, none⟩) ∧ W.cell? ⟨K, 18, none⟩ = some (.slice va n n) ∧ W.ownsRow 0 32 1 (.slice va n n) n (u8s m)
def Bx (N0 : Nat) (v : Value) (W : World) : Prop := ∃ b x, v = ptr b ∧ N0 ≤ b ∧ Fx b 28 [x] W
/-- What each operation's slot holds. -/
def prD (n : Nat) (mA mB : List Int) (tvv slA slB : Value) (N0 : Nat) : Nat → Value → World → Prop
  | 0, v, _ => v = tvv
  | 1, v, _ => v = slA
  | 2, v, W => Rm n mA v W
  | 3, v, W => Rm n mA v W
  | 4, v, W => Rp n mA v W
  | 5, v, W => Mv n mA v W
  | 6, v, _ => v = tvv
  | 7, v, _ => v = slB
  | 8, v, W => Rm n mB v W
  | 9, v, W => Rm n mB v W
  | 10, v, W => Rp n mB v W
  | 11, v, W => Mv n mB v W
  | _, v, W => Bx N0 v W
/-- What is alike of two worlds, where a box may have been filled. -/
structure Kpt (X Y : World) : Prop where
  cell : ∀ K v, X.cell? ⟨K, 18, none⟩ = some v → Y.cell? ⟨K, 18, none⟩ = some v
  own : ∀ v k xs, X.ownsRow 0 32 1 v k xs → Y.ownsRow 0 32 1 v k xs
  box : ∀ b x, Fx b 28 [x] X → ∃ y, Fx b 28 [y] Y
theorem Kpt.below (hb : Below X.heap.size X Y) : Kpt X Y := ⟨fun _ _ h => cell_onS h hb, fun _ _ _ h => owns_keep h fun g hg => hb.block g (owns_lt h hg), fun _ x h => ⟨x, h.keep (hb.block _ h.lt)⟩⟩
theorem Kpt.set {b : Nat} {x y : Value} (hx : Fx b 28 [x] X) : Kpt X (X.setCell ⟨b, 0, none⟩ y) := by
  refine ⟨fun K v h => ?_, fun v k xs h => owns_keep h fun g hg => other_set fun e => own_ne' h hx (by decide) (e ▸ hg), fun c z h => ?_⟩
  · have hne : K ≠ b := fun e => by
      subst e
      have h2 : X.heap[K]? = some (.cells [x].toArray 28 (0, 0)) := hx
      simp [World.cell?, h2] at h
    exact (World.cell?_of_block (other_set hne)).trans h
  · by_cases e : c = b
    · subst e; exact ⟨y, hx.set 0 y⟩
    · exact ⟨z, h.keep (other_set e)⟩
theorem prD_go (hk : Kpt X Y) : ∀ i, prD n mA mB tvv slA slB N0 i v X → prD n mA mB tvv slA slB N0 i v Y := by
  have a : ∀ m, Rm n m v X → Rm n m v Y := fun m ⟨K, va, h1, h2, h3⟩ => ⟨K, va, h1, hk.cell _ _ h2, hk.own _ _ _ h3⟩
  have b : ∀ m, Rp n m v X → Rp n m v Y := fun m ⟨K, va, h1, h2, h3⟩ => ⟨K, va, h1, hk.cell _ _ h2, hk.own _ _ _ h3⟩
  have c : ∀ m, Mv n m v X → Mv n m v Y := fun m ⟨va, h1, h3⟩ => ⟨va, h1, hk.own _ _ _ h3⟩
  have d : Bx N0 v X → Bx N0 v Y := fun ⟨b, x, h1, h2, h3⟩ => by obtain ⟨y, hy⟩ := hk.box _ _ h3; exact ⟨b, y, h1, h2, hy⟩
  intro i
  match i with
  | 0 => exact id
  | 1 => exact id
  | 2 => exact a mA
  | 3 => exact a mA
  | 4 => exact b mA
  | 5 => exact c mA
  | 6 => exact id
  | 7 => exact id
  | 8 => exact a mB
  | 9 => exact a mB
  | 10 => exact b mB
  | 11 => exact c mB
  | _ + 12 => exact d
abbrev dsD : List (Option Nat) := [some 24, some 25, some 26, some 27, some 28, some 29, some 30, some 31, some 32, some 33, some 34, some 35, some 10, some 11]
structure Jd (tb n : Nat) (mA mB : List Int) (tvv slA slB : Value) (W0 : World) (L : Nat → Bool) (σ : Nat → Value) (W : World) : Prop where
  low : Below W0.heap.size W0 W
  s3 : σ 3 = ptr tb
  s1 : σ 1 = slA
  s2 : σ 2 = slB
  at_ : ∀ i d, dsD.getD i none = some d → L i = true → prD n mA mB tvv slA slB W0.heap.size i (σ d) W
  ne : L 12 = true → L 13 = true → σ 10 ≠ σ 11
  c14 : L 14 = true → L 5 = true ∧ L 12 = true ∧ ∃ b, σ 10 = ptr b ∧ Fx b 28 [σ 29] W
  c15 : L 15 = true → L 11 = true ∧ L 13 = true ∧ ∃ b, σ 11 = ptr b ∧ Fx b 28 [σ 35] W
variable {tb : Nat} {W0 : World} {L : Nat → Bool} {σ : Nat → Value}
theorem ds_inj {i j d : Nat} (hi : dsD.getD i none = some d) (hj : dsD.getD j none = some d) : i = j := by
  have hi2 : i < 14 := by
    apply Classical.byContradiction
    intro h
    rw [List.getD_eq_getElem?_getD, List.getElem?_eq_none (by simp; omega)] at hi
    cases hi
  have hj2 : j < 14 := by
    apply Classical.byContradiction
    intro h
    rw [List.getD_eq_getElem?_getD, List.getElem?_eq_none (by simp; omega)] at hj
    cases hj
  have key : ∀ i j : _root_.Fin 14, dsD.getD i.val none = dsD.getD j.val none → i = j := by decide +kernel
  have := key ⟨i, hi2⟩ ⟨j, hj2⟩ (hi.trans hj.symm)
  exact congrArg (fun z : _root_.Fin 14 => z.val) this
theorem ds_free {i d : Nat} (hi : dsD.getD i none = some d) : d ≠ 1 ∧ d ≠ 2 ∧ d ≠ 3 := by
  have hi2 : i < 14 := by
    apply Classical.byContradiction
    intro h
    rw [List.getD_eq_getElem?_getD, List.getElem?_eq_none (by simp; omega)] at hi
    cases hi
  have key : ∀ i : _root_.Fin 14, (dsD.getD i.val none ≠ some 1 ∧ dsD.getD i.val none ≠ some 2 ∧ dsD.getD i.val none ≠ some 3) := by decide +kernel
  obtain ⟨h1, h2, h3⟩ := key ⟨i, hi2⟩
  refine ⟨fun e => h1 ?_, fun e => h2 ?_, fun e => h3 ?_⟩ <;> (show dsD.getD i none = _; rw [hi, e])
/-- A value more; what is made meanwhile is new. -/
theorem Jd.put (h : Jd tb n mA mB tvv slA slB W0 L σ X) {i d : Nat} (hi : dsD.getD i none = some d) (hL : L i = false) (hb : Below X.heap.size X Y) (hp : prD n mA mB tvv slA slB W0.heap.size i v Y) (hbox : i = 12 ∨ i = 13 → ∃ b, v = ptr b ∧ X.heap.size ≤ b) : Jd tb n mA mB tvv slA slB W0 (Rg2.more L i) (Rg2.laid σ (some d) v) Y := by
  obtain ⟨d1, d2, d3⟩ := ds_free hi
  have off : ∀ s, s ≠ d → Rg2.laid σ (some d) v s = σ s := fun s hs => if_neg (by intro e; cases e; exact hs rfl)
  have on : Rg2.laid σ (some d) v d = v := if_pos rfl
  have mo : ∀ j, j ≠ i → Rg2.more L i j = true → L j = true := fun j hj h0 => by
    show L j = true
    have h0 : (L j || decide (j = i)) = true := h0
    rw [decide_eq_false hj, Bool.or_false] at h0
    exact h0
  have up : ∀ j, L j = true → Rg2.more L i j = true := fun j h0 => by show (L j || decide (j = i)) = true; rw [h0]; rfl
  have hi14 : i < 14 := by
    apply Classical.byContradiction
    intro h
    rw [List.getD_eq_getElem?_getD, List.getElem?_eq_none (by simp; omega)] at hi
    cases hi
  have slot : ∀ j s, dsD.getD j none = some s → j ≠ i → s ≠ d := fun j s hj hne e => hne (ds_inj hj (by rw [e]; exact hi))
  have hk := Kpt.below hb
  have bxl : ∀ j s, dsD.getD j none = some s → j = 12 ∨ j = 13 → L j = true → ∃ b, σ s = ptr b ∧ b < X.heap.size := fun j s hj hj2 h0 => by
    have h1 := h.at_ j s hj h0
    have h1 : Bx W0.heap.size (σ s) X := by rcases hj2 with rfl | rfl <;> exact h1
    obtain ⟨b, x, e, -, hf⟩ := h1
    exact ⟨b, e, hf.lt⟩
  refine ⟨h.low.trans (hb.mono h.low.size), by rw [off 3 (Ne.symm d3)]; exact h.s3, by rw [off 1 (Ne.symm d1)]; exact h.s1, by rw [off 2 (Ne.symm d2)]; exact h.s2, fun j s hj hLj => ?_, fun h12 h13 => ?_, fun h14 => ?_, fun h15 => ?_⟩
  · by_cases e : j = i
    · subst e
      rw [hi] at hj
      cases hj
      rw [on]
      exact hp
    · rw [off s (slot j s hj e)]
      exact prD_go hk j (h.at_ j s hj (mo j e hLj))
  · by_cases e12 : i = 12
    · subst e12
      have : d = 10 := by cases hi; rfl
      subst this
      rw [on, off 11 (by decide)]
      obtain ⟨b, hv, hbl⟩ := hbox (.inl rfl)
      obtain ⟨b2, hv2, hbl2⟩ := bxl 13 11 rfl (.inr rfl) (mo 13 (by decide) h13)
      rw [hv, hv2]
      intro e
      cases e
      omega
    · by_cases e13 : i = 13
      · subst e13
        have : d = 11 := by cases hi; rfl
        subst this
        rw [on, off 10 (by decide)]
        obtain ⟨b, hv, hbl⟩ := hbox (.inr rfl)
        obtain ⟨b2, hv2, hbl2⟩ := bxl 12 10 rfl (.inl rfl) (mo 12 (by decide) h12)
        rw [hv, hv2]
        intro e
        cases e
        omega
      · rw [off 10 (slot 12 10 rfl (Ne.symm e12)), off 11 (slot 13 11 rfl (Ne.symm e13))]
        exact h.ne (mo 12 (Ne.symm e12) h12) (mo 13 (Ne.symm e13) h13)
  · obtain ⟨h5, h12, b, e, hf⟩ := h.c14 (mo 14 (by omega) h14)
    have n5 : (5 : Nat) ≠ i := fun e => by subst e; rw [h5] at hL; cases hL
    have n12 : (12 : Nat) ≠ i := fun e => by subst e; rw [h12] at hL; cases hL
    refine ⟨up 5 h5, up 12 h12, b, by rw [off 10 (slot 12 10 rfl n12)]; exact e, ?_⟩
    rw [off 29 (slot 5 29 rfl n5)]
    exact hf.keep (hb.block _ hf.lt)
  · obtain ⟨h11, h13, b, e, hf⟩ := h.c15 (mo 15 (by omega) h15)
    have n11 : (11 : Nat) ≠ i := fun e => by subst e; rw [h11] at hL; cases hL
    have n13 : (13 : Nat) ≠ i := fun e => by subst e; rw [h13] at hL; cases hL
    refine ⟨up 11 h11, up 13 h13, b, by rw [off 11 (slot 13 11 rfl n13)]; exact e, ?_⟩
    rw [off 35 (slot 11 35 rfl n11)]
    exact hf.keep (hb.block _ hf.lt)
/-- The first box is filled. -/
theorem Jd.fill1 (h : Jd tb n mA mB tvv slA slB W0 L σ X) (h5 : L 5 = true) (h12 : L 12 = true) : ∃ b x, σ 10 = ptr b ∧ Fx b 28 [x] X ∧ Jd tb n mA mB tvv slA slB W0 (Rg2.more L 14) (Rg2.laid σ none v) (X.setCell ⟨b, 0, none⟩ (σ 29)) := by
  have h1 : Bx W0.heap.size (σ 10) X := h.at_ 12 10 rfl h12
  obtain ⟨b, x, e, hlo, hf⟩ := h1
  have hk := Kpt.set (y := σ 29) hf
  have mo : ∀ j, j ≠ 14 → Rg2.more L 14 j = true → L j = true := fun j hj h0 => by
    have h0 : (L j || decide (j = 14)) = true := h0
    rw [decide_eq_false hj, Bool.or_false] at h0
    exact h0
  have up : ∀ j, L j = true → Rg2.more L 14 j = true := fun j h0 => by show (L j || decide (j = 14)) = true; rw [h0]; rfl
  have off : ∀ s, Rg2.laid σ none v s = σ s := fun s => if_neg (by intro e; cases e)
  refine ⟨b, x, e, hf, h.low.setCell (p := ⟨b, 0, none⟩) hlo _, h.s3, h.s1, h.s2, fun j s hj hLj => ?_, fun a c => ?_, fun _ => ⟨up 5 h5, up 12 h12, b, by rw [off]; exact e, by rw [off]; exact hf.set 0 _⟩, fun h15 => ?_⟩
  · have hj14 : j ≠ 14 := fun e => by subst e; cases hj
    rw [off]
    exact prD_go hk j (h.at_ j s hj (mo j hj14 hLj))
  · rw [off, off]
    exact h.ne (mo 12 (by decide) a) (mo 13 (by decide) c)
  · obtain ⟨h11, h13, c, ec, hc⟩ := h.c15 (mo 15 (by decide) h15)
    refine ⟨up 11 h11, up 13 h13, c, by rw [off]; exact ec, ?_⟩
    rw [off]
    refine hc.keep (other_set fun e2 => h.ne h12 h13 ?_)
    rw [e, ec, e2]
/-- The second one. -/
theorem Jd.fill2 (h : Jd tb n mA mB tvv slA slB W0 L σ X) (h11 : L 11 = true) (h13 : L 13 = true) : ∃ b x, σ 11 = ptr b ∧ Fx b 28 [x] X ∧ Jd tb n mA mB tvv slA slB W0 (Rg2.more L 15) (Rg2.laid σ none v) (X.setCell ⟨b, 0, none⟩ (σ 35)) := by
  have h1 : Bx W0.heap.size (σ 11) X := h.at_ 13 11 rfl h13
  obtain ⟨b, x, e, hlo, hf⟩ := h1
  have hk := Kpt.set (y := σ 35) hf
  have mo : ∀ j, j ≠ 15 → Rg2.more L 15 j = true → L j = true := fun j hj h0 => by
    have h0 : (L j || decide (j = 15)) = true := h0
    rw [decide_eq_false hj, Bool.or_false] at h0
    exact h0
  have up : ∀ j, L j = true → Rg2.more L 15 j = true := fun j h0 => by show (L j || decide (j = 15)) = true; rw [h0]; rfl
  have off : ∀ s, Rg2.laid σ none v s = σ s := fun s => if_neg (by intro e; cases e)
  refine ⟨b, x, e, hf, h.low.setCell (p := ⟨b, 0, none⟩) hlo _, h.s3, h.s1, h.s2, fun j s hj hLj => ?_, fun a c => ?_, fun h14 => ?_, fun _ => ⟨up 11 h11, up 13 h13, b, by rw [off]; exact e, by rw [off]; exact hf.set 0 _⟩⟩
  · have hj15 : j ≠ 15 := fun e => by subst e; cases hj
    rw [off]
    exact prD_go hk j (h.at_ j s hj (mo j hj15 hLj))
  · rw [off, off]
    exact h.ne (mo 12 (by decide) a) (mo 13 (by decide) c)
  · obtain ⟨h5, h12, c, ec, hc⟩ := h.c14 (mo 14 (by decide) h14)
    refine ⟨up 5 h5, up 12 h12, c, by rw [off]; exact ec, ?_⟩
    rw [off]
    refine hc.keep (other_set fun e2 => h.ne h12 h13 ?_)
    rw [e, ec, e2]
/-- At the end both boxes hold the marks. -/
theorem Jd.done (h : Jd tb n mA mB tvv slA slB W0 L σ X) (hA : mA.length = n) (hB : mB.length = n) (h14 : L 14 = true) (h15 : L 15 = true) : ∃ b1 b2, σ 10 = ptr b1 ∧ σ 11 = ptr b2 ∧ Mb b1 n mA X ∧ Mb b2 n mB X ∧ Below W0.heap.size W0 X := by
  obtain ⟨h5, h12, b1, e1, f1⟩ := h.c14 h14
  obtain ⟨h11, h13, b2, e2, f2⟩ := h.c15 h15
  have m1 : Mv n mA (σ 29) X := h.at_ 5 29 rfl h5
  have m2 : Mv n mB (σ 35) X := h.at_ 11 35 rfl h11
  obtain ⟨va, ea, oa⟩ := m1
  obtain ⟨vb, eb, ob⟩ := m2
  rw [ea] at f1
  rw [eb] at f2
  exact ⟨b1, b2, e1, e2, ⟨hA, va, n, f1, owns_at1 oa⟩, ⟨hB, vb, n, f2, owns_at1 ob⟩, h.low⟩
end
end Go.Proofs.Ythifoamnmhlghaa.Fa
