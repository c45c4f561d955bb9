/- Differ: what its two runs and boxes hold, in whatever order they are made. -/
import Derived.Test.YtcobmbclhhimjaaGreatLit
import Derived.Test.YtcobmbclhhimjaaGreatInv9
import Derived.Test.YtcobmbclhhimjaaGreatFrs
import Derived.Test.YtcobmbclhhimjaaGreatRh0
namespace Go.Proofs.YtcobmbclhhimjaaGreat.Fa
open Go.RowKit Rg

section
variable {n N0 : Nat} {m mA mB : List Int} {tvv slA slB v : Value} {X Y : World}
def Mv (n : Nat) (m : List Int) (v : Value) (W : World) : Prop := ∃ va, v = .slice va n n ∧ W.ownsRow 0 77 1 (.slice va n n) n (u8s m)
def Rm (n : Nat) (m : List Int) (v : Value) (W : World) : Prop := ∃ K va, v = ptr K ∧ W.cell? ⟨K, 18, none⟩ = some (.slice va n n) ∧ W.ownsRow 0 77 1 (.slice va n n) n (u8s m)
def Rp (n : Nat) (m : List Int) (v : Value) (W : World) : Prop := ∃ K va, v = .pointer (some ⟨K, 18, none⟩) ∧ W.cell? ⟨K, 18, none⟩ = some (.slice va n n) ∧ W.ownsRow 0 77 1 (.slice va n n) n (u8s m)
def Bx (N0 : Nat) (v : Value) (W : World) : Prop := ∃ b x, v = ptr b ∧ N0 ≤ b ∧ Fx b 29 [x] W
/-- What each operation's slot holds. -/
def prD (n : Nat) (mA mB : List Int) (tvv slA slB : Value) (N0 : Nat) : Nat → Value → World → Prop
  | 0, v, _ => v = tvv
  | 1, v, _ => v = slA
  | 2, v, W => Rm n mA v W
  | 3, v, W => Rm n mA v W
  | 4, v, W => Rp n mA v W
  | 5, v, W => Mv n mA v W
  | 6, v, _ => v = tvv
  | 7, v, _ => v = slB
  | 8, v, W => Rm n mB v W
  | 9, v, W => Rm n mB v W
  | 10, v, W => Rp n mB v W
  | 11, v, W => Mv n mB v W
  | _, v, W => Bx N0 v W
/-- What is alike of two worlds, where a box may have been filled. -/
structure Kpt (X Y : World) : Prop where
  cell : ∀ K v, X.cell? ⟨K, 18, none⟩ = some v → Y.cell? ⟨K, 18, none⟩ = some v
  own : ∀ v k xs, X.ownsRow 0 77 1 v k xs → Y.ownsRow 0 77 1 v k xs
  box : ∀ b x, Fx b 29 [x] X → ∃ y, Fx b 29 [y] Y
theorem Kpt.below (hb : Below X.heap.size X Y) : Kpt X Y := ⟨fun _ _ h => Rf.cell_onR h hb, fun _ _ _ h => owns_keep h fun g hg => hb.block g (owns_lt h hg), fun _ x h => ⟨x, h.keep (hb.block _ h.lt)⟩⟩
theorem Kpt.set {b : Nat} {x y : Value} (hx : Fx b 29 [x] X) : Kpt X (X.setCell ⟨b, 0, none⟩ y) := by
  refine ⟨fun K v h => ?_, fun v k xs h => owns_keep h fun g hg => other_set fun e => own_ne' h hx (by decide) (e ▸ hg), fun c z h => ?_⟩
  · have hne : K ≠ b := fun e => by
      subst e
      have h2 : X.heap[K]? = some (.cells [x].toArray 29 (0, 0)) := hx
      simp [World.cell?, h2] at h
    exact (World.cell?_of_block (other_set hne)).trans h
  · by_cases e : c = b
    · subst e; exact ⟨y, hx.set 0 y⟩
    · exact ⟨z, h.keep (other_set e)⟩
theorem prD_go (hk : Kpt X Y) : ∀ i, prD n mA mB tvv slA slB N0 i v X → prD n mA mB tvv slA slB N0 i v Y := by
  have a : ∀ m, Rm n m v X → Rm n m v Y := fun m ⟨K, va, h1, h2, h3⟩ => ⟨K, va, h1, hk.cell _ _ h2, hk.own _ _ _ h3⟩
  have b : ∀ m, Rp n m v X → Rp n m v Y := fun m ⟨K, va, h1, h2, h3⟩ => ⟨K, va, h1, hk.cell _ _ h2, hk.own _ _ _ h3⟩
  have c : ∀ m, Mv n m v X → Mv n m v Y := fun m ⟨va, h1, h3⟩ => ⟨va, h1, hk.own _ _ _ h3⟩
  have d : Bx N0 v X → Bx N0 v Y := fun ⟨b, x, h1, h2, h3⟩ => by obtain ⟨y, hy⟩ := hk.box _ _ h3; exact ⟨b, y, h1, h2, hy⟩
  intro i
  match i with
  | 0 => exact id
  | 1 => exact id
  | 2 => exact a mA
  | 3 => exact a mA
  | 4 => exact b mA
  | 5 => exact c mA
  | 6 => exact id
  | 7 => exact id
  | 8 => exact a mB
  | 9 => exact a mB
  | 10 => exact b mB
  | 11 => exact c mB
  | _ + 12 => exact d
abbrev dsD : List (Option Nat) := [some 24, some 25, some 26, some 27, some 28, some 29, some 30, some 31, some 32, some 33, some 34, some 35, some 10, some 11]
structure Jd (tb n : Nat) (mA mB : List Int) (tvv slA slB : Value) (W0 : World) (L : Nat → Bool) (σ : Nat → Value) (W : World) : Prop where
  low : Below W0.heap.size W0 W
  s3 : σ 3 = ptr tb
  s1 : σ 1 = slA
  s2 : σ 2 = slB
  at_ : ∀ i d, dsD.getD i none = some d → L i = true → prD n mA mB tvv slA slB W0.heap.size i (σ d) W
  ne : L 12 = true → L 13 = true → σ 10 ≠ σ 11
  c14 : L 14 = true → L 5 = true ∧ L 12 = true ∧ ∃ b, σ 10 = ptr b ∧ Fx b 29 [σ 29] W
  c15 : L 15 = true → L 11 = true ∧ L 13 = true ∧ ∃ b, σ 11 = ptr b ∧ Fx b 29 [σ 35] W
variable {tb : Nat} {W0 : World} {L : Nat → Bool} {σ : Nat → Value}
theorem ds_inj {i j d : Nat} (hi : dsD.getD i none = some d) (hj : dsD.getD j none = some d) : i = j := by
  have hi2 : i < 14 := by
    apply Classical.byContradiction
    intro h
    rw [List.getD_eq_getElem?_getD, List.getElem?_eq_none (by simp; omega)] at hi
    cases hi
  have hj2 : j < 14 := by
    apply Classical.byContradiction
    intro h
    rw [List.getD_eq_getElem?_getD, List.getElem?_eq_none (by simp; omega)] at hj
    cases hj
  have key : ∀ i j : _root_.Fin 14, dsD.getD i.val none = dsD.getD j.val none → i = j := by decide +kernel
  have := key ⟨i, hi2⟩ ⟨j, hj2⟩ (hi.trans hj.symm)
  exact congrArg (fun z : _root_.Fin 14 => z.val) this
theorem ds_free {i d : Nat} (hi : dsD.getD i none = some d) : d ≠ 1 ∧ d ≠ 2 ∧ d ≠ 3 := by
  have hi2 : i < 14 := by
    apply Classical.byContradiction
    intro h
    rw [List.getD_eq_getElem?_getD, List.getElem?_eq_none (by simp; omega)] at hi
    cases hi
  have key : ∀ i : _root_.Fin 14, (dsD.getD i.val none ≠ some 1 ∧ dsD.getD i.val none ≠ some 2 ∧ dsD.getD i.val none ≠ some 3) := by decide +kernel
  obtain ⟨h1, h2, h3⟩ := key ⟨i, hi2⟩
  refine ⟨fun e => h1 ?_, fun e => h2 ?_, fun e => h3 ?_⟩ <;> (show dsD.getD i none = _; rw [hi, e])
/-- A value more; what is made meanwhile is new. -/
theorem Jd.put (h : Jd tb n mA mB tvv slA slB W0 L σ X) {i d : Nat} (hi : dsD.getD i none = some d) (hL : L i = false) (hb : Below X.heap.size X Y) (hp : prD n mA mB tvv slA slB W0.heap.size i v Y) (hbox : i = 12 ∨ i = 13 → ∃ b, v = ptr b ∧ X.heap.size ≤ b) : Jd tb n mA mB tvv slA slB W0 (Rg2.more L i) (Rg2.laid σ (some d) v) Y := by
  obtain ⟨d1, d2, d3⟩ := ds_free hi
  have off : ∀ s, s ≠ d → Rg2.laid σ (some d) v s = σ s := fun s hs => if_neg (by intro e; cases e; exact hs rfl)
  have on : Rg2.laid σ (some d) v d = v := if_pos rfl
  have mo : ∀ j, j ≠ i → Rg2.more L i j = true → L j = true := fun j hj h0 => by
    show L j = true
    have h0 : (L j || decide (j = i)) = true := h0
    rw [decide_eq_false hj, Bool.or_false] at h0
    exact h0
  have up : ∀ j, L j = true → Rg2.more L i j = true := fun j h0 => by show (L j || decide (j = i)) = true; rw [h0]; rfl
  have hi14 : i < 14 := by
    apply Classical.byContradiction
    intro h
    rw [List.getD_eq_getElem?_getD, List.getElem?_eq_none (by simp; omega)] at hi
    cases hi
  have slot : ∀ j s, dsD.getD j none = some s → j ≠ i → s ≠ d := fun j s hj hne e => hne (ds_inj hj (by rw [e]; exact hi))
  have hk := Kpt.below hb
  have bxl : ∀ j s, dsD.getD j none = some s → j = 12 ∨ j = 13 → L j = true → ∃ b, σ s = ptr b ∧ b < X.heap.size := fun j s hj hj2 h0 => by
    have h1 := h.at_ j s hj h0
    have h1 : Bx W0.heap.size (σ s) X := by rcases hj2 with rfl | rfl <;> exact h1
    obtain ⟨b, x, e, -, hf⟩ := h1
    exact ⟨b, e, hf.lt⟩
  refine ⟨h.low.trans (hb.mono h.low.size), by rw [off 3 (Ne.symm d3)]; exact h.s3, by rw [off 1 (Ne.symm d1)]; exact h.s1, by rw [off 2 (Ne.symm d2)]; exact h.s2, fun j s hj hLj => ?_, fun h12 h13 => ?_, fun h14 => ?_, fun h15 => ?_⟩
  · by_cases e : j = i
    · subst e
      rw [hi] at hj
      cases hj
      rw [on]
      exact hp
    · rw [off s (slot j s hj e)]
      exact prD_go hk j (h.at_ j s hj (mo j e hLj))
  · by_cases e12 : i = 12
    · subst e12
      have : d = 10 := by cases hi; rfl
      subst this
      rw [on, off 11 (by decide)]
      obtain ⟨b, hv, hbl⟩ := hbox (.inl rfl)
      obtain ⟨b2, hv2, hbl2⟩ := bxl 13 11 rfl (.inr rfl) (mo 13 (by decide) h13)
      rw [hv, hv2]
      intro e
      cases e
      omega
    · by_cases e13 : i = 13
      · subst e13
        have : d = 11 := by cases hi; rfl
        subst this
        rw [on, off 10 (by decide)]
        obtain ⟨b, hv, hbl⟩ := hbox (.inr rfl)
        obtain ⟨b2, hv2, hbl2⟩ := bxl 12 10 rfl (.inl rfl) (mo 12 (by decide) h12)
        rw [hv, hv2]
        intro e
        cases e
        omega
      · rw [off 10 (slot 12 10 rfl (Ne.symm e12)), off 11 (slot 13 11 rfl (Ne.symm e13))]
        exact h.ne (mo 12 (Ne.symm e12) h12) (mo 13 (Ne.symm e13) h13)
  · obtain ⟨h5, h12, b, e, hf⟩ := h.c14 (mo 14 (by omega) h14)
    have n5 : (5 : Nat) ≠ i := fun e => by subst e; rw [h5] at hL; cases hL
    have n12 : (12 : Nat) ≠ i := fun e => by subst e; rw [h12] at hL; cases hL
    refine ⟨up 5 h5, up 12 h12, b, by rw [off 10 (slot 12 10 rfl n12)]; exact e, ?_⟩
    rw [off 29 (slot 5 29 rfl n5)]
    exact hf.keep (hb.block _ hf.lt)
  · obtain ⟨h11, h13, b, e, hf⟩ := h.c15 (mo 15 (by omega) h15)
    have n11 : (11 : Nat) ≠ i := fun e => by subst e; rw [h11] at hL; cases hL
    have n13 : (13 : Nat) ≠ i := fun e => by subst e; rw [h13] at hL; cases hL
    refine ⟨up 11 h11, up 13 h13, b, by rw [off 11 (slot 13 11 rfl n13)]; exact e, ?_⟩
    rw [off 35 (slot 11 35 rfl n11)]
    exact hf.keep (hb.block _ hf.lt)
/-- The first box is filled. -/
theorem Jd.fill1 (h : Jd tb n mA mB tvv slA slB W0 L σ X) (h5 : L 5 = true) (h12 : L 12 = true) : ∃ b x, σ 10 = ptr b ∧ Fx b 29 [x] X ∧ Jd tb n mA mB tvv slA slB W0 (Rg2.more L 14) (Rg2.laid σ none v) (X.setCell ⟨b, 0, none⟩ (σ 29)) := by
  have h1 : Bx W0.heap.size (σ 10) X := h.at_ 12 10 rfl h12
  obtain ⟨b, x, e, hlo, hf⟩ := h1
  have hk := Kpt.set (y := σ 29) hf
  have mo : ∀ j, j ≠ 14 → Rg2.more L 14 j = true → L j = true := fun j hj h0 => by
    have h0 : (L j || decide (j = 14)) = true := h0
    rw [decide_eq_false hj, Bool.or_false] at h0
    exact h0
  have up : ∀ j, L j = true → Rg2.more L 14 j = true := fun j h0 => by show (L j || decide (j = 14)) = true; rw [h0]; rfl
  have off : ∀ s, Rg2.laid σ none v s = σ s := fun s => if_neg (by intro e; cases e)
  refine ⟨b, x, e, hf, h.low.setCell (p := ⟨b, 0, none⟩) hlo _, h.s3, h.s1, h.s2, fun j s hj hLj => ?_, fun a c => ?_, fun _ => ⟨up 5 h5, up 12 h12, b, by rw [off]; exact e, by rw [off]; exact hf.set 0 _⟩, fun h15 => ?_⟩
  · have hj14 : j ≠ 14 := fun e => by subst e; cases hj
    rw [off]
    exact prD_go hk j (h.at_ j s hj (mo j hj14 hLj))
  · rw [off, off]
    exact h.ne (mo 12 (by decide) a) (mo 13 (by decide) c)
  · obtain ⟨h11, h13, c, ec, hc⟩ := h.c15 (mo 15 (by decide) h15)
    refine ⟨up 11 h11, up 13 h13, c, by rw [off]; exact ec, ?_⟩
    rw [off]
    refine hc.keep (other_set fun e2 => h.ne h12 h13 ?_)
    rw [e, ec, e2]
/-- The second one. -/
theorem Jd.fill2 (h : Jd tb n mA mB tvv slA slB W0 L σ X) (h11 : L 11 = true) (h13 : L 13 = true) : ∃ b x, σ 11 = ptr b ∧ Fx b 29 [x] X ∧ Jd tb n mA mB tvv slA slB W0 (Rg2.more L 15) (Rg2.laid σ none v) (X.setCell ⟨b, 0, none⟩ (σ 35)) := by
  have h1 : Bx W0.heap.size (σ 11) X := h.at_ 13 11 rfl h13
  obtain ⟨b, x, e, hlo, hf⟩ := h1
  have hk := Kpt.set (y := σ 35) hf
  have mo : ∀ j, j ≠ 15 → Rg2.more L 15 j = true → L j = true := fun j hj h0 => by
    have h0 : (L j || decide (j = 15)) = true := h0
    rw [decide_eq_false hj, Bool.or_false] at h0
    exact h0
  have up : ∀ j, L j = true → Rg2.more L 15 j = true := fun j h0 => by show (L j || decide (j = 15)) = true; rw [h0]; rfl
  have off : ∀ s, Rg2.laid σ none v s = σ s := fun s => if_neg (by intro e; cases e)
  refine ⟨b, x, e, hf, h.low.setCell (p := ⟨b, 0, none⟩) hlo _, h.s3, h.s1, h.s2, fun j s hj hLj => ?_, fun a c => ?_, fun h14 => ?_, fun _ => ⟨up 11 h11, up 13 h13, b, by rw [off]; exact e, by rw [off]; exact hf.set 0 _⟩⟩
  · have hj15 : j ≠ 15 := fun e => by subst e; cases hj
    rw [off]
    exact prD_go hk j (h.at_ j s hj (mo j hj15 hLj))
  · rw [off, off]
    exact h.ne (mo 12 (by decide) a) (mo 13 (by decide) c)
  · obtain ⟨h5, h12, c, ec, hc⟩ := h.c14 (mo 14 (by decide) h14)
    refine ⟨up 5 h5, up 12 h12, c, by rw [off]; exact ec, ?_⟩
    rw [off]
    refine hc.keep (other_set fun e2 => h.ne h12 h13 ?_)
    rw [e, ec, e2]
/-- At the end both boxes hold the marks. -/
theorem Jd.done (h : Jd tb n mA mB tvv slA slB W0 L σ X) (hA : mA.length = n) (hB : mB.length = n) (h14 : L 14 = true) (h15 : L 15 = true) : ∃ b1 b2, σ 10 = ptr b1 ∧ σ 11 = ptr b2 ∧ Mb b1 n mA X ∧ Mb b2 n mB X ∧ Below W0.heap.size W0 X := by
  obtain ⟨h5, h12, b1, e1, f1⟩ := h.c14 h14
  obtain ⟨h11, h13, b2, e2, f2⟩ := h.c15 h15
  have m1 : Mv n mA (σ 29) X := h.at_ 5 29 rfl h5
  have m2 : Mv n mB (σ 35) X := h.at_ 11 35 rfl h11
  obtain ⟨va, ea, oa⟩ := m1
  obtain ⟨vb, eb, ob⟩ := m2
  rw [ea] at f1
  rw [eb] at f2
  exact ⟨b1, b2, e1, e2, ⟨hA, va, n, f1, owns_at1 oa⟩, ⟨hB, vb, n, f2, owns_at1 ob⟩, h.low⟩
end
end Go.Proofs.YtcobmbclhhimjaaGreat.Fa
/- Differ, walked. -/
namespace Go.Proofs.YtcobmbclhhimjaaGreat.Fa
open Go.RowKit Rg

section
variable {w : World} {T : Th} {A B : List Int} {fa ra ba ea xa : Option Addr} {fc rc bc ec xc : Nat}
theorem run_marks {m : List Int} {n k : Nat} (h : TA w.heap.size w T fa fc ra rc ba bc) (hF : Ints w.heap.size w A (.slice ea A.length ec)) (hp : Pf T A n) (hs_ : Sol T A m k) :
    Calls Tryz.prog 30 #[tv T fa fc ra rc ba bc, .slice ea A.length ec] w fun o w' => ∃ K va, o = .returned (ptr K) ∧ w'.cell? ⟨K, 18, none⟩ = some (.slice va n n) ∧ w'.ownsRow 0 77 1 (.slice va n n) n (u8s m) ∧ Below w.heap.size w w' := by
  refine (run_ends (P := fun _ => True) h hF hp trivial fun _ _ _ _ => trivial).mono ?_
  rintro o w' ⟨K, va, e, rfl, -, h18, ⟨m2, k2, hs2, how, -⟩, -, -, -, -, hb⟩
  obtain rfl := sol_one hs2 hs_
  exact ⟨K, va, rfl, h18, owns_down how (Nat.zero_le _), hb⟩
set_option maxRecDepth 100000 in
set_option maxHeartbeats 12800000 in
theorem Differ_ok {mA mB : List Int} {n kA kB : Nat} (h : TA w.heap.size w T fa fc ra rc ba bc) (hA : Ints w.heap.size w A (.slice ea A.length ec)) (hB : Ints w.heap.size w B (.slice xa B.length xc)) (h0 : faultM T A = 0) (h1 : faultM T B = 0) (hn : T.lits.toNat = n) (hsA : Sol T A mA kA) (hsB : Sol T B mB kB) :
    Calls Tryz.prog 23 #[tv T fa fc ra rc ba bc, .slice ea A.length ec, .slice xa B.length xc] w fun e w' => ∃ va vc, e = .returned (.tuple #[.slice va (soL (difP mA mB) n).length vc, .int .i64 0]) ∧ w'.ownsRow w.heap.size 3 1 (.slice va (soL (difP mA mB) n).length vc) (soL (difP mA mB) n).length (ints (soL (difP mA mB) n)) ∧ Below w.heap.size w w' := by
  have hBw := below_new w (.cells #[.int .i64 T.lits, .slice fa T.foes.length fc, .slice ra T.rules.length rc, .slice ba T.beats.length bc] 25)
  have hX := heap_alloc_new w (.cells #[.int .i64 T.lits, .slice fa T.foes.length fc, .slice ra T.rules.length rc, .slice ba T.beats.length bc] 25)
  have CF := hide (fault_any (TR.go hBw h) (Ints.go hBw hA))
  rw [h0] at CF
  have hpA : Pf T A n := by rw [← hn]; exact pf_of h0
  have hpB : Pf T B n := by rw [← hn]; exact pf_of h1
  have HPA := hide hpA
  have HPB := hide hpB
  have HSA := hide hsA
  have HSB := hide hsB
  have HRB : Hid (risesM B T.lits = true) := hide (by
    unfold faultM at h1
    by_cases hc : (checkM T).1 ≠ 0
    · rw [if_pos hc] at h1; exact absurd h1 hc
    · rw [if_neg hc] at h1
      cases e : risesM B T.lits with
      | true => rfl
      | false => rw [e] at h1; simp at h1)
  have HTA := hide (TR.go hBw h)
  have HA := hide (Ints.go hBw hA)
  have HB := hide (Ints.go hBw hB)
  have HBw := hide hBw
  have HX := hide hX
  clear h hBw hA hB h0 h1 hn hpA hpB hsA hsB
  go_enter Tryz.func23, Tryz.ntmps23
  go_upto_region 1 with fail
  generalize w.alloc (.cells #[.int .i64 T.lits, .slice fa T.foes.length fc, .slice ra T.rules.length rc, .slice ba T.beats.length bc] 25) = W at *
  obtain ⟨-, c0, c1, c2, c3⟩ := Bt.of hX
  clear hX
  go_upto_region 4 with (go_at_call 29; refine CF.out.mono ?_; rintro _ w1 ⟨rfl, hw1⟩; have HW1 := hide hw1; clear hw1)
  have HX1 := hide ((HW1.out.block _ (loc_lt HX.out)).trans HX.out)
  have HTA1 := hide (TR.go HW1.out HTA.out)
  have HA1 := hide (Ints.go HW1.out HA.out)
  have HB1 := hide (Ints.go HW1.out HB.out)
  have HBw1 := hide (HBw.out.trans (HW1.out.mono HBw.out.size))
  have CC := hide (checkFacts_any (T := T) (fa := fa) (fc := fc) (ra := ra) (rc := rc) (ba := ba) (bc := bc) HB1.out)
  rw [HRB.out] at CC
  clear c0 c1 c2 c3 CF HX HTA HA HB HBw HW1
  obtain ⟨-, c0, c1, c2, c3⟩ := Bt.of HX1.out
  go_upto_region 7 with (go_at_call 41; refine CC.out.mono ?_; rintro _ w2 ⟨rfl, hw2⟩; have HW2 := hide hw2; clear hw2)
  have HX2 := hide ((HW2.out.block _ (loc_lt HX1.out)).trans HX1.out)
  have HTA2 := hide (TR.go HW2.out HTA1.out)
  have HA2 := hide (Ints.go HW2.out HA1.out)
  have HB2 := hide (Ints.go HW2.out HB1.out)
  have HBw2 := hide (HBw1.out.trans (HW2.out.mono HBw1.out.size))
  clear c0 c1 c2 c3 CC HX1 HTA1 HA1 HB1 HBw1 HW2
  have HCT : Hid (∀ X, Below w2.heap.size w2 X → X.cell? ⟨w.heap.size, 0, none⟩ = some (.int .i64 T.lits) ∧ X.cell? ⟨w.heap.size, 1, none⟩ = some (.slice fa T.foes.length fc) ∧ X.cell? ⟨w.heap.size, 2, none⟩ = some (.slice ra T.rules.length rc) ∧ X.cell? ⟨w.heap.size, 3, none⟩ = some (.slice ba T.beats.length bc)) := hide fun X hX => by
    obtain ⟨-, c0, c1, c2, c3⟩ := Bt.of ((hX.block _ (loc_lt HX2.out)).trans HX2.out)
    exact ⟨c0, c1, c2, c3⟩
  have CRA := hide fun (X : World) (hX : Below w2.heap.size w2 X) => run_marks (TR.go hX HTA2.out) (Ints.go hX HA2.out) HPA.out HSA.out
  have CRB := hide fun (X : World) (hX : Below w2.heap.size w2 X) => run_marks (TR.go hX HTA2.out) (Ints.go hX HB2.out) HPB.out HSB.out
  have e18 : Hid (∀ args w', (callFunc 30 args).run Tryz.prog w' = .ok (.enter 30 args) w') := hide (enters_go Tryz.func30 (by kernel_rfl) (by kernel_rfl))
  refine Rg2.region_j NoE (Jd w.heap.size n mA mB (tv T fa fc ra rc ba bc) (.slice ea A.length ec) (.slice xa B.length xc) w2) (by kernel_rfl) (by kernel_rfl) ?_ (Rg2.steps_j ⟨?_, ?_, ?_, ?_, ?_, ?_, ?_, ?_, ?_, ?_, ?_, ?_, ?_, ?_, ?_, ?_, trivial⟩) ?_ ?_
  · exact ⟨(Below.refl w2.heap.size w2).drew, rfl, rfl, rfl, fun i d _ hL => (by cases hL), fun hL => (by cases hL), fun hL => (by cases hL), fun hL => (by cases hL)⟩
  · intro ρ X L hc hf hL hd hcl hJ
    have k3 : ρ (.tmp 3) = ptr w.heap.size := hJ.s3
    obtain ⟨c0, c1, c2, c3⟩ := HCT.out X hJ.low
    refine does_value (v := .agg #[.int .i64 T.lits, .slice fa T.foes.length fc, .slice ra T.rules.length rc, .slice ba T.beats.length bc]) (w' := X) ?_ (hJ.put (i := 0) (d := 24) rfl hL (Below.refl _ _) (rfl) (fun e => absurd e (by decide)))
    clear hd hcl hJ hL
    go_simp
  · intro ρ X L hc hf hL hd hcl hJ
    have k1 : ρ (.tmp 1) = .slice ea A.length ec := hJ.s1
    refine does_value (v := .slice ea A.length ec) (w' := X) ?_ (hJ.put (i := 1) (d := 25) rfl hL (Below.refl _ _) (rfl) (fun e => absurd e (by decide)))
    clear hd hcl hJ hL
    go_simp
  · intro ρ X L hc hf hL hd hcl hJ
    have k24 : ρ (.tmp 24) = tv T fa fc ra rc ba bc := hJ.at_ 0 24 rfl (hd ⟨0, .data⟩ (by simp) rfl)
    have k25 : ρ (.tmp 25) = .slice ea A.length ec := hJ.at_ 1 25 rfl (hd ⟨1, .data⟩ (by simp) rfl)
    have hC := CRA.out X hJ.low
    have he := e18.out #[tv T fa fc ra rc ba bc, .slice ea A.length ec] X
    refine does_call (f := 30) (args := #[tv T fa fc ra rc ba bc, .slice ea A.length ec]) (w' := X) ?_ hC ?_
    · clear hd hcl hJ hL hC
      go_simp
    · rintro _ Y ⟨K, va, rfl, h18, how, hb⟩
      exact ⟨_, rfl, hJ.put (i := 2) (d := 26) rfl hL hb ⟨K, va, rfl, h18, how⟩ (fun e => absurd e (by decide))⟩
  · intro ρ X L hc hf hL hd hcl hJ
    have h1 : Rm n mA (ρ (.tmp 26)) X := hJ.at_ 2 26 rfl (hd ⟨2, .data⟩ (by simp) rfl)
    obtain ⟨K, va, k26, h18, how⟩ := h1
    refine does_value (v := ptr K) (w' := X) ?_ (hJ.put (i := 3) (d := 27) rfl hL (Below.refl _ _) ⟨K, va, rfl, h18, how⟩ (fun e => absurd e (by decide)))
    clear hd hcl hJ hL
    go_simp
  · intro ρ X L hc hf hL hd hcl hJ
    have h1 : Rm n mA (ρ (.tmp 27)) X := hJ.at_ 3 27 rfl (hd ⟨3, .data⟩ (by simp) rfl)
    obtain ⟨K, va, k27, h18, how⟩ := h1
    refine does_value (v := .pointer (some ⟨K, 18, none⟩)) (w' := X) ?_ (hJ.put (i := 4) (d := 28) rfl hL (Below.refl _ _) ⟨K, va, rfl, h18, how⟩ (fun e => absurd e (by decide)))
    clear hd hcl hJ hL
    go_simp
  · intro ρ X L hc hf hL hd hcl hJ
    have h1 : Rp n mA (ρ (.tmp 28)) X := hJ.at_ 4 28 rfl (hd ⟨4, .data⟩ (by simp) rfl)
    obtain ⟨K, va, k28, h18, how⟩ := h1
    refine does_value (v := .slice va n n) (w' := X) ?_ (hJ.put (i := 5) (d := 29) rfl hL (Below.refl _ _) ⟨va, rfl, how⟩ (fun e => absurd e (by decide)))
    clear hd hcl hJ hL
    go_simp
  · intro ρ X L hc hf hL hd hcl hJ
    have k3 : ρ (.tmp 3) = ptr w.heap.size := hJ.s3
    obtain ⟨c0, c1, c2, c3⟩ := HCT.out X hJ.low
    refine does_value (v := .agg #[.int .i64 T.lits, .slice fa T.foes.length fc, .slice ra T.rules.length rc, .slice ba T.beats.length bc]) (w' := X) ?_ (hJ.put (i := 6) (d := 30) rfl hL (Below.refl _ _) (rfl) (fun e => absurd e (by decide)))
    clear hd hcl hJ hL
    go_simp
  · intro ρ X L hc hf hL hd hcl hJ
    have k1 : ρ (.tmp 2) = .slice xa B.length xc := hJ.s2
    refine does_value (v := .slice xa B.length xc) (w' := X) ?_ (hJ.put (i := 7) (d := 31) rfl hL (Below.refl _ _) (rfl) (fun e => absurd e (by decide)))
    clear hd hcl hJ hL
    go_simp
  · intro ρ X L hc hf hL hd hcl hJ
    have k24 : ρ (.tmp 30) = tv T fa fc ra rc ba bc := hJ.at_ 6 30 rfl (hd ⟨6, .data⟩ (by simp) rfl)
    have k25 : ρ (.tmp 31) = .slice xa B.length xc := hJ.at_ 7 31 rfl (hd ⟨7, .data⟩ (by simp) rfl)
    have hC := CRB.out X hJ.low
    have he := e18.out #[tv T fa fc ra rc ba bc, .slice xa B.length xc] X
    refine does_call (f := 30) (args := #[tv T fa fc ra rc ba bc, .slice xa B.length xc]) (w' := X) ?_ hC ?_
    · clear hd hcl hJ hL hC
      go_simp
    · rintro _ Y ⟨K, va, rfl, h18, how, hb⟩
      exact ⟨_, rfl, hJ.put (i := 8) (d := 32) rfl hL hb ⟨K, va, rfl, h18, how⟩ (fun e => absurd e (by decide))⟩
  · intro ρ X L hc hf hL hd hcl hJ
    have h1 : Rm n mB (ρ (.tmp 32)) X := hJ.at_ 8 32 rfl (hd ⟨8, .data⟩ (by simp) rfl)
    obtain ⟨K, va, k26, h18, how⟩ := h1
    refine does_value (v := ptr K) (w' := X) ?_ (hJ.put (i := 9) (d := 33) rfl hL (Below.refl _ _) ⟨K, va, rfl, h18, how⟩ (fun e => absurd e (by decide)))
    clear hd hcl hJ hL
    go_simp
  · intro ρ X L hc hf hL hd hcl hJ
    have h1 : Rm n mB (ρ (.tmp 33)) X := hJ.at_ 9 33 rfl (hd ⟨9, .data⟩ (by simp) rfl)
    obtain ⟨K, va, k27, h18, how⟩ := h1
    refine does_value (v := .pointer (some ⟨K, 18, none⟩)) (w' := X) ?_ (hJ.put (i := 10) (d := 34) rfl hL (Below.refl _ _) ⟨K, va, rfl, h18, how⟩ (fun e => absurd e (by decide)))
    clear hd hcl hJ hL
    go_simp
  · intro ρ X L hc hf hL hd hcl hJ
    have h1 : Rp n mB (ρ (.tmp 34)) X := hJ.at_ 10 34 rfl (hd ⟨10, .data⟩ (by simp) rfl)
    obtain ⟨K, va, k28, h18, how⟩ := h1
    refine does_value (v := .slice va n n) (w' := X) ?_ (hJ.put (i := 11) (d := 35) rfl hL (Below.refl _ _) ⟨va, rfl, how⟩ (fun e => absurd e (by decide)))
    clear hd hcl hJ hL
    go_simp
  · intro ρ X L hc hf hL hd hcl hJ
    refine does_value (v := ptr X.heap.size) (w' := X.alloc (.cells #[.slice none 0 0] 29)) ?_ (hJ.put (i := 12) (d := 10) rfl hL (below_new _ _) ⟨X.heap.size, _, rfl, hJ.low.size, heap_alloc_new X _⟩ (fun _ => ⟨_, rfl, Nat.le_refl _⟩))
    clear hd hcl hJ hL
    go_simp
  · intro ρ X L hc hf hL hd hcl hJ
    refine does_value (v := ptr X.heap.size) (w' := X.alloc (.cells #[.slice none 0 0] 29)) ?_ (hJ.put (i := 13) (d := 11) rfl hL (below_new _ _) ⟨X.heap.size, _, rfl, hJ.low.size, heap_alloc_new X _⟩ (fun _ => ⟨_, rfl, Nat.le_refl _⟩))
    clear hd hcl hJ hL
    go_simp
  · intro ρ X L hc hf hL hd hcl hJ
    obtain ⟨b, x, k10, hfx, hJ2⟩ := hJ.fill1 (v := undef) (hd ⟨5, .data⟩ (by simp) rfl) (hd ⟨12, .data⟩ (by simp) rfl)
    have h1 : Mv n mA (ρ (.tmp 29)) X := hJ.at_ 5 29 rfl (hd ⟨5, .data⟩ (by simp) rfl)
    obtain ⟨va, k29, -⟩ := h1
    have c0 := hfx.get (i := 0) rfl
    have f0 := hfx.frz 0
    refine does_skip (w' := X.setCell ⟨b, 0, none⟩ (ρ (.tmp 29))) ?_ hJ2
    clear hd hcl hJ hJ2 hL
    go_simp
  · intro ρ X L hc hf hL hd hcl hJ
    obtain ⟨b, x, k10, hfx, hJ2⟩ := hJ.fill2 (v := undef) (hd ⟨11, .data⟩ (by simp) rfl) (hd ⟨13, .data⟩ (by simp) rfl)
    have h1 : Mv n mB (ρ (.tmp 35)) X := hJ.at_ 11 35 rfl (hd ⟨11, .data⟩ (by simp) rfl)
    obtain ⟨va, k29, -⟩ := h1
    have c0 := hfx.get (i := 0) rfl
    have f0 := hfx.frz 0
    refine does_skip (w' := X.setCell ⟨b, 0, none⟩ (ρ (.tmp 35))) ?_ hJ2
    clear hd hcl hJ hJ2 hL
    go_simp
  · intro c a' X _ hE
    exact hE.elim
  · rintro ⟨tmm, df⟩ w3 hsz hdf ⟨L, hL, hJ⟩ hold
    simp only at hdf hsz
    subst hdf
    obtain ⟨b1, b2, e10, e11, hb1, hb2, hlow⟩ := hJ.done (sol_len HPA.out HSA.out) (sol_len HPB.out HSB.out) (hL 14 (by decide)) (hL 15 (by decide))
    have e10 : tmm.getD 10 undef = ptr b1 := e10
    have e11 : tmm.getD 11 undef = ptr b2 := e11
    have htm := frame_keep 10 35 (by kernel_rfl) hsz hold
    simp only [zr, Nat.reduceLT, Nat.reduceAdd, true_or, or_true, or_self, if_true, if_false, e10, e11] at htm
    rw [htm]
    have CL := hide (literals_any (T := T) (fa := fa) (fc := fc) (ra := ra) (rc := rc) (ba := ba) (bc := bc) HPA.out.ln HPA.out.n4 (dif_ts hb1 hb2 HPA.out.n4))
    obtain ⟨c0, c1, c2, c3⟩ := HCT.out w3 hlow
    have HB3 := hide (HBw2.out.trans (hlow.mono HBw2.out.size))
    clear htm hJ hL hold hsz e10 e11 hb1 hb2 hlow HCT CRA CRB e18 HX2 HTA2 HA2 HB2 HBw2
    generalize tmm.getD 12 undef = x12
    generalize tmm.getD 13 undef = x13
    generalize tmm.getD 14 undef = x14
    generalize tmm.getD 15 undef = x15
    generalize tmm.getD 16 undef = x16
    generalize tmm.getD 17 undef = x17
    generalize tmm.getD 18 undef = x18
    generalize tmm.getD 19 undef = x19
    generalize tmm.getD 20 undef = x20
    generalize tmm.getD 21 undef = x21
    generalize tmm.getD 22 undef = x22
    generalize tmm.getD 23 undef = x23
    generalize tmm.getD 24 undef = x24
    generalize tmm.getD 25 undef = x25
    generalize tmm.getD 26 undef = x26
    generalize tmm.getD 27 undef = x27
    generalize tmm.getD 28 undef = x28
    generalize tmm.getD 29 undef = x29
    generalize tmm.getD 30 undef = x30
    generalize tmm.getD 31 undef = x31
    generalize tmm.getD 32 undef = x32
    generalize tmm.getD 33 undef = x33
    generalize tmm.getD 34 undef = x34
    generalize tmm.getD 35 undef = x35
    go_wp2_with (go_at_call 38; refine CL.out.mono ?_; rintro _ w4 ⟨va, vc, rfl, hown, hb4⟩; have HO := hide hown; have HB4 := hide hb4; clear hown hb4)
    go_ret2
    exact ⟨va, vc, rfl, owns_down HO.out HB3.out.size, HB3.out.trans (HB4.out.mono HB3.out.size)⟩
end
end Go.Proofs.YtcobmbclhhimjaaGreat.Fa
/- Differ, whatever it is given. -/
namespace Go.Proofs.YtcobmbclhhimjaaGreat.Fa
open Go.RowKit

section
variable {w : World} {T : Th} {A B mA mB : List Int} {fa ra ba ea xa : Option Addr} {fc rc bc ec xc : Nat}
set_option maxRecDepth 100000 in
set_option maxHeartbeats 6400000 in
theorem Differ_no (h : TA w.heap.size w T fa fc ra rc ba bc) (hA : Ints w.heap.size w A (.slice ea A.length ec)) (hB : Ints w.heap.size w B (.slice xa B.length xc)) (h0 : faultM T A ≠ 0 ∨ faultM T A = 0 ∧ risesM B T.lits = false) :
    Calls Tryz.prog 23 #[tv T fa fc ra rc ba bc, .slice ea A.length ec, .slice xa B.length xc] w fun e w' => e = .returned (.tuple #[.slice none 0 0, .int .i64 (Rf.difE T A B)]) ∧ Below w.heap.size w w' := by
  have hBw := below_new w (.cells #[.int .i64 T.lits, .slice fa T.foes.length fc, .slice ra T.rules.length rc, .slice ba T.beats.length bc] 25)
  have hX := heap_alloc_new w (.cells #[.int .i64 T.lits, .slice fa T.foes.length fc, .slice ra T.rules.length rc, .slice ba T.beats.length bc] 25)
  have CF := hide (fault_any (TR.go hBw h) (Ints.go hBw hA))
  have HB := hide (Ints.go hBw hB)
  have HBw := hide hBw
  have HX := hide hX
  obtain ⟨z, hz⟩ : ∃ z, Rf.difE T A B = z := ⟨_, rfl⟩
  rw [hz]
  have HZ := hide hz
  clear h hBw hA hB hz
  go_enter Tryz.func23, Tryz.ntmps23
  go_upto_region 1 with fail
  generalize w.alloc (.cells #[.int .i64 T.lits, .slice fa T.foes.length fc, .slice ra T.rules.length rc, .slice ba T.beats.length bc] 25) = W at *
  obtain ⟨-, c0, c1, c2, c3⟩ := Bt.of hX
  clear hX
  rcases h0 with h0 | ⟨h0, hr⟩
  · have hne : (faultM T A != 0) = true := by simpa using h0
    have HE : Hid (faultM T A = z) := hide (by rw [← HZ.out]; unfold Rf.difE; rw [if_pos h0])
    clear h0
    generalize faultM T A = e0 at *
    go_wp2_with (go_at_call 29; refine CF.out.mono ?_; rintro _ w1 ⟨rfl, hw1⟩; have HW1 := hide hw1; clear hw1)
    go_ret2
    exact ⟨by rw [HE.out]; rfl, HBw.out.trans (HW1.out.mono HBw.out.size)⟩
  · have HE : Hid ((181 : Int) = z) := hide (by
      rw [← HZ.out]
      unfold Rf.difE
      rw [if_neg (by omega)]
      have hc : ¬ (checkM T).1 ≠ 0 := fun hc => by unfold faultM at h0; rw [if_pos hc] at h0; exact hc h0
      unfold faultM
      rw [if_neg hc, hr]
      rfl)
    rw [h0] at CF
    have HR := hide hr
    clear h0 hr
    go_upto_region 4 with (go_at_call 29; refine CF.out.mono ?_; rintro _ w1 ⟨rfl, hw1⟩; have HW1 := hide hw1; clear hw1)
    have HX1 := hide ((HW1.out.block _ (loc_lt HX.out)).trans HX.out)
    have CC := hide (checkFacts_any (T := T) (fa := fa) (fc := fc) (ra := ra) (rc := rc) (ba := ba) (bc := bc) (Ints.go HW1.out HB.out))
    rw [HR.out] at CC
    have HB1 := hide (HBw.out.trans (HW1.out.mono HBw.out.size))
    clear c0 c1 c2 c3 CF HX HB HBw HW1
    obtain ⟨-, c0, c1, c2, c3⟩ := Bt.of HX1.out
    go_wp2_with (go_at_call 41; refine CC.out.mono ?_; rintro _ w2 ⟨rfl, hw2⟩; have HW2 := hide hw2; clear hw2)
    go_ret2
    exact ⟨by rw [HE.out]; rfl, HB1.out.trans (HW2.out.mono HB1.out.size)⟩
theorem Differ_any (hMA : Rf.Uq T A mA) (hMB : Rf.Uq T B mB) (h : TA w.heap.size w T fa fc ra rc ba bc) (hA : Ints w.heap.size w A (.slice ea A.length ec)) (hB : Ints w.heap.size w B (.slice xa B.length xc)) :
    Calls Tryz.prog 23 #[tv T fa fc ra rc ba bc, .slice ea A.length ec, .slice xa B.length xc] w fun e w' => ∃ va vc, e = .returned (.tuple #[.slice va (Rf.difL T A B mA mB).length vc, .int .i64 (Rf.difE T A B)]) ∧ At1 w' va (ints (Rf.difL T A B mA mB)) ∧ Below w.heap.size w w' := by
  have no : (faultM T A ≠ 0 ∨ faultM T A = 0 ∧ risesM B T.lits = false) → Rf.difE T A B ≠ 0 → Calls Tryz.prog 23 #[tv T fa fc ra rc ba bc, .slice ea A.length ec, .slice xa B.length xc] w fun e w' => ∃ va vc, e = .returned (.tuple #[.slice va (Rf.difL T A B mA mB).length vc, .int .i64 (Rf.difE T A B)]) ∧ At1 w' va (ints (Rf.difL T A B mA mB)) ∧ Below w.heap.size w w' := fun h0 hne => by
    have e0 : Rf.difL T A B mA mB = [] := by unfold Rf.difL; rw [if_neg hne]
    rw [e0]
    refine (Differ_no h hA hB h0).mono ?_
    rintro _ w' ⟨rfl, hb⟩
    exact ⟨none, 0, rfl, fun i v hi => (by simp [ints] at hi), hb⟩
  by_cases h0 : faultM T A = 0
  · have hc : ¬ (checkM T).1 ≠ 0 := fun hc => by unfold faultM at h0; rw [if_pos hc] at h0; exact hc h0
    have eB : faultM T B = if risesM B T.lits then (0 : Int) else 181 := by unfold faultM; rw [if_neg hc]
    have eD : Rf.difE T A B = faultM T B := by unfold Rf.difE; rw [if_neg (by omega)]
    cases hr : risesM B T.lits with
    | false => exact no (.inr ⟨h0, hr⟩) (by rw [eD, eB, hr]; decide)
    | true =>
      have h1 : faultM T B = 0 := by rw [eB, hr]; rfl
      obtain ⟨m1, k1, hs1⟩ := sol_exists (pf_of h0)
      obtain ⟨m2, k2, hs2⟩ := sol_exists (pf_of h1)
      obtain rfl := hMA _ _ hs1
      obtain rfl := hMB _ _ hs2
      have eL : Rf.difL T A B m1 m2 = soL (difP m1 m2) T.lits.toNat := by unfold Rf.difL; rw [if_pos (by rw [eD, h1])]; rfl
      rw [eL, eD, h1]
      refine (Differ_ok h hA hB h0 h1 rfl hs1 hs2).mono ?_
      rintro _ w' ⟨va, vc, rfl, hown, hb⟩
      exact ⟨va, vc, rfl, owns_at1 hown, hb⟩
  · exact no (.inl h0) (by unfold Rf.difE; rw [if_pos h0]; exact h0)
end
end Go.Proofs.YtcobmbclhhimjaaGreat.Fa
