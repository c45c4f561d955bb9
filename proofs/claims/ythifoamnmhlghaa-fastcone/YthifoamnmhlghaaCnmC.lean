/- The cone, plain: what it reaches. -/
import Derived.Test.YthifoamnmhlghaaBackM
import Derived.Test.YthifoamnmhlghaaSiz
namespace Go.Proofs.Ythifoamnmhlghaa.Cz

/-- One step: a foe, or the head of a rule with it in its body. -/
def Edg (T : Th) (x y : Int) : Prop := y ∈ row T.foes x ∨ ∃ r ∈ T.rules, x ∈ r.body ∧ y = r.head
inductive Rch (T : Th) (a : List Int) : Int → Prop
  | base {x : Int} : x ∈ a → Rch T a x
  | step {x y : Int} : Rch T a x → Edg T x y → Rch T a y
def addH (H : List (List Int)) (x h : Int) : List (List Int) := H.set x.toNat (row H x ++ [h])
def headB (h : Int) : List Int → List (List Int) → List (List Int)
  | [], H => H
  | x :: l, H => headB h l (addH H x h)
def headR : List RuleM → List (List Int) → List (List Int)
  | [], H => H
  | r :: l, H => headR l (headB r.head r.body H)
def headsM (T : Th) : List (List Int) := headR T.rules (List.replicate T.lits.toNat [])
theorem addH_len {H : List (List Int)} {x h : Int} : (addH H x h).length = H.length := by unfold addH; simp
theorem headB_len {h : Int} {l : List Int} {H : List (List Int)} : (headB h l H).length = H.length := by
  induction l generalizing H with
  | nil => rfl
  | cons x l ih => unfold headB; rw [ih, addH_len]
theorem headR_len {l : List RuleM} {H : List (List Int)} : (headR l H).length = H.length := by
  induction l generalizing H with
  | nil => rfl
  | cons r l ih => unfold headR; rw [ih, headB_len]
theorem row_set {H : List (List Int)} {n : Nat} {v : List Int} {x : Int} : row (H.set n v) x = if x.toNat = n ∧ n < H.length then v else row H x := by
  unfold row
  rw [List.getD_eq_getElem?_getD, List.getD_eq_getElem?_getD, List.getElem?_set]
  by_cases h : n = x.toNat
  · subst h
    by_cases h2 : x.toNat < H.length
    · simp [h2]
    · simp [h2]
  · have : ¬ x.toNat = n := fun e => h e.symm
    simp [h, this]
theorem addH_mem {H : List (List Int)} {x h z y : Int} (hx : 0 ≤ x ∧ x < H.length) (hz : 0 ≤ z) : y ∈ row (addH H x h) z ↔ y ∈ row H z ∨ (z = x ∧ y = h) := by
  unfold addH
  rw [row_set]
  by_cases e : z = x
  · subst e
    rw [if_pos ⟨rfl, by omega⟩]
    simp
  · rw [if_neg (by omega)]
    simp [e]
theorem headB_mem {h z y : Int} {l : List Int} {H : List (List Int)} (hl : ∀ x ∈ l, 0 ≤ x ∧ x < H.length) (hz : 0 ≤ z) : y ∈ row (headB h l H) z ↔ y ∈ row H z ∨ (z ∈ l ∧ y = h) := by
  induction l generalizing H with
  | nil => simp [headB]
  | cons x l ih =>
    unfold headB
    rw [ih (by rw [addH_len]; exact fun q hq => hl q (List.mem_cons_of_mem _ hq)), addH_mem (hl x (by simp)) hz]
    simp only [List.mem_cons]
    constructor
    · rintro ((h1 | ⟨h1, h2⟩) | ⟨h1, h2⟩)
      · exact .inl h1
      · exact .inr ⟨.inl h1, h2⟩
      · exact .inr ⟨.inr h1, h2⟩
    · rintro (h1 | ⟨h1 | h1, h2⟩)
      · exact .inl (.inl h1)
      · exact .inl (.inr ⟨h1, h2⟩)
      · exact .inr ⟨h1, h2⟩
theorem headR_mem {z y : Int} {l : List RuleM} {H : List (List Int)} (hl : ∀ r ∈ l, ∀ x ∈ r.body, 0 ≤ x ∧ x < H.length) (hz : 0 ≤ z) : y ∈ row (headR l H) z ↔ y ∈ row H z ∨ ∃ r ∈ l, z ∈ r.body ∧ y = r.head := by
  induction l generalizing H with
  | nil => simp [headR]
  | cons r l ih =>
    unfold headR
    rw [ih (by rw [headB_len]; exact fun q hq => hl q (List.mem_cons_of_mem _ hq)), headB_mem (hl r (by simp)) hz]
    simp only [List.mem_cons]
    constructor
    · rintro ((h1 | h1) | ⟨q, h1, h2⟩)
      · exact .inl h1
      · exact .inr ⟨r, .inl rfl, h1⟩
      · exact .inr ⟨q, .inr h1, h2⟩
    · rintro (h1 | ⟨q, rfl | h1, h2⟩)
      · exact .inl (.inl h1)
      · exact .inl (.inr h2)
      · exact .inr ⟨q, h1, h2⟩
theorem headsM_mem {T : Th} (hl : ∀ r ∈ T.rules, ∀ x ∈ r.body, 0 ≤ x ∧ x < T.lits) {z y : Int} (hz : 0 ≤ z) : y ∈ row (headsM T) z ↔ ∃ r ∈ T.rules, z ∈ r.body ∧ y = r.head := by
  unfold headsM
  rw [headR_mem (fun r hr x hx => by have := hl r hr x hx; simp; omega) hz]
  have : row (List.replicate T.lits.toNat []) z = [] := by
    unfold row
    rw [List.getD_eq_getElem?_getD, List.getElem?_replicate]
    split <;> rfl
  rw [this]
  simp

/-- What the closure does with a list. -/
def reachM : List Int → List Bool × List Int → List Bool × List Int
  | [], s => s
  | x :: l, (R, W) => reachM l (if R.getD x.toNat false then (R, W) else (R.set x.toNat true, W ++ [x]))
def coneL (T : Th) (H : List (List Int)) : Nat → List Bool × List Int → List Bool
  | 0, s => s.1
  | n + 1, (R, W) => match W.getLast? with
    | none => R
    | some x => coneL T H n (reachM (row H x) (reachM (row T.foes x) (R, W.dropLast)))
abbrev hit (R : List Bool) (x : Int) : Bool := R.getD x.toNat false
theorem hit_set {R : List Bool} {x y : Int} (hx : 0 ≤ x ∧ x < R.length) (hy : 0 ≤ y) : hit (R.set x.toNat true) y = (hit R y || decide (y = x)) := by
  unfold hit
  rw [List.getD_eq_getElem?_getD, List.getD_eq_getElem?_getD, List.getElem?_set]
  by_cases e : y = x
  · subst e
    have : y.toNat < R.length := by omega
    simp [this]
  · have : ¬ x.toNat = y.toNat := by omega
    simp [this, e]
/-- How many are not reached yet. -/
def lackN (R : List Bool) : Nat := (R.filter fun b => !b).length
theorem lack_set {R : List Bool} {n : Nat} (hn : n < R.length) (h : R.getD n false = false) : lackN (R.set n true) + 1 = lackN R := by
  unfold lackN
  induction R generalizing n with
  | nil => simp at hn
  | cons b R ih =>
    cases n with
    | zero =>
      have : b = false := h
      subst this
      simp
    | succ n =>
      have := ih (n := n) (by simpa using hn) (by simpa using h)
      cases b <;> simp [List.set_cons_succ] <;> omega
structure Rc (R R' : List Bool) (W W' l : List Int) : Prop where
  len : R'.length = R.length
  sum : lackN R' + W'.length = lackN R + W.length
  hit : ∀ y, 0 ≤ y → (Go.Proofs.Ythifoamnmhlghaa.Cz.hit R' y = true ↔ Go.Proofs.Ythifoamnmhlghaa.Cz.hit R y = true ∨ y ∈ l)
  wait : ∀ y, y ∈ W' ↔ y ∈ W ∨ (y ∈ l ∧ Go.Proofs.Ythifoamnmhlghaa.Cz.hit R y = false)
theorem reach_rc {l : List Int} {R : List Bool} {W : List Int} (hl : ∀ x ∈ l, 0 ≤ x ∧ x < R.length) : Rc R (reachM l (R, W)).1 W (reachM l (R, W)).2 l := by
  induction l generalizing R W with
  | nil => exact ⟨rfl, rfl, by simp [reachM], by simp [reachM]⟩
  | cons x l ih =>
    have hx := hl x (by simp)
    unfold reachM
    by_cases h : R.getD x.toNat false = true
    · rw [if_pos h]
      have k := ih (R := R) (W := W) fun q hq => hl q (List.mem_cons_of_mem _ hq)
      refine ⟨k.len, k.sum, fun y hy => ?_, fun y => ?_⟩
      · rw [k.hit y hy]
        simp only [List.mem_cons]
        constructor
        · rintro (h1 | h1)
          · exact .inl h1
          · exact .inr (.inr h1)
        · rintro (h1 | rfl | h1)
          · exact .inl h1
          · exact .inl h
          · exact .inr h1
      · rw [k.wait y]
        simp only [List.mem_cons]
        constructor
        · rintro (h1 | ⟨h1, h2⟩)
          · exact .inl h1
          · exact .inr ⟨.inr h1, h2⟩
        · rintro (h1 | ⟨rfl | h1, h2⟩)
          · exact .inl h1
          · rw [show Go.Proofs.Ythifoamnmhlghaa.Cz.hit R y = true from h] at h2; cases h2
          · exact .inr ⟨h1, h2⟩
    · rw [if_neg h]
      have h' : R.getD x.toNat false = false := by simpa using h
      have k := ih (R := R.set x.toNat true) (W := W ++ [x]) fun q hq => by rw [List.length_set]; exact hl q (List.mem_cons_of_mem _ hq)
      have e : ∀ y, 0 ≤ y → Go.Proofs.Ythifoamnmhlghaa.Cz.hit (R.set x.toNat true) y = (Go.Proofs.Ythifoamnmhlghaa.Cz.hit R y || decide (y = x)) := fun y hy => hit_set hx hy
      refine ⟨by rw [k.len, List.length_set], ?_, fun y hy => ?_, fun y => ?_⟩
      · have := k.sum
        have := lack_set (R := R) (n := x.toNat) (by omega) h'
        simp at *
        omega
      · rw [k.hit y hy, e y hy]
        simp only [Bool.or_eq_true, decide_eq_true_eq, List.mem_cons]
        constructor
        · rintro ((h1 | h1) | h1)
          · exact .inl h1
          · exact .inr (.inl h1)
          · exact .inr (.inr h1)
        · rintro (h1 | h1 | h1)
          · exact .inl (.inl h1)
          · exact .inl (.inr h1)
          · exact .inr h1
      · rw [k.wait y]
        simp only [List.mem_append, List.mem_cons, List.not_mem_nil, or_false]
        constructor
        · rintro ((h1 | rfl) | ⟨h1, h2⟩)
          · exact .inl h1
          · exact .inr ⟨.inl rfl, h'⟩
          · have hy := (hl y (List.mem_cons_of_mem _ h1)).1
            rw [e y hy] at h2
            simp at h2
            exact .inr ⟨.inr h1, by simpa using h2.1⟩
        · rintro (h1 | ⟨rfl | h1, h2⟩)
          · exact .inl (.inl h1)
          · exact .inl (.inr rfl)
          · by_cases hyx : y = x
            · exact .inl (.inr hyx)
            · refine .inr ⟨h1, ?_⟩
              rw [e y (hl y (List.mem_cons_of_mem _ h1)).1, h2]
              simp [hyx]
/-- All places that a theory names are places. -/
structure Inn (T : Th) : Prop where
  foe : ∀ x y, y ∈ row T.foes x → 0 ≤ y ∧ y < T.lits
  head : ∀ r ∈ T.rules, 0 ≤ r.head ∧ r.head < T.lits
  body : ∀ r ∈ T.rules, ∀ x ∈ r.body, 0 ≤ x ∧ x < T.lits
theorem Inn.edg {T : Th} (h : Inn T) {x y : Int} (e : Edg T x y) : 0 ≤ y ∧ y < T.lits := by
  rcases e with e | ⟨r, hr, _, rfl⟩
  · exact h.foe x y e
  · exact h.head r hr
theorem Inn.rch {T : Th} (h : Inn T) {a : List Int} (ha : ∀ x ∈ a, 0 ≤ x ∧ x < T.lits) {y : Int} (e : Rch T a y) : 0 ≤ y ∧ y < T.lits := by
  cases e with
  | base e => exact ha y e
  | step _ e => exact h.edg e
structure Ci (T : Th) (a : List Int) (R : List Bool) (W : List Int) : Prop where
  len : (R.length : Int) = T.lits
  wait : ∀ x ∈ W, 0 ≤ x ∧ x < T.lits ∧ hit R x = true
  sound : ∀ y, 0 ≤ y → hit R y = true → Rch T a y
  seeds : ∀ x ∈ a, hit R x = true
  closed : ∀ x, 0 ≤ x → hit R x = true → x ∉ W → ∀ y, Edg T x y → hit R y = true
theorem hit_none {n : Nat} {y : Int} : hit (List.replicate n false) y = false := by
  unfold hit
  rw [List.getD_eq_getElem?_getD, List.getElem?_replicate]
  split <;> rfl
theorem lack_none {n : Nat} : lackN (List.replicate n false) = n := by
  unfold lackN
  rw [List.filter_replicate]
  simp
theorem Ci.start {T : Th} {a : List Int} (h0 : 0 ≤ T.lits) (ha : ∀ x ∈ a, 0 ≤ x ∧ x < T.lits) : Ci T a (reachM a (List.replicate T.lits.toNat false, [])).1 (reachM a (List.replicate T.lits.toNat false, [])).2 ∧ lackN (reachM a (List.replicate T.lits.toNat false, [])).1 + (reachM a (List.replicate T.lits.toNat false, [])).2.length = T.lits.toNat := by
  have k := reach_rc (l := a) (R := List.replicate T.lits.toNat false) (W := []) fun x hx => by have := ha x hx; simp; omega
  refine ⟨⟨by rw [k.len]; simp; omega, fun x hx => ?_, fun y hy hh => ?_, fun x hx => ?_, fun x h1 h2 h3 => ?_⟩, ?_⟩
  · rcases (k.wait x).1 hx with h | ⟨h, _⟩
    · cases h
    · exact ⟨(ha x h).1, (ha x h).2, (k.hit x (ha x h).1).2 (.inr h)⟩
  · rcases (k.hit y hy).1 hh with h | h
    · rw [hit_none] at h; cases h
    · exact .base h
  · exact (k.hit x (ha x hx).1).2 (.inr hx)
  · rcases (k.hit x h1).1 h2 with h | h
    · rw [hit_none] at h; cases h
    · exact absurd ((k.wait x).2 (.inr ⟨h, hit_none⟩)) h3
  · have := k.sum
    rw [lack_none] at this
    simpa using this
theorem last_split {W : List Int} {x : Int} (h : W.getLast? = some x) : W = W.dropLast ++ [x] := by
  obtain ⟨l, rfl⟩ := List.getLast?_eq_some_iff.1 h
  simp
theorem Ci.next {T : Th} (hT : Inn T) {a : List Int} {R : List Bool} {W : List Int} {x : Int} (h : Ci T a R W) (hx : W.getLast? = some x) :
    Ci T a (reachM (row (headsM T) x) (reachM (row T.foes x) (R, W.dropLast))).1 (reachM (row (headsM T) x) (reachM (row T.foes x) (R, W.dropLast))).2 ∧ lackN (reachM (row (headsM T) x) (reachM (row T.foes x) (R, W.dropLast))).1 + (reachM (row (headsM T) x) (reachM (row T.foes x) (R, W.dropLast))).2.length + 1 = lackN R + W.length := by
  have hW := last_split hx
  have hxW : x ∈ W := by rw [hW]; simp
  obtain ⟨x0, x1, x2⟩ := h.wait x hxW
  have hlen := h.len
  have k1 := reach_rc (l := row T.foes x) (R := R) (W := W.dropLast) fun y hy => by have := hT.foe x y hy; omega
  have hh : ∀ y, y ∈ row (headsM T) x ↔ ∃ r ∈ T.rules, x ∈ r.body ∧ y = r.head := fun y => headsM_mem hT.body x0
  generalize hs : reachM (row T.foes x) (R, W.dropLast) = s at *
  obtain ⟨R1, W1⟩ := s
  simp only at k1
  have hr : ∀ y, y ∈ row (headsM T) x → 0 ≤ y ∧ y < T.lits := fun y hy => by
    obtain ⟨r, hr, _, rfl⟩ := (hh y).1 hy
    exact hT.head r hr
  have k2 := reach_rc (l := row (headsM T) x) (R := R1) (W := W1) fun y hy => by have := hr y hy; have := k1.len; omega
  generalize reachM (row (headsM T) x) (R1, W1) = s2 at *
  obtain ⟨R2, W2⟩ := s2
  simp only at k2 ⊢
  have hit2 : ∀ y, 0 ≤ y → (hit R2 y = true ↔ hit R y = true ∨ Edg T x y) := by
    intro y hy
    rw [k2.hit y hy, k1.hit y hy, hh y]
    unfold Edg
    constructor
    · rintro ((h1 | h1) | h1)
      · exact .inl h1
      · exact .inr (.inl h1)
      · exact .inr (.inr h1)
    · rintro (h1 | h1 | h1)
      · exact .inl (.inl h1)
      · exact .inl (.inr h1)
      · exact .inr h1
  refine ⟨⟨by rw [k2.len, k1.len]; exact hlen, fun y hy => ?_, fun y hy hh2 => ?_, fun y hy => ?_, fun y y0 y1 y2 z hz => ?_⟩, ?_⟩
  · have rng : 0 ≤ y ∧ y < T.lits := by
      rcases (k2.wait y).1 hy with h1 | ⟨h1, _⟩
      · rcases (k1.wait y).1 h1 with h2 | ⟨h2, _⟩
        · have := h.wait y (by rw [hW]; exact List.mem_append_left _ h2)
          exact ⟨this.1, this.2.1⟩
        · exact hT.foe x y h2
      · exact hr y h1
    refine ⟨rng.1, rng.2, ?_⟩
    rcases (k2.wait y).1 hy with h1 | ⟨h1, _⟩
    · rcases (k1.wait y).1 h1 with h2 | ⟨h2, _⟩
      · exact (hit2 y rng.1).2 (.inl (h.wait y (by rw [hW]; exact List.mem_append_left _ h2)).2.2)
      · exact (hit2 y rng.1).2 (.inr (.inl h2))
    · exact (k2.hit y rng.1).2 (.inr h1)
  · rcases (hit2 y hy).1 hh2 with h1 | h1
    · exact h.sound y hy h1
    · exact .step (h.sound x x0 x2) h1
  · have h1 := h.seeds y hy
    by_cases y0 : 0 ≤ y
    · exact (hit2 y y0).2 (.inl h1)
    · have e : y.toNat = (0 : Int).toNat := by omega
      have : hit R 0 = true := by unfold hit at h1 ⊢; rw [e] at h1; exact h1
      have := (hit2 0 (by omega)).2 (.inl this)
      unfold hit at this ⊢
      rw [e]
      exact this
  · have hzr := hT.edg hz
    by_cases e : y = x
    · subst e
      exact (hit2 z hzr.1).2 (.inr hz)
    · rcases (k2.hit y y0).1 y1 with h1 | h1
      · rcases (k1.hit y y0).1 h1 with h2 | h2
        · by_cases hyW : y ∈ W
          · rw [hW] at hyW
            rcases List.mem_append.1 hyW with h3 | h3
            · exact absurd ((k2.wait y).2 (.inl ((k1.wait y).2 (.inl h3)))) y2
            · exact absurd (by simpa using h3) e
          · exact (hit2 z hzr.1).2 (.inl (h.closed y y0 h2 hyW z hz))
        · cases hb : hit R y with
          | false => exact absurd ((k2.wait y).2 (.inl ((k1.wait y).2 (.inr ⟨h2, hb⟩)))) y2
          | true =>
            by_cases hyW : y ∈ W
            · rw [hW] at hyW
              rcases List.mem_append.1 hyW with h3 | h3
              · exact absurd ((k2.wait y).2 (.inl ((k1.wait y).2 (.inl h3)))) y2
              · exact absurd (by simpa using h3) e
            · exact (hit2 z hzr.1).2 (.inl (h.closed y y0 hb hyW z hz))
      · cases hb : hit R1 y with
        | false => exact absurd ((k2.wait y).2 (.inr ⟨h1, hb⟩)) y2
        | true =>
          rcases (k1.hit y y0).1 hb with h2 | h2
          · by_cases hyW : y ∈ W
            · rw [hW] at hyW
              rcases List.mem_append.1 hyW with h3 | h3
              · exact absurd ((k2.wait y).2 (.inl ((k1.wait y).2 (.inl h3)))) y2
              · exact absurd (by simpa using h3) e
            · exact (hit2 z hzr.1).2 (.inl (h.closed y y0 h2 hyW z hz))
          · cases hb2 : hit R y with
            | false => exact absurd ((k2.wait y).2 (.inl ((k1.wait y).2 (.inr ⟨h2, hb2⟩)))) y2
            | true =>
              by_cases hyW : y ∈ W
              · rw [hW] at hyW
                rcases List.mem_append.1 hyW with h3 | h3
                · exact absurd ((k2.wait y).2 (.inl ((k1.wait y).2 (.inl h3)))) y2
                · exact absurd (by simpa using h3) e
              · exact (hit2 z hzr.1).2 (.inl (h.closed y y0 hb2 hyW z hz))
  · have s1 := k1.sum
    have s2 := k2.sum
    have : W.length = W.dropLast.length + 1 := by rw [hW]; simp
    omega
/-- Nothing waits: the cone. -/
theorem Ci.done {T : Th} {a : List Int} {R : List Bool} (h : Ci T a R []) (hT : Inn T) (ha : ∀ x ∈ a, 0 ≤ x ∧ x < T.lits) {y : Int} (hy : 0 ≤ y) : hit R y = true ↔ Rch T a y := by
  refine ⟨h.sound y hy, fun hr => ?_⟩
  induction hr with
  | base e => exact h.seeds _ e
  | step e1 e2 ih => exact h.closed _ (hT.rch ha e1).1 (ih (hT.rch ha e1).1) (by simp) _ e2
theorem coneL_ok {T : Th} (hT : Inn T) {a : List Int} (ha : ∀ x ∈ a, 0 ≤ x ∧ x < T.lits) {n : Nat} {R : List Bool} {W : List Int} (h : Ci T a R W) (hn : lackN R + W.length ≤ n) : ((coneL T (headsM T) n (R, W)).length : Int) = T.lits ∧ ∀ y, 0 ≤ y → (hit (coneL T (headsM T) n (R, W)) y = true ↔ Rch T a y) := by
  induction n generalizing R W with
  | zero =>
    have : W = [] := List.eq_nil_of_length_eq_zero (by omega)
    subst this
    exact ⟨h.len, fun y hy => h.done hT ha hy⟩
  | succ n ih =>
    unfold coneL
    cases hx : W.getLast? with
    | none =>
      have : W = [] := by simpa using hx
      subst this
      exact ⟨h.len, fun y hy => h.done hT ha hy⟩
    | some x =>
      obtain ⟨h1, h2⟩ := h.next hT hx
      exact ih h1 (by omega)
end Go.Proofs.Ythifoamnmhlghaa.Cz
/- placesOf. -/
namespace Go.Proofs.Ythifoamnmhlghaa.Cz
open Go.RowKit

def placesK (R : List Bool) (k : Nat) : List Int := ((List.range k).filter fun i => R.getD i false).map Int.ofNat
abbrev placesM (R : List Bool) : List Int := placesK R R.length
theorem placesK_yes {R : List Bool} {k : Nat} (h : R.getD k false = true) : placesK R (k + 1) = placesK R k ++ [(k : Int)] := by
  unfold placesK
  have e : List.filter (fun i => R.getD i false) [k] = [k] := by rw [List.filter_cons, if_pos h]; rfl
  rw [List.range_succ, List.filter_append, List.map_append, e]
  rfl
theorem placesK_no {R : List Bool} {k : Nat} (h : R.getD k false = false) : placesK R (k + 1) = placesK R k := by
  unfold placesK
  have e : List.filter (fun i => R.getD i false) [k] = [] := by rw [List.filter_cons, if_neg (by rw [h]; decide)]; rfl
  rw [List.range_succ, List.filter_append, List.map_append, e]
  simp
theorem placesK_len {R : List Bool} {k : Nat} : (placesK R k).length ≤ k := by
  unfold placesK
  rw [List.length_map]
  have := List.length_filter_le (fun i => R.getD i false) (List.range k)
  simpa using this
theorem boolz_at {R : List Bool} {k : Nat} (h : k < R.length) : (bools R)[k]? = some (.bool (R.getD k false)) := by
  unfold bools
  rw [List.getElem?_map, List.getD_eq_getElem?_getD, List.getElem?_eq_getElem h]
  rfl
set_option maxRecDepth 100000 in
set_option maxHeartbeats 3200000 in
theorem placesOf_any {g c : Nat} {R : List Bool} {w : World} (h : Fx g 4 (bools R) w) (hl : R.length ≤ 4096) :
    Calls Try.prog 38 #[.slice (some ⟨g, 0, none⟩) R.length c] w fun e w' => ∃ a d, e = .returned (.slice a (placesM R).length d) ∧ w'.ownsRow w.heap.size 3 1 (.slice a (placesM R).length d) (placesM R).length (ints (placesM R)) ∧ Below w.heap.size w w' := by
  obtain ⟨iI, hiI, zI0, zI1, zI2⟩ := info_parts infoI
  have HF := hide h
  obtain ⟨n, hn⟩ : ∃ n, R.length = n := ⟨_, rfl⟩
  have HN := hide hn
  rw [hn] at hl
  unfold placesM
  rw [hn]
  clear h hn
  go_enter Try.func38, Try.ntmps38
  go_wp2_with fail
  go_loopw [3, 8] (fun y x wr => ∃ (k : Nat) (acc : List Int) (a : Option Addr) (d : Nat), k ≤ n ∧ x = .int .i64 k ∧ y = .slice a acc.length d ∧ acc.length ≤ k ∧ Hid (acc = placesK R k) ∧ Hid (wr.ownsRow w.heap.size 3 1 (.slice a acc.length d) acc.length (ints acc)) ∧ Hid (Below w.heap.size w wr)) (fun _ x _ => n - (intOf x).toNat)
  case atStart => exact ⟨0, [], none, 0, by omega, rfl, rfl, by simp, hide rfl, hide ⟨rfl, .inl ⟨rfl, rfl⟩⟩, hide (Below.refl _ _)⟩
  case round =>
    obtain ⟨k, acc, a, d, hk, rfl, rfl, hal, HA, HRow, HB⟩ := hrel
    by_cases hlt : k < n
    · have hF := HF.out.keep (HB.out.block g HF.out.lt)
      cases hr : R.getD k false with
      | true =>
        have cx := hF.get (boolz_at (R := R) (k := k) (by rw [HN.out]; exact hlt))
        rw [hr] at cx
        have HP := hide (placesK_yes hr)
        have hA := below_new wr (.cells #[.int .i64 k] 3)
        have HROW := hide (owns_keep HRow.out fun g hg => hA.block g (owns_lt HRow.out hg))
        have hw2 : w.heap.size ≤ wr.heap.size := HB.out.size
        clear hr hF hA
        go_upto_region 7 with (at_builtin; go_must (refine wpList_append_two _ rfl _ _ 26 rfl w.heap.size 3 iI _ 1 8 Try.underlying26 hiI zI0 zI1 zI2 rfl (by decide) _ _ (ints acc) rfl HROW.out ⟨wr.heap.size, 0, none⟩ 1 [.int .i64 k] rfl rfl (cell_one_new _ _ _) (by intro u hu; simp at hu; subst hu; rfl) (by unfold maxLen; omega) (by omega) (by simp; omega) ?_); intro g4 cap4 w4 hown4 hg4)
        have hg5 : (Value.ownBlock (.slice a acc.length d) = some g4 ∧ (wr.alloc (.cells #[.int .i64 k] 3)).grownBy w4 (some g4)) ∨ (g4 = wr.heap.size + 1 ∧ (wr.alloc (.cells #[.int .i64 k] 3)).grownBy w4 none) := by
          rcases hg4 with h | ⟨h1, h2⟩
          · exact .inl h
          · exact .inr ⟨by simpa using h1, h2⟩
        have HF4 := hide (HB.out.trans ((grown_fr (Z := fun k => w.heap.size ≤ k) rfl hg5 fun g e => (HRow.out.lt g e).1).below fun k hk => ⟨by omega, by omega⟩))
        have HO4 := hide hown4
        clear hown4 hg4 hg5 cx
        go_wp2_with fail
        go_roundw
        case rel => exact ⟨k + 1, acc ++ [(k : Int)], some ⟨g4, 0, none⟩, cap4, by omega, by go_num, by rw [List.length_append]; rfl, by rw [List.length_append]; simp; omega, hide (by rw [HA.out]; exact HP.out.symm), hide (by rw [List.length_append, ints_snoc]; exact HO4.out), HF4⟩
        case measure => simp [intOf]; omega
      | false =>
        have cx := hF.get (boolz_at (R := R) (k := k) (by rw [HN.out]; exact hlt))
        rw [hr] at cx
        have HP := hide (placesK_no hr)
        clear hr hF
        go_wp2_with fail
        go_roundw
        case rel => exact ⟨k + 1, acc, a, d, by omega, by go_num, rfl, by omega, hide (by rw [HA.out]; exact HP.out.symm), HRow, HB⟩
        case measure => simp [intOf]; omega
    · have hkn : k = n := by omega
      subst hkn
      go_wp2_with fail
      go_ret
      rw [← HA.out]
      exact ⟨a, d, rfl, HRow.out, HB.out⟩
end Go.Proofs.Ythifoamnmhlghaa.Cz
/- The closure of coneOf. -/
namespace Go.Proofs.Ythifoamnmhlghaa.Cz
open Go.RowKit

theorem reach_snoc {l : List Int} {x : Int} {s : List Bool × List Int} : reachM (l ++ [x]) s = reachM [x] (reachM l s) := by
  induction l generalizing s with
  | nil => rfl
  | cons y l ih =>
    obtain ⟨R, W⟩ := s
    show reachM (l ++ [x]) _ = reachM [x] (reachM l _)
    exact ih
theorem reach_yes {x : Int} {R : List Bool} {W : List Int} (h : R.getD x.toNat false = true) : reachM [x] (R, W) = (R, W) := by
  show (if R.getD x.toNat false then (R, W) else _) = _
  rw [if_pos h]
theorem reach_no {x : Int} {R : List Bool} {W : List Int} (h : R.getD x.toNat false = false) : reachM [x] (R, W) = (R.set x.toNat true, W ++ [x]) := by
  show (if R.getD x.toNat false then (R, W) else _) = _
  rw [if_neg (by rw [h]; decide)]
/-- What the closure keeps: two boxes, what is reached, what waits. -/
structure Co (B rb wb g n : Nat) (R : List Bool) (W : List Int) (wv : Value) (w : World) : Prop where
  bx : Fx rb 50 [.slice (some ⟨g, 0, none⟩) n n] w
  wx : Fx wb 26 [wv] w
  rr : Fx g 4 (bools R) w
  ro : w.ownsRow B 3 1 wv W.length (ints W)
  lo : B ≤ rb ∧ B ≤ wb ∧ B ≤ g
  ln : R.length = n
section
variable {B rb wb g n : Nat} {R : List Bool} {W : List Int} {wv : Value} {w w' : World}
theorem Co.mark (h : Co B rb wb g n R W wv w) (i : Nat) : Co B rb wb g n (R.set i true) W wv (w.setCell ⟨g, i, none⟩ (.bool true)) := by
  refine ⟨h.bx.keep (other_set (fx_ne h.bx h.rr (by decide))), h.wx.keep (other_set (fx_ne h.wx h.rr (by decide))), ?_, owns_keep h.ro fun k hk => other_set fun e => own_fx h.ro h.rr (by decide) (e ▸ hk), h.lo, by rw [List.length_set]; exact h.ln⟩
  rw [← bools_set]
  exact h.rr.set i _
theorem Co.more (h : Co B rb wb g n R W wv w) {x : Int} {g4 cap4 : Nat} {ob : Obj} (hown : w'.ownsRow B 3 1 (.slice (some ⟨g4, 0, none⟩) (W.length + 1) cap4) (W.length + 1) (ints W ++ [.int .i64 x]))
    (hg : (wv.ownBlock = some g4 ∧ (w.alloc ob).grownBy w' (some g4)) ∨ (g4 = w.heap.size + 1 ∧ (w.alloc ob).grownBy w' none)) :
    w'.cell? ⟨wb, 0, none⟩ = some wv ∧ w'.frozen? ⟨wb, 0, none⟩ = false ∧ Co B rb wb g n R (W ++ [x]) (.slice (some ⟨g4, 0, none⟩) (W.length + 1) cap4) (w'.setCell ⟨wb, 0, none⟩ (.slice (some ⟨g4, 0, none⟩) (W.length + 1) cap4)) ∧ (B ≤ w.heap.size → Below B w (w'.setCell ⟨wb, 0, none⟩ (.slice (some ⟨g4, 0, none⟩) (W.length + 1) cap4))) := by
  have ho : ∀ k, k < w.heap.size → wv.ownBlock ≠ some k → w'.heap[k]? = w.heap[k]? := fun k hk hn => grown_old rfl hg hk hn
  have b1 := h.bx.keep (ho _ h.bx.lt (own_fx h.ro h.bx (by decide)))
  have b2 := h.wx.keep (ho _ h.wx.lt (own_fx h.ro h.wx (by decide)))
  have b3 := h.rr.keep (ho _ h.rr.lt (own_fx h.ro h.rr (by decide)))
  refine ⟨b2.get rfl, b2.frz 0, ⟨b1.keep (other_set (fx_ne b1 b2 (by decide))), b2.set 0 _, b3.keep (other_set (fx_ne b3 b2 (by decide))), ?_, h.lo, h.ln⟩, fun hB => ?_⟩
  · rw [List.length_append, ints_snoc]
    exact owns_keep hown fun k hk => other_set fun e => own_fx hown b2 (by decide) (e ▸ hk)
  · exact ((grown_fr (Z := fun k => B ≤ k) rfl hg fun g e => (h.ro.lt g e).1).below fun k hk => ⟨by omega, by omega⟩).setCell (p := ⟨wb, 0, none⟩) h.lo.2.1 _
end
set_option maxRecDepth 100000 in
set_option maxHeartbeats 6400000 in
theorem reach_any {B rb wb g n : Nat} {R : List Bool} {W l : List Int} {w : World} {a : Option Addr} {c : Nat} (h : ∃ wv, Co B rb wb g n R W wv w) (hB : B ≤ w.heap.size) (hl : Ints B w l (.slice a l.length c)) (hin : ∀ x ∈ l, 0 ≤ x ∧ x < (n : Int)) (hs : lackN R + W.length ≤ 4096) :
    Calls Try.prog 37 #[.slice a l.length c, ptr rb, ptr wb] w fun e w' => e = .returned (.tuple #[]) ∧ (∃ wv, Co B rb wb g n (reachM l (R, W)).1 (reachM l (R, W)).2 wv w') ∧ Below B w w' := by
  obtain ⟨iI, hiI, zI0, zI1, zI2⟩ := info_parts infoI
  have hRn : R.length = n := by obtain ⟨_, h1⟩ := h; exact h1.ln
  have HRn := hide hRn
  have HL := hide hl
  have HI := hide hin
  have hlim := hl.lim
  have HS := hide hs
  have H0 := hide h
  clear hl hin hs h hRn
  go_enter Try.func37, Try.ntmps37
  go_wp2_with fail
  go_loopw [8] (fun x wr => ∃ k : Nat, k ≤ l.length ∧ x = .int .i64 k ∧ Hid (∃ wv, Co B rb wb g n (reachM (l.take k) (R, W)).1 (reachM (l.take k) (R, W)).2 wv wr) ∧ Hid (Below B w wr)) (fun x _ => l.length - (intOf x).toNat)
  case atStart => exact ⟨0, by omega, rfl, H0, hide (Below.refl _ _)⟩
  case round =>
    clear H0
    obtain ⟨k, hk, rfl, HC, HW⟩ := hrel
    by_cases hlt : k < l.length
    · obtain ⟨x, hx⟩ := get_at hlt
      obtain ⟨ga, oa, rfl, hga, cx⟩ := at_I (HL.out.keep HW.out.block) hx
      obtain ⟨hx0, hx1⟩ := HI.out x (List.mem_of_getElem? hx)
      obtain ⟨xm, rfl⟩ := Int.eq_ofNat_of_zero_le hx0
      obtain ⟨wv, hc⟩ := HC.out
      have rc := reach_rc (l := l.take k) (R := R) (W := W) fun y hy => by have := HI.out y (List.mem_of_mem_take hy); have := HRn.out; omega
      have HT : Hid (reachM (l.take (k + 1)) (R, W) = reachM [(xm : Int)] (reachM (l.take k) (R, W))) := hide (by rw [take_snoc hx, reach_snoc])
      have hsum := rc.sum
      clear rc HC
      generalize reachM (l.take k) (R, W) = s at *
      obtain ⟨R1, W1⟩ := s
      simp only at hc HT hsum
      have hW1 : W1.length ≤ 4096 := by have := HS.out; omega
      have hB1 : B ≤ wr.heap.size := Nat.le_trans hB HW.out.size
      have hxn : xm < n := by omega
      have cb := hc.bx.get (i := 0) rfl
      have cr := hc.rr.get (boolz_at (R := R1) (k := xm) (by rw [hc.ln]; exact hxn))
      have fr := hc.rr.frz xm
      have HC := hide hc
      clear hx hx0 hx1 hsum hc
      cases hb : R1.getD xm false with
      | true =>
        rw [hb] at cr
        have HT2 : Hid (reachM (l.take (k + 1)) (R, W) = (R1, W1)) := hide (HT.out.trans (reach_yes (by simpa using hb)))
        clear hb HT
        go_wp2_with fail
        go_roundw
        case rel => exact ⟨k + 1, by omega, by go_num, hide (by rw [HT2.out]; exact ⟨wv, HC.out⟩), HW⟩
        case measure => simp [intOf]; omega
      | false =>
        rw [hb] at cr
        have HT2 : Hid (reachM (l.take (k + 1)) (R, W) = (R1.set xm true, W1 ++ [(xm : Int)])) := hide (HT.out.trans (reach_no (by simpa using hb)))
        have HM := hide (HC.out.mark xm)
        have HBm := hide (HW.out.setCell (p := ⟨g, xm, none⟩) HC.out.lo.2.2 (.bool true))
        clear hb HT HC HW
        go_upto_region 5 with fail
        have hsz : (wr.setCell ⟨g, xm, none⟩ (.bool true)).heap.size = wr.heap.size := by simp
        generalize wr.setCell ⟨g, xm, none⟩ (.bool true) = w2 at *
        rw [← hsz] at hB1
        clear cb cr fr cx hsz
        obtain ⟨wa, wc, rfl⟩ := owns_slice HM.out.ro
        have cw := HM.out.wx.get (i := 0) rfl
        obtain ⟨K, hK⟩ : ∃ K, W1.length = K := ⟨_, rfl⟩
        have HK := hide hK
        have hA := below_new w2 (.cells #[.int .i64 xm] 3)
        have HROW : Hid ((w2.alloc (.cells #[.int .i64 xm] 3)).ownsRow B 3 1 (.slice wa K wc) K (ints W1)) := hide (by
          have := owns_keep HM.out.ro fun g hg => hA.block g (owns_lt HM.out.ro hg)
          rw [HK.out] at this
          exact this)
        rw [hK] at cw hW1
        clear hA hK
        go_upto_region 6 with (at_builtin; go_must (refine wpList_append_two _ rfl _ _ 26 rfl B 3 iI _ 1 8 Try.underlying26 hiI zI0 zI1 zI2 rfl (by decide) _ _ (ints W1) rfl HROW.out ⟨w2.heap.size, 0, none⟩ 1 [.int .i64 xm] rfl rfl (cell_one_new _ _ _) (by intro u hu; simp at hu; subst hu; rfl) (by unfold maxLen; omega) (by omega) (by simp; omega) ?_); intro g4 cap4 w4 hown4 hg4; have HFin := hide (HM.out.more (w' := w4) (x := xm) (g4 := g4) (cap4 := cap4) (by rw [HK.out]; exact hown4) (by rw [HK.out]; rcases hg4 with h | ⟨h1, h2⟩; exact .inl h; exact .inr ⟨by simpa using h1, h2⟩)); rw [HK.out] at HFin; clear hown4 hg4; obtain ⟨hFa, hFb, hFc, hFd⟩ := HFin.out; have HFc := hide hFc; have HFd := hide (hFd hB1); clear hFc hFd HFin)
        have HB4 := hide (HBm.out.trans HFd.out)
        clear hFa hFb cw HROW HM HFd HBm
        generalize w4.setCell ⟨wb, 0, none⟩ (.slice (some ⟨g4, 0, none⟩) (K + 1) cap4) = w5 at *
        go_wp2_with fail
        go_roundw
        case rel => exact ⟨k + 1, by omega, by go_num, hide (by rw [HT2.out]; exact ⟨_, HFc.out⟩), HB4⟩
        case measure => simp [intOf]; omega
    · have hkl : l.take k = l := List.take_of_length_le (by omega)
      have HC2 : Hid (∃ wv, Co B rb wb g n (reachM l (R, W)).1 (reachM l (R, W)).2 wv wr) := hide (by have := HC.out; rw [hkl] at this; exact this)
      clear HC hkl
      go_wp2_with fail
      go_end0
      exact ⟨rfl, HC2.out, HW.out⟩
end Go.Proofs.Ythifoamnmhlghaa.Cz
/- The heads of coneOf in memory: a row of rows, each of its own. -/
namespace Go.Proofs.Ythifoamnmhlghaa.Cz
open Go.RowKit

/-- The rows' values: each row lies in a block of its own behind hb. -/
structure Hv (hb n : Nat) (H : List (List Int)) (vs : List Value) (w : World) : Prop where
  ln : H.length = n
  vl : vs.length = n
  fx : Fx hb 26 vs w
  own : ∀ (i : Nat) l v, H[i]? = some l → vs[i]? = some v → w.ownsRow (hb + 1) 3 1 v l.length (ints l)
  apart : ∀ (i j : Nat) v u g, vs[i]? = some v → vs[j]? = some u → v.ownBlock = some g → u.ownBlock = some g → i = j
section
variable {hb n : Nat} {H : List (List Int)} {vs : List Value} {w w' : World}
theorem Hv.keep (h : Hv hb n H vs w) (hk : ∀ g, hb ≤ g → g < w.heap.size → w'.heap[g]? = w.heap[g]?) : Hv hb n H vs w' := by
  refine ⟨h.ln, h.vl, h.fx.keep (hk _ (Nat.le_refl _) h.fx.lt), fun i l v h1 h2 => owns_keep (h.own i l v h1 h2) fun g hg => hk g ?_ (owns_lt (h.own i l v h1 h2) hg), h.apart⟩
  have := ((h.own i l v h1 h2).lt g hg).1
  omega
theorem Hv.go (h : Hv hb n H vs w) (hb' : Below w.heap.size w w') : Hv hb n H vs w' := h.keep fun g _ hg => hb'.block g hg
theorem Hv.at (h : Hv hb n H vs w) {i : Nat} (hi : i < n) : ∃ l a c, H[i]? = some l ∧ vs[i]? = some (.slice a l.length c) ∧ w.cell? ⟨hb, i, none⟩ = some (.slice a l.length c) ∧ w.ownsRow (hb + 1) 3 1 (.slice a l.length c) l.length (ints l) := by
  obtain ⟨l, h1⟩ := get_at (l := H) (i := i) (by rw [h.ln]; exact hi)
  obtain ⟨v, h2⟩ := get_at (l := vs) (i := i) (by rw [h.vl]; exact hi)
  have ho := h.own i _ _ h1 h2
  obtain ⟨a, c, e⟩ := owns_slice ho
  rw [e] at ho h2
  exact ⟨l, a, c, h1, h2, h.fx.get h2, ho⟩
theorem Hv.start (w : World) (n : Nat) : Hv w.heap.size n (List.replicate n []) (List.replicate n (.slice none 0 0)) (w.alloc (.cells (Array.replicate n (.slice none 0 0)) 26)) := by
  refine ⟨by simp, by simp, ?_, fun i l v h1 h2 => ?_, fun i j v u g h1 h2 h3 => ?_⟩
  · unfold Fx
    rw [heap_alloc_new]
    simp
  · rw [List.getElem?_replicate] at h1 h2
    split at h1
    · rename_i hi
      rw [if_pos hi] at h2
      cases h1
      cases h2
      exact ⟨rfl, .inl ⟨rfl, rfl⟩⟩
    · cases h1
  · rw [List.getElem?_replicate] at h1
    split at h1
    · cases h1; cases h3
    · cases h1
/-- One number more in row i: the row's block alone is written, or a new one, then the row's cell. -/
theorem Hv.add (h : Hv hb n H vs w) {i : Nat} {l : List Int} {v : Value} (hi : H[i]? = some l) (hv : vs[i]? = some v) {x : Int} {g4 cap4 : Nat} (hnew : w'.ownsRow (hb + 1) 3 1 (.slice (some ⟨g4, 0, none⟩) (l.length + 1) cap4) (l.length + 1) (ints l ++ [.int .i64 x]))
    (hold : ∀ k, k < w.heap.size → v.ownBlock ≠ some k → w'.heap[k]? = w.heap[k]?) (hg : v.ownBlock = some g4 ∨ w.heap.size ≤ g4) :
    Hv hb n (H.set i (l ++ [x])) (vs.set i (.slice (some ⟨g4, 0, none⟩) (l.length + 1) cap4)) (w'.setCell ⟨hb, i, none⟩ (.slice (some ⟨g4, 0, none⟩) (l.length + 1) cap4)) := by
  have hov := h.own i l v hi hv
  have hil : i < n := by rw [← h.ln]; exact (List.getElem?_eq_some_iff.1 hi).1
  have hfx := h.fx.keep (hold _ h.fx.lt (own_fx hov h.fx (by decide)))
  refine ⟨by rw [List.length_set]; exact h.ln, by rw [List.length_set]; exact h.vl, hfx.set i _, fun j m u h1 h2 => ?_, fun j k a b g h1 h2 h3 h4 => ?_⟩
  · by_cases e : i = j
    · subst e
      rw [List.getElem?_set_self (by rw [h.ln]; exact hil)] at h1
      rw [List.getElem?_set_self (by rw [h.vl]; exact hil)] at h2
      cases h1
      cases h2
      rw [List.length_append, ints_snoc]
      exact owns_keep hnew fun g e => other_set fun e2 => own_fx hnew hfx (by decide) (e2 ▸ e)
    · rw [List.getElem?_set_ne e] at h1 h2
      have ho := h.own j m u h1 h2
      refine owns_keep ho fun g hgu => ?_
      rw [other_set fun (e2 : g = hb) => own_fx ho h.fx (by decide) (e2 ▸ hgu)]
      exact hold g (owns_lt ho hgu) fun e2 => e (h.apart i j v u g hv h2 e2 hgu)
  · have key : ∀ (j : Nat) (u : Value) (q : Nat), j ≠ i → vs[j]? = some u → u.ownBlock = some q → q ≠ g4 := by
      intro j u q hj hu hq e
      subst e
      have hm : j < H.length := by rw [h.ln, ← h.vl]; exact (List.getElem?_eq_some_iff.1 hu).1
      have ho := h.own j _ u (List.getElem?_eq_getElem hm) hu
      rcases hg with hg | hg
      · exact hj (h.apart i j v u _ hv hu hg hq).symm
      · have := owns_lt ho hq; omega
    by_cases ej : i = j
    · by_cases ek : i = k
      · omega
      · subst ej
        rw [List.getElem?_set_self (by rw [h.vl]; exact hil)] at h1
        rw [List.getElem?_set_ne ek] at h2
        cases h1
        have : g4 = g := by simpa [Value.ownBlock] using h3
        exact absurd this.symm (key k b g (Ne.symm ek) h2 h4)
    · rw [List.getElem?_set_ne ej] at h1
      by_cases ek : i = k
      · subst ek
        rw [List.getElem?_set_self (by rw [h.vl]; exact hil)] at h2
        cases h2
        have : g4 = g := by simpa [Value.ownBlock] using h4
        exact absurd this.symm (key j a g (Ne.symm ej) h1 h3)
      · rw [List.getElem?_set_ne ek] at h2
        exact h.apart j k a b g h1 h2 h3 h4
end
end Go.Proofs.Ythifoamnmhlghaa.Cz
