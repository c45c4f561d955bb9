/- The cone, plain: what it reaches. -/
import Derived.Test.YtdmnoeooljofcaaBackM
namespace Go.Proofs.Ytdmnoeooljofcaa.Cz

/-- One step: a foe, or the head of a rule with it in its body. -/
def Edg (T : Th) (x y : Int) : Prop := y ∈ row T.foes x ∨ ∃ r ∈ T.rules, x ∈ r.body ∧ y = r.head
inductive Rch (T : Th) (a : List Int) : Int → Prop
  | base {x : Int} : x ∈ a → Rch T a x
  | step {x y : Int} : Rch T a x → Edg T x y → Rch T a y
def addH (H : List (List Int)) (x h : Int) : List (List Int) := H.set x.toNat (row H x ++ [h])
def headB (h : Int) : List Int → List (List Int) → List (List Int)
  | [], H => H
  | x :: l, H => headB h l (addH H x h)
def headR : List RuleM → List (List Int) → List (List Int)
  | [], H => H
  | r :: l, H => headR l (headB r.head r.body H)
def headsM (T : Th) : List (List Int) := headR T.rules (List.replicate T.lits.toNat [])
theorem addH_len {H : List (List Int)} {x h : Int} : (addH H x h).length = H.length := by unfold addH; simp
theorem headB_len {h : Int} {l : List Int} {H : List (List Int)} : (headB h l H).length = H.length := by
  induction l generalizing H with
  | nil => rfl
  | cons x l ih => unfold headB; rw [ih, addH_len]
theorem row_set {H : List (List Int)} {n : Nat} {v : List Int} {x : Int} : row (H.set n v) x = if x.toNat = n ∧ n < H.length then v else row H x := by
  unfold row
  rw [List.getD_eq_getElem?_getD, List.getD_eq_getElem?_getD, List.getElem?_set]
  by_cases h : n = x.toNat
  · subst h
    by_cases h2 : x.toNat < H.length
    · simp [h2]
    · simp [h2]
  · have : ¬ x.toNat = n := fun e => h e.symm
    simp [h, this]
theorem addH_mem {H : List (List Int)} {x h z y : Int} (hx : 0 ≤ x ∧ x < H.length) (hz : 0 ≤ z) : y ∈ row (addH H x h) z ↔ y ∈ row H z ∨ (z = x ∧ y = h) := by
  unfold addH
  rw [row_set]
  by_cases e : z = x
  · subst e
    rw [if_pos ⟨rfl, by omega⟩]
    simp
  · rw [if_neg (by omega)]
    simp [e]
theorem headB_mem {h z y : Int} {l : List Int} {H : List (List Int)} (hl : ∀ x ∈ l, 0 ≤ x ∧ x < H.length) (hz : 0 ≤ z) : y ∈ row (headB h l H) z ↔ y ∈ row H z ∨ (z ∈ l ∧ y = h) := by
  induction l generalizing H with
  | nil => simp [headB]
  | cons x l ih =>
    unfold headB
    rw [ih (by rw [addH_len]; exact fun q hq => hl q (List.mem_cons_of_mem _ hq)), addH_mem (hl x (by simp)) hz]
    simp only [List.mem_cons]
    constructor
    · rintro ((h1 | ⟨h1, h2⟩) | ⟨h1, h2⟩)
      · exact .inl h1
      · exact .inr ⟨.inl h1, h2⟩
      · exact .inr ⟨.inr h1, h2⟩
    · rintro (h1 | ⟨h1 | h1, h2⟩)
      · exact .inl (.inl h1)
      · exact .inl (.inr ⟨h1, h2⟩)
      · exact .inr ⟨h1, h2⟩
theorem headR_mem {z y : Int} {l : List RuleM} {H : List (List Int)} (hl : ∀ r ∈ l, ∀ x ∈ r.body, 0 ≤ x ∧ x < H.length) (hz : 0 ≤ z) : y ∈ row (headR l H) z ↔ y ∈ row H z ∨ ∃ r ∈ l, z ∈ r.body ∧ y = r.head := by
  induction l generalizing H with
  | nil => simp [headR]
  | cons r l ih =>
    unfold headR
    rw [ih (by rw [headB_len]; exact fun q hq => hl q (List.mem_cons_of_mem _ hq)), headB_mem (hl r (by simp)) hz]
    simp only [List.mem_cons]
    constructor
    · rintro ((h1 | h1) | ⟨q, h1, h2⟩)
      · exact .inl h1
      · exact .inr ⟨r, .inl rfl, h1⟩
      · exact .inr ⟨q, .inr h1, h2⟩
    · rintro (h1 | ⟨q, rfl | h1, h2⟩)
      · exact .inl (.inl h1)
      · exact .inl (.inr h2)
      · exact .inr ⟨q, h1, h2⟩
theorem headsM_mem {T : Th} (hl : ∀ r ∈ T.rules, ∀ x ∈ r.body, 0 ≤ x ∧ x < T.lits) {z y : Int} (hz : 0 ≤ z) : y ∈ row (headsM T) z ↔ ∃ r ∈ T.rules, z ∈ r.body ∧ y = r.head := by
  unfold headsM
  rw [headR_mem (fun r hr x hx => by have := hl r hr x hx; simp; omega) hz]
  have : row (List.replicate T.lits.toNat []) z = [] := by
    unfold row
    rw [List.getD_eq_getElem?_getD, List.getElem?_replicate]
    split <;> rfl
  rw [this]
  simp

/-- What the closure does with a list. -/
def reachM : List Int → List Bool × List Int → List Bool × List Int
  | [], s => s
  | x :: l, (R, W) => reachM l (if R.getD x.toNat false then (R, W) else (R.set x.toNat true, W ++ [x]))
def coneL (T : Th) (H : List (List Int)) : Nat → List Bool × List Int → List Bool
  | 0, s => s.1
  | n + 1, (R, W) => match W.getLast? with
    | none => R
    | some x => coneL T H n (reachM (row H x) (reachM (row T.foes x) (R, W.dropLast)))
abbrev hit (R : List Bool) (x : Int) : Bool := R.getD x.toNat false
theorem hit_set {R : List Bool} {x y : Int} (hx : 0 ≤ x ∧ x < R.length) (hy : 0 ≤ y) : hit (R.set x.toNat true) y = (hit R y || decide (y = x)) := by
  unfold hit
  rw [List.getD_eq_getElem?_getD, List.getD_eq_getElem?_getD, List.getElem?_set]
  by_cases e : y = x
  · subst e
    have : y.toNat < R.length := by omega
    simp [this]
  · have : ¬ x.toNat = y.toNat := by omega
    simp [this, e]
/-- How many are not reached yet. -/
def lackN (R : List Bool) : Nat := (R.filter fun b => !b).length
theorem lack_set {R : List Bool} {n : Nat} (hn : n < R.length) (h : R.getD n false = false) : lackN (R.set n true) + 1 = lackN R := by
  unfold lackN
  induction R generalizing n with
  | nil => simp at hn
  | cons b R ih =>
    cases n with
    | zero =>
      have : b = false := h
      subst this
      simp
    | succ n =>
      have := ih (n := n) (by simpa using hn) (by simpa using h)
      cases b <;> simp [List.set_cons_succ] <;> omega
structure Rc (R R' : List Bool) (W W' l : List Int) : Prop where
  len : R'.length = R.length
  sum : lackN R' + W'.length = lackN R + W.length
  hit : ∀ y, 0 ≤ y → (Go.Proofs.Ytdmnoeooljofcaa.Cz.hit R' y = true ↔ Go.Proofs.Ytdmnoeooljofcaa.Cz.hit R y = true ∨ y ∈ l)
  wait : ∀ y, y ∈ W' ↔ y ∈ W ∨ (y ∈ l ∧ Go.Proofs.Ytdmnoeooljofcaa.Cz.hit R y = false)
theorem reach_rc {l : List Int} {R : List Bool} {W : List Int} (hl : ∀ x ∈ l, 0 ≤ x ∧ x < R.length) : Rc R (reachM l (R, W)).1 W (reachM l (R, W)).2 l := by
  induction l generalizing R W with
  | nil => exact ⟨rfl, rfl, by simp [reachM], by simp [reachM]⟩
  | cons x l ih =>
    have hx := hl x (by simp)
    unfold reachM
    by_cases h : R.getD x.toNat false = true
    · rw [if_pos h]
      have k := ih (R := R) (W := W) fun q hq => hl q (List.mem_cons_of_mem _ hq)
      refine ⟨k.len, k.sum, fun y hy => ?_, fun y => ?_⟩
      · rw [k.hit y hy]
        simp only [List.mem_cons]
        constructor
        · rintro (h1 | h1)
          · exact .inl h1
          · exact .inr (.inr h1)
        · rintro (h1 | rfl | h1)
          · exact .inl h1
          · exact .inl h
          · exact .inr h1
      · rw [k.wait y]
        simp only [List.mem_cons]
        constructor
        · rintro (h1 | ⟨h1, h2⟩)
          · exact .inl h1
          · exact .inr ⟨.inr h1, h2⟩
        · rintro (h1 | ⟨rfl | h1, h2⟩)
          · exact .inl h1
          · rw [show Go.Proofs.Ytdmnoeooljofcaa.Cz.hit R y = true from h] at h2; cases h2
          · exact .inr ⟨h1, h2⟩
    · rw [if_neg h]
      have h' : R.getD x.toNat false = false := by simpa using h
      have k := ih (R := R.set x.toNat true) (W := W ++ [x]) fun q hq => by rw [List.length_set]; exact hl q (List.mem_cons_of_mem _ hq)
      have e : ∀ y, 0 ≤ y → Go.Proofs.Ytdmnoeooljofcaa.Cz.hit (R.set x.toNat true) y = (Go.Proofs.Ytdmnoeooljofcaa.Cz.hit R y || decide (y = x)) := fun y hy => hit_set hx hy
      refine ⟨by rw [k.len, List.length_set], ?_, fun y hy => ?_, fun y => ?_⟩
      · have := k.sum
        have := lack_set (R := R) (n := x.toNat) (by omega) h'
        simp at *
        omega
      · rw [k.hit y hy, e y hy]
        simp only [Bool.or_eq_true, decide_eq_true_eq, List.mem_cons]
        constructor
        · rintro ((h1 | h1) | h1)
          · exact .inl h1
          · exact .inr (.inl h1)
          · exact .inr (.inr h1)
        · rintro (h1 | h1 | h1)
          · exact .inl (.inl h1)
          · exact .inl (.inr h1)
          · exact .inr h1
      · rw [k.wait y]
        simp only [List.mem_append, List.mem_cons, List.not_mem_nil, or_false]
        constructor
        · rintro ((h1 | rfl) | ⟨h1, h2⟩)
          · exact .inl h1
          · exact .inr ⟨.inl rfl, h'⟩
          · have hy := (hl y (List.mem_cons_of_mem _ h1)).1
            rw [e y hy] at h2
            simp at h2
            exact .inr ⟨.inr h1, by simpa using h2.1⟩
        · rintro (h1 | ⟨rfl | h1, h2⟩)
          · exact .inl (.inl h1)
          · exact .inl (.inr rfl)
          · by_cases hyx : y = x
            · exact .inl (.inr hyx)
            · refine .inr ⟨h1, ?_⟩
              rw [e y (hl y (List.mem_cons_of_mem _ h1)).1, h2]
              simp [hyx]
/-- All places that a theory names are places. -/
structure Inn (T : Th) : Prop where
  foe : ∀ x y, y ∈ row T.foes x → 0 ≤ y ∧ y < T.lits
  head : ∀ r ∈ T.rules, 0 ≤ r.head ∧ r.head < T.lits
  body : ∀ r ∈ T.rules, ∀ x ∈ r.body, 0 ≤ x ∧ x < T.lits
theorem Inn.edg {T : Th} (h : Inn T) {x y : Int} (e : Edg T x y) : 0 ≤ y ∧ y < T.lits := by
  rcases e with e | ⟨r, hr, _, rfl⟩
  · exact h.foe x y e
  · exact h.head r hr
theorem Inn.rch {T : Th} (h : Inn T) {a : List Int} (ha : ∀ x ∈ a, 0 ≤ x ∧ x < T.lits) {y : Int} (e : Rch T a y) : 0 ≤ y ∧ y < T.lits := by
  cases e with
  | base e => exact ha y e
  | step _ e => exact h.edg e
structure Ci (T : Th) (a : List Int) (R : List Bool) (W : List Int) : Prop where
  len : (R.length : Int) = T.lits
  wait : ∀ x ∈ W, 0 ≤ x ∧ x < T.lits ∧ hit R x = true
  sound : ∀ y, 0 ≤ y → hit R y = true → Rch T a y
  seeds : ∀ x ∈ a, hit R x = true
  closed : ∀ x, 0 ≤ x → hit R x = true → x ∉ W → ∀ y, Edg T x y → hit R y = true
theorem hit_none {n : Nat} {y : Int} : hit (List.replicate n false) y = false := by
  unfold hit
  rw [List.getD_eq_getElem?_getD, List.getElem?_replicate]
  split <;> rfl
theorem lack_none {n : Nat} : lackN (List.replicate n false) = n := by
  unfold lackN
  rw [List.filter_replicate]
  simp
theorem Ci.start {T : Th} {a : List Int} (h0 : 0 ≤ T.lits) (ha : ∀ x ∈ a, 0 ≤ x ∧ x < T.lits) : Ci T a (reachM a (List.replicate T.lits.toNat false, [])).1 (reachM a (List.replicate T.lits.toNat false, [])).2 ∧ lackN (reachM a (List.replicate T.lits.toNat false, [])).1 + (reachM a (List.replicate T.lits.toNat false, [])).2.length = T.lits.toNat := by
  have k := reach_rc (l := a) (R := List.replicate T.lits.toNat false) (W := []) fun x hx => by have := ha x hx; simp; omega
  refine ⟨⟨by rw [k.len]; simp; omega, fun x hx => ?_, fun y hy hh => ?_, fun x hx => ?_, fun x h1 h2 h3 => ?_⟩, ?_⟩
  · rcases (k.wait x).1 hx with h | ⟨h, _⟩
    · cases h
    · exact ⟨(ha x h).1, (ha x h).2, (k.hit x (ha x h).1).2 (.inr h)⟩
  · rcases (k.hit y hy).1 hh with h | h
    · rw [hit_none] at h; cases h
    · exact .base h
  · exact (k.hit x (ha x hx).1).2 (.inr hx)
  · rcases (k.hit x h1).1 h2 with h | h
    · rw [hit_none] at h; cases h
    · exact absurd ((k.wait x).2 (.inr ⟨h, hit_none⟩)) h3
  · have := k.sum
    rw [lack_none] at this
    simpa using this
theorem last_split {W : List Int} {x : Int} (h : W.getLast? = some x) : W = W.dropLast ++ [x] := by
  obtain ⟨l, rfl⟩ := List.getLast?_eq_some_iff.1 h
  simp
theorem Ci.next {T : Th} (hT : Inn T) {a : List Int} {R : List Bool} {W : List Int} {x : Int} (h : Ci T a R W) (hx : W.getLast? = some x) :
    Ci T a (reachM (row (headsM T) x) (reachM (row T.foes x) (R, W.dropLast))).1 (reachM (row (headsM T) x) (reachM (row T.foes x) (R, W.dropLast))).2 ∧ lackN (reachM (row (headsM T) x) (reachM (row T.foes x) (R, W.dropLast))).1 + (reachM (row (headsM T) x) (reachM (row T.foes x) (R, W.dropLast))).2.length + 1 = lackN R + W.length := by
  have hW := last_split hx
  have hxW : x ∈ W := by rw [hW]; simp
  obtain ⟨x0, x1, x2⟩ := h.wait x hxW
  have hlen := h.len
  have k1 := reach_rc (l := row T.foes x) (R := R) (W := W.dropLast) fun y hy => by have := hT.foe x y hy; omega
  have hh : ∀ y, y ∈ row (headsM T) x ↔ ∃ r ∈ T.rules, x ∈ r.body ∧ y = r.head := fun y => headsM_mem hT.body x0
  generalize hs : reachM (row T.foes x) (R, W.dropLast) = s at *
  obtain ⟨R1, W1⟩ := s
  simp only at k1
  have hr : ∀ y, y ∈ row (headsM T) x → 0 ≤ y ∧ y < T.lits := fun y hy => by
    obtain ⟨r, hr, _, rfl⟩ := (hh y).1 hy
    exact hT.head r hr
  have k2 := reach_rc (l := row (headsM T) x) (R := R1) (W := W1) fun y hy => by have := hr y hy; have := k1.len; omega
  generalize reachM (row (headsM T) x) (R1, W1) = s2 at *
  obtain ⟨R2, W2⟩ := s2
  simp only at k2 ⊢
  have hit2 : ∀ y, 0 ≤ y → (hit R2 y = true ↔ hit R y = true ∨ Edg T x y) := by
    intro y hy
    rw [k2.hit y hy, k1.hit y hy, hh y]
    unfold Edg
    constructor
    · rintro ((h1 | h1) | h1)
      · exact .inl h1
      · exact .inr (.inl h1)
      · exact .inr (.inr h1)
    · rintro (h1 | h1 | h1)
      · exact .inl (.inl h1)
      · exact .inl (.inr h1)
      · exact .inr h1
  refine ⟨⟨by rw [k2.len, k1.len]; exact hlen, fun y hy => ?_, fun y hy hh2 => ?_, fun y hy => ?_, fun y y0 y1 y2 z hz => ?_⟩, ?_⟩
  · have rng : 0 ≤ y ∧ y < T.lits := by
      rcases (k2.wait y).1 hy with h1 | ⟨h1, _⟩
      · rcases (k1.wait y).1 h1 with h2 | ⟨h2, _⟩
        · have := h.wait y (by rw [hW]; exact List.mem_append_left _ h2)
          exact ⟨this.1, this.2.1⟩
        · exact hT.foe x y h2
      · exact hr y h1
    refine ⟨rng.1, rng.2, ?_⟩
    rcases (k2.wait y).1 hy with h1 | ⟨h1, _⟩
    · rcases (k1.wait y).1 h1 with h2 | ⟨h2, _⟩
      · exact (hit2 y rng.1).2 (.inl (h.wait y (by rw [hW]; exact List.mem_append_left _ h2)).2.2)
      · exact (hit2 y rng.1).2 (.inr (.inl h2))
    · exact (k2.hit y rng.1).2 (.inr h1)
  · rcases (hit2 y hy).1 hh2 with h1 | h1
    · exact h.sound y hy h1
    · exact .step (h.sound x x0 x2) h1
  · have h1 := h.seeds y hy
    by_cases y0 : 0 ≤ y
    · exact (hit2 y y0).2 (.inl h1)
    · have e : y.toNat = (0 : Int).toNat := by omega
      have : hit R 0 = true := by unfold hit at h1 ⊢; rw [e] at h1; exact h1
      have := (hit2 0 (by omega)).2 (.inl this)
      unfold hit at this ⊢
      rw [e]
      exact this
  · have hzr := hT.edg hz
    by_cases e : y = x
    · subst e
      exact (hit2 z hzr.1).2 (.inr hz)
    · rcases (k2.hit y y0).1 y1 with h1 | h1
      · rcases (k1.hit y y0).1 h1 with h2 | h2
        · by_cases hyW : y ∈ W
          · rw [hW] at hyW
            rcases List.mem_append.1 hyW with h3 | h3
            · exact absurd ((k2.wait y).2 (.inl ((k1.wait y).2 (.inl h3)))) y2
            · exact absurd (by simpa using h3) e
          · exact (hit2 z hzr.1).2 (.inl (h.closed y y0 h2 hyW z hz))
        · cases hb : hit R y with
          | false => exact absurd ((k2.wait y).2 (.inl ((k1.wait y).2 (.inr ⟨h2, hb⟩)))) y2
          | true =>
            by_cases hyW : y ∈ W
            · rw [hW] at hyW
              rcases List.mem_append.1 hyW with h3 | h3
              · exact absurd ((k2.wait y).2 (.inl ((k1.wait y).2 (.inl h3)))) y2
              · exact absurd (by simpa using h3) e
            · exact (hit2 z hzr.1).2 (.inl (h.closed y y0 hb hyW z hz))
      · cases hb : hit R1 y with
        | false => exact absurd ((k2.wait y).2 (.inr ⟨h1, hb⟩)) y2
        | true =>
          rcases (k1.hit y y0).1 hb with h2 | h2
          · by_cases hyW : y ∈ W
            · rw [hW] at hyW
              rcases List.mem_append.1 hyW with h3 | h3
              · exact absurd ((k2.wait y).2 (.inl ((k1.wait y).2 (.inl h3)))) y2
              · exact absurd (by simpa using h3) e
            · exact (hit2 z hzr.1).2 (.inl (h.closed y y0 h2 hyW z hz))
          · cases hb2 : hit R y with
            | false => exact absurd ((k2.wait y).2 (.inl ((k1.wait y).2 (.inr ⟨h2, hb2⟩)))) y2
            | true =>
              by_cases hyW : y ∈ W
              · rw [hW] at hyW
                rcases List.mem_append.1 hyW with h3 | h3
                · exact absurd ((k2.wait y).2 (.inl ((k1.wait y).2 (.inl h3)))) y2
                · exact absurd (by simpa using h3) e
              · exact (hit2 z hzr.1).2 (.inl (h.closed y y0 hb2 hyW z hz))
  · have s1 := k1.sum
    have s2 := k2.sum
    have : W.length = W.dropLast.length + 1 := by rw [hW]; simp
    omega
/-- Nothing waits: the cone. -/
theorem Ci.done {T : Th} {a : List Int} {R : List Bool} (h : Ci T a R []) (hT : Inn T) (ha : ∀ x ∈ a, 0 ≤ x ∧ x < T.lits) {y : Int} (hy : 0 ≤ y) : hit R y = true ↔ Rch T a y := by
  refine ⟨h.sound y hy, fun hr => ?_⟩
  induction hr with
  | base e => exact h.seeds _ e
  | step e1 e2 ih => exact h.closed _ (hT.rch ha e1).1 (ih (hT.rch ha e1).1) (by simp) _ e2
end Go.Proofs.Ytdmnoeooljofcaa.Cz
