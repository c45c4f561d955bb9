/- What rounds end with is coherent; two foes are not both there, but by strict proof. No Go in sight. -/
import Derived.Test.YthifoamnmhlghaaGreatKn
namespace Go.Proofs.YthifoamnmhlghaaGreat
open Go.RowKit

def tags : List Int := [1, 2, 3, 4]
theorem isTag_mem {t : Int} (h : isTag t) : t ∈ tags := by rcases h with rfl | rfl | rfl | rfl <;> simp [tags]
theorem bit_table : ∀ x : _root_.Fin 256, (tags.all fun t => tags.all fun u => decide (hb (orB (x.val : Int) t) u = (hb (x.val : Int) u || decide (t = u))) && decide (0 ≤ orB (x.val : Int) t) && decide (orB (x.val : Int) t < 256) && decide ((x.val : Int) < 16 → orB (x.val : Int) t < 16)) = true := by decide +kernel
theorem bit_zero : (tags.all fun t => decide (hb 0 t = false)) = true := by decide +kernel
def isByte (x : Int) : Prop := 0 ≤ x ∧ x < 256
theorem or_facts {x t u : Int} (hx : isByte x) (ht : isTag t) (hu : isTag u) : hb (orB x t) u = (hb x u || decide (t = u)) ∧ isByte (orB x t) ∧ (x < 16 → orB x t < 16) := by
  obtain ⟨n, rfl⟩ := Int.eq_ofNat_of_zero_le hx.1
  have hn : n < 256 := by have := hx.2; omega
  have := bit_table ⟨n, hn⟩
  have := List.all_eq_true.1 this t (isTag_mem ht)
  have := List.all_eq_true.1 this u (isTag_mem hu)
  simp only [Bool.and_eq_true, decide_eq_true_eq] at this
  exact ⟨this.1.1.1, ⟨this.1.1.2, this.1.2⟩, this.2⟩
theorem hb_zero {t : Int} (ht : isTag t) : hb 0 t = false := by
  have := List.all_eq_true.1 bit_zero t (isTag_mem ht)
  simpa using this
/-- Bytes, below sixteen where they came from nothing. -/
def Bys (m : List Int) : Prop := ∀ q : Nat, isByte (m.getD q 0)
section
variable {T : Th} {F m m' : List Int} {n : Nat}
theorem addM_facts {q t x u : Int} (hx : isByte x) (ht : isTag t) (hu : isTag u) : hb (addM T F m q t x) u = (hb x u || (decide (t = u) && (!hs m q t && condM T F m t q))) ∧ isByte (addM T F m q t x) ∧ (x < 16 → addM T F m q t x < 16) := by
  unfold addM
  obtain ⟨h1, h2, h3⟩ := or_facts hx ht hu
  cases hc : (!hs m q t && condM T F m t q)
  · simp [hx]
  · simp only [if_true]
    refine ⟨by rw [h1]; simp, h2, h3⟩
theorem tag1 : isTag 1 := .inl rfl
theorem tag2 : isTag 2 := .inr (.inl rfl)
theorem tag3 : isTag 3 := .inr (.inr (.inl rfl))
theorem tag4 : isTag 4 := .inr (.inr (.inr rfl))
theorem adds_facts {q x u : Int} (hx : isByte x) (hu : isTag u) : hb (addsM T F m q 4 x) u = (hb x u || (!hs m q u && condM T F m u q)) ∧ isByte (addsM T F m q 4 x) ∧ (x < 16 → addsM T F m q 4 x < 16) := by
  obtain ⟨a1, a2, a3⟩ := addM_facts (T := T) (F := F) (m := m) (q := q) hx tag1 hu
  obtain ⟨b1, b2, b3⟩ := addM_facts (T := T) (F := F) (m := m) (q := q) a2 tag2 hu
  obtain ⟨c1, c2, c3⟩ := addM_facts (T := T) (F := F) (m := m) (q := q) b2 tag3 hu
  obtain ⟨d1, d2, d3⟩ := addM_facts (T := T) (F := F) (m := m) (q := q) c2 tag4 hu
  refine ⟨?_, d2, fun h => d3 (c3 (b3 (a3 h)))⟩
  show hb (addM T F m q 4 (addM T F m q 3 (addM T F m q 2 (addM T F m q 1 x)))) u = _
  rw [d1, c1, b1, a1]
  rcases hu with rfl | rfl | rfl | rfl <;> simp
theorem round_at {q : Nat} (hq : q < m.length) : (roundM T F m).getD q 0 = addsM T F m q 4 (m.getD q 0) := by
  unfold roundM
  rw [List.getD_eq_getElem?_getD, List.getElem?_map, List.getElem?_range hq]
  rfl
theorem getD_far {q : Nat} (hq : m.length ≤ q) : m.getD q 0 = 0 := by rw [List.getD_eq_getElem?_getD, List.getElem?_eq_none hq]; rfl
theorem round_bys (h : Bys m) : Bys (roundM T F m) := by
  intro q
  by_cases hq : q < m.length
  · rw [round_at hq]; exact (adds_facts (h q) tag1).2.1
  · rw [getD_far (by rw [round_len]; omega)]; exact ⟨by omega, by omega⟩
theorem round_small (h : Bys m) (hs : ∀ q : Nat, m.getD q 0 < 16) : ∀ q : Nat, (roundM T F m).getD q 0 < 16 := by
  intro q
  by_cases hq : q < m.length
  · rw [round_at hq]; exact (adds_facts (h q) tag1).2.2 (hs q)
  · rw [getD_far (by rw [round_len]; omega)]; omega
theorem hs_round {q t : Int} (h : Bys m) (h0 : 0 ≤ q) (h1 : q < (m.length : Int)) (ht : isTag t) : hs (roundM T F m) q t = (hs m q t || condM T F m t q) := by
  obtain ⟨k, rfl⟩ := Int.eq_ofNat_of_zero_le h0
  unfold hs
  rw [Int.toNat_natCast, round_at (by omega), (adds_facts (h k) ht).1]
  have : hs m (k : Int) t = hb (m.getD k 0) t := by unfold hs; rw [Int.toNat_natCast]
  rw [this]
  cases hb (m.getD k 0) t <;> simp
theorem hs_far {q t : Int} (h0 : 0 ≤ q) (h1 : ¬ q < (m.length : Int)) (ht : isTag t) : hs m q t = false := by
  unfold hs
  rw [getD_far (by omega)]
  exact hb_zero ht
/-- All marks of the one are among the other's. -/
def Le (m m' : List Int) : Prop := ∀ q t : Int, 0 ≤ q → isTag t → hs m q t = true → hs m' q t = true
theorem Le.refl (m : List Int) : Le m m := fun _ _ _ _ h => h
theorem Le.trans {m1 m2 m3 : List Int} (h : Le m1 m2) (k : Le m2 m3) : Le m1 m3 := fun q t h0 ht hq => k q t h0 ht (h q t h0 ht hq)
theorem round_le (h : Bys m) : Le m (roundM T F m) := by
  intro q t h0 ht hq
  by_cases h1 : q < (m.length : Int)
  · rw [hs_round h h0 h1 ht, hq]; rfl
  · rw [hs_far h0 h1 ht] at hq; cases hq
theorem body_in (hp : Pf T F n) {r x : Int} (hx : x ∈ bodyM T r) : 0 ≤ x ∧ x < (n : Int) := by
  unfold bodyM at hx
  cases hR : T.rules[r.toNat]? with
  | none => rw [hR] at hx; cases hx
  | some R => rw [hR] at hx; exact hp.body R (List.mem_of_getElem? hR) x hx
theorem whl_iff {r t : Int} : wholeB T m r t = true ↔ ∀ x ∈ bodyM T r, hs m x t = true := by unfold wholeB; rw [List.all_eq_true]
theorem prt_iff {r t : Int} : partB T m r t = true ↔ ∃ x ∈ bodyM T r, hs m x t = true := by unfold partB; rw [List.any_eq_true]
theorem whole_mono (hp : Pf T F n) (h : Le m m') {r t : Int} (ht : isTag t) (hw : wholeB T m r t = true) : wholeB T m' r t = true := whl_iff.2 fun x hx => h x t (body_in hp hx).1 ht (whl_iff.1 hw x hx)
theorem part_mono (hp : Pf T F n) (h : Le m m') {r t : Int} (ht : isTag t) (hw : partB T m r t = true) : partB T m' r t = true := by
  obtain ⟨x, hx, hm⟩ := prt_iff.1 hw
  exact prt_iff.2 ⟨x, hx, h x t (body_in hp hx).1 ht hm⟩
theorem foe_in (hp : Pf T F n) {q f : Int} (h0 : 0 ≤ q) (h1 : q < (n : Int)) (hf : f ∈ row T.foes q) : 0 ≤ f ∧ f < (n : Int) := by
  obtain ⟨k, rfl⟩ := Int.eq_ofNat_of_zero_le h0
  exact hp.foe k (by omega) f hf
/-- The conditions in words. -/
theorem plusS_iff {q : Int} : plusS T F m q = true ↔ q ∈ F ∨ ∃ r ∈ rulesL T kS q, wholeB T m r 1 = true := by unfold plusS; simp [List.any_eq_true]
theorem minusS_iff {q : Int} : minusS T F m q = true ↔ q ∉ F ∧ ∀ r ∈ rulesL T kS q, partB T m r 2 = true := by unfold minusS; simp [List.all_eq_true]
theorem atkP_iff {q s : Int} : atkP T m q s = true ↔ partB T m s 4 = true ∨ ∃ t ∈ rulesL T kT q, beatB T t s = true ∧ wholeB T m t 3 = true := by unfold atkP; simp [List.any_eq_true]
theorem atkM_iff {q s : Int} : atkM T m q s = true ↔ wholeB T m s 3 = true ∧ ∀ t ∈ rulesL T kT q, partB T m t 4 = true ∨ beatB T t s = false := by unfold atkM; simp [List.all_eq_true]
theorem plusD_iff {q : Int} : plusD T m q = true ↔ hs m q 1 = true ∨ ((∃ r ∈ rulesL T kT q, wholeB T m r 3 = true) ∧ (∀ f ∈ row T.foes q, hs m f 2 = true) ∧ ∀ f ∈ row T.foes q, ∀ s ∈ rulesL T kA f, atkP T m q s = true) := by
  unfold plusD
  simp only [Bool.or_eq_true, Bool.and_eq_true, List.any_eq_true, List.all_eq_true, and_assoc]
theorem minusD_iff {q : Int} : minusD T m q = true ↔ hs m q 2 = true ∧ ((∀ r ∈ rulesL T kT q, partB T m r 4 = true) ∨ (∃ f ∈ row T.foes q, hs m f 1 = true) ∨ ∃ f ∈ row T.foes q, ∃ s ∈ rulesL T kA f, atkM T m q s = true) := by
  unfold minusD
  simp only [Bool.or_eq_true, Bool.and_eq_true, List.any_eq_true, List.all_eq_true, or_assoc]
theorem cond1 {q : Int} : condM T F m 1 q = plusS T F m q := rfl
theorem cond2 {q : Int} : condM T F m 2 q = minusS T F m q := rfl
theorem cond3 {q : Int} : condM T F m 3 q = plusD T m q := rfl
theorem cond4 {q : Int} : condM T F m 4 q = minusD T m q := rfl
theorem cond_mono (hp : Pf T F n) (h : Le m m') {q t : Int} (h0 : 0 ≤ q) (h1 : q < (n : Int)) (ht : isTag t) (hc : condM T F m t q = true) : condM T F m' t q = true := by
  rcases ht with rfl | rfl | rfl | rfl
  · rw [cond1] at *
    rcases plusS_iff.1 hc with h2 | ⟨r, hr, hw⟩
    · exact plusS_iff.2 (.inl h2)
    · exact plusS_iff.2 (.inr ⟨r, hr, whole_mono hp h tag1 hw⟩)
  · rw [cond2] at *
    obtain ⟨h2, h3⟩ := minusS_iff.1 hc
    exact minusS_iff.2 ⟨h2, fun r hr => part_mono hp h tag2 (h3 r hr)⟩
  · rw [cond3] at *
    rcases plusD_iff.1 hc with h2 | ⟨⟨r, hr, hw⟩, h3, h4⟩
    · exact plusD_iff.2 (.inl (h q 1 h0 tag1 h2))
    · refine plusD_iff.2 (.inr ⟨⟨r, hr, whole_mono hp h tag3 hw⟩, fun f hf => h f 2 (foe_in hp h0 h1 hf).1 tag2 (h3 f hf), fun f hf s hs => ?_⟩)
      rcases atkP_iff.1 (h4 f hf s hs) with h5 | ⟨t, ht, h5, h6⟩
      · exact atkP_iff.2 (.inl (part_mono hp h tag4 h5))
      · exact atkP_iff.2 (.inr ⟨t, ht, h5, whole_mono hp h tag3 h6⟩)
  · rw [cond4] at *
    obtain ⟨h2, h3⟩ := minusD_iff.1 hc
    refine minusD_iff.2 ⟨h q 2 h0 tag2 h2, ?_⟩
    rcases h3 with h3 | ⟨f, hf, h3⟩ | ⟨f, hf, s, hs, h3⟩
    · exact .inl fun r hr => part_mono hp h tag4 (h3 r hr)
    · exact .inr (.inl ⟨f, hf, h f 1 (foe_in hp h0 h1 hf).1 tag1 h3⟩)
    · obtain ⟨h5, h6⟩ := atkM_iff.1 h3
      exact .inr (.inr ⟨f, hf, s, hs, atkM_iff.2 ⟨whole_mono hp h tag3 h5, fun t ht => (h6 t ht).imp (part_mono hp h tag4) id⟩⟩)
/-- A round of more is more. -/
theorem round_mono (hp : Pf T F n) (h : Le m m') (hm : Bys m) (hm' : Bys m') (hl : m.length = n) (hl' : m'.length = n) : Le (roundM T F m) (roundM T F m') := by
  intro q t h0 ht hq
  by_cases h1 : q < (n : Int)
  · rw [hs_round hm h0 (by omega) ht] at hq
    rw [hs_round hm' h0 (by omega) ht]
    rcases Bool.or_eq_true_iff.1 hq with h2 | h2
    · rw [h q t h0 ht h2]; rfl
    · rw [cond_mono hp h h0 h1 ht h2]; simp
  · rw [hs_far h0 (by rw [round_len]; omega) ht] at hq; cases hq
end
/-- The marks behind so many rounds. -/
def Mk (T : Th) (F : List Int) (k : Nat) : List Int := iterM T F k (List.replicate T.lits.toNat 0)
section
variable {T : Th} {F m : List Int} {n k j : Nat}
theorem zeros_at {c q : Nat} : (List.replicate c (0 : Int)).getD q 0 = 0 := by
  rw [List.getD_eq_getElem?_getD, List.getElem?_replicate]
  split <;> rfl
theorem Mk_len (hp : Pf T F n) : (Mk T F k).length = n := by
  unfold Mk
  rw [iter_len, List.length_replicate, hp.ln, Int.toNat_natCast]
theorem Mk_succ : Mk T F (k + 1) = roundM T F (Mk T F k) := iter_succ
theorem Mk_bys : ∀ {k : Nat}, Bys (Mk T F k)
  | 0 => fun q => by show isByte ((List.replicate T.lits.toNat 0).getD q 0); rw [zeros_at]; exact ⟨by omega, by omega⟩
  | k + 1 => by rw [Mk_succ]; exact round_bys Mk_bys
theorem Mk_small : ∀ {k : Nat} (q : Nat), (Mk T F k).getD q 0 < 16
  | 0, q => by show (List.replicate T.lits.toNat 0).getD q 0 < 16; rw [zeros_at]; omega
  | k + 1, q => by rw [Mk_succ]; exact round_small Mk_bys (fun q => Mk_small q) q
theorem Mk_le : Le (Mk T F k) (Mk T F (k + j)) := by
  induction j with
  | zero => exact Le.refl _
  | succ j ih => rw [← Nat.add_assoc, Mk_succ]; exact ih.trans (round_le Mk_bys)
/-- What is there came by its condition. -/
theorem came_by (hp : Pf T F n) {q t : Int} (h0 : 0 ≤ q) (ht : isTag t) : ∀ {k : Nat}, hs (Mk T F k) q t = true → ∃ i, i < k ∧ condM T F (Mk T F i) t q = true ∧ q < (n : Int)
  | 0, h => by
    have : hs (Mk T F 0) q t = false := by
      show hb ((List.replicate T.lits.toNat 0).getD q.toNat 0) t = false
      rw [zeros_at]; exact hb_zero ht
    rw [this] at h; cases h
  | k + 1, h => by
    by_cases h1 : q < (n : Int)
    · rw [Mk_succ, hs_round Mk_bys h0 (by rw [Mk_len hp]; exact h1) ht] at h
      rcases Bool.or_eq_true_iff.1 h with h2 | h2
      · obtain ⟨i, hi, hc⟩ := came_by hp h0 ht h2
        exact ⟨i, by omega, hc⟩
      · exact ⟨k, by omega, h2, h1⟩
    · rw [hs_far h0 (by rw [Mk_len hp]; exact h1) ht] at h; cases h
theorem strict_one (hp : Pf T F n) : ∀ (k j : Nat) (q : Int), 0 ≤ q → hs (Mk T F k) q 1 = true → hs (Mk T F j) q 2 = true → False := by
  intro k
  induction k using Nat.strongRecOn with
  | _ k ih =>
    intro j q h0 h1 h2
    obtain ⟨i, hi, hc, hq⟩ := came_by hp h0 tag1 h1
    obtain ⟨i', hi', hc', -⟩ := came_by hp h0 tag2 h2
    obtain ⟨hn, ha⟩ := minusS_iff.1 hc'
    rcases plusS_iff.1 hc with h3 | ⟨r, hr, hw⟩
    · exact hn h3
    · obtain ⟨x, hx, hm⟩ := prt_iff.1 (ha r hr)
      exact ih i hi i' x (body_in hp hx).1 (whl_iff.1 hw x hx) hm
theorem defeas_one (hp : Pf T F n) : ∀ (N k j : Nat) (q : Int), k + j ≤ N → 0 ≤ q → hs (Mk T F k) q 3 = true → hs (Mk T F j) q 4 = true → False := by
  intro N
  induction N with
  | zero =>
    intro k j q hN h0 h1 h2
    obtain ⟨i, hi, -, -⟩ := came_by hp h0 tag3 h1
    omega
  | succ N ih =>
    intro k j q hN h0 h1 h2
    obtain ⟨i, hi, hc, hq⟩ := came_by hp h0 tag3 h1
    obtain ⟨i', hi', hc', -⟩ := came_by hp h0 tag4 h2
    obtain ⟨hm, ha⟩ := minusD_iff.1 hc'
    rcases plusD_iff.1 hc with h3 | ⟨⟨r, hr, hw⟩, h4, h5⟩
    · exact strict_one hp i i' q h0 h3 hm
    · rcases ha with ha | ⟨f, hf, ha⟩ | ⟨f, hf, s, hs', ha⟩
      · obtain ⟨x, hx, hx2⟩ := prt_iff.1 (ha r hr)
        exact ih i i' x (by omega) (body_in hp hx).1 (whl_iff.1 hw x hx) hx2
      · exact strict_one hp i' i f (foe_in hp h0 hq hf).1 ha (h4 f hf)
      · obtain ⟨h6, h7⟩ := atkM_iff.1 ha
        rcases atkP_iff.1 (h5 f hf s hs') with h8 | ⟨t, ht, h8, h9⟩
        · obtain ⟨x, hx, hx2⟩ := prt_iff.1 h8
          exact ih i' i x (by omega) (body_in hp hx).1 (whl_iff.1 h6 x hx) hx2
        · rcases h7 t ht with h10 | h10
          · obtain ⟨x, hx, hx2⟩ := prt_iff.1 h10
            exact ih i i' x (by omega) (body_in hp hx).1 (whl_iff.1 h9 x hx) hx2
          · rw [h10] at h8; cases h8
theorem sol_len (hp : Pf T F n) (h : Sol T F m k) : m.length = n := by rw [h.1]; exact Mk_len hp
theorem sol_bys (h : Sol T F m k) : Bys m := by rw [h.1]; exact Mk_bys
/-- At the end a tag is there just if its condition holds. -/
theorem sol_iff (hp : Pf T F n) (h : Sol T F m k) {q t : Int} (h0 : 0 ≤ q) (h1 : q < (n : Int)) (ht : isTag t) : hs m q t = true ↔ condM T F m t q = true := by
  constructor
  · intro hq
    have e := h.1
    rw [e] at hq
    obtain ⟨i, hi, hc, -⟩ := came_by hp h0 ht hq
    refine cond_mono hp ?_ h0 h1 ht hc
    rw [e]
    obtain ⟨d, rfl⟩ := Nat.exists_eq_add_of_le (Nat.le_of_lt hi)
    exact Mk_le
  · intro hc
    have := hs_round (T := T) (F := F) (sol_bys h) h0 (by rw [sol_len hp h]; exact h1) ht
    rw [h.2, hc] at this
    simpa using this
theorem sol_strict (hp : Pf T F n) (h : Sol T F m k) {q : Int} (h0 : 0 ≤ q) (h1 : hs m q 1 = true) (h2 : hs m q 2 = true) : False := by
  rw [h.1] at h1 h2
  exact strict_one hp k k q h0 h1 h2
theorem sol_defeas (hp : Pf T F n) (h : Sol T F m k) {q : Int} (h0 : 0 ≤ q) (h1 : hs m q 3 = true) (h2 : hs m q 4 = true) : False := by
  rw [h.1] at h1 h2
  exact defeas_one hp (k + k) k k q (Nat.le_refl _) h0 h1 h2
theorem sol_up (hp : Pf T F n) (h : Sol T F m k) {q : Int} (h0 : 0 ≤ q) (h1 : q < (n : Int)) (h2 : hs m q 1 = true) : hs m q 3 = true := (sol_iff hp h h0 h1 tag3).2 (plusD_iff.2 (.inl h2))
theorem sol_down (hp : Pf T F n) (h : Sol T F m k) {q : Int} (h0 : 0 ≤ q) (h1 : q < (n : Int)) (h2 : hs m q 4 = true) : hs m q 2 = true := (minusD_iff.1 ((sol_iff hp h h0 h1 tag4).1 h2)).1
/-- No rule beats without end. -/
def NoRing (T : Th) : Prop := ∃ (f : Int → Nat) (B : Nat), (∀ r, f r ≤ B) ∧ ∀ t s : Int, 0 ≤ t → s ∈ row T.beats t → f s < f t
theorem mem_kA {p : RuleM → Bool} {z x : Int} (h : x ∈ rulesL T p z) : x ∈ rulesL T kA z := by
  obtain ⟨a, r, e, hr, -, hh⟩ := mem_rules.1 h
  exact mem_rules.2 ⟨a, r, e, hr, rfl, hh⟩
theorem sol_foes (hp : Pf T F n) (hr : NoRing T) (h : Sol T F m k) {p q : Int} (h0 : 0 ≤ q) (h1 : q < (n : Int)) (hf : p ∈ row T.foes q) (h2 : hs m p 3 = true) (h3 : hs m q 3 = true) : hs m p 1 = true ∧ hs m q 1 = true := by
  obtain ⟨p0, p1⟩ := foe_in hp h0 h1 hf
  have hg : q ∈ row T.foes p := by
    obtain ⟨a, rfl⟩ := Int.eq_ofNat_of_zero_le h0
    obtain ⟨l, hl⟩ := get_at (l := T.foes) (i := a) (by have := hp.ok.fl; have := hp.ln; omega)
    rw [row_at (by rw [Int.toNat_natCast]; exact hl)] at hf
    exact (hp.ok.foe a l hl).2.2.2 p hf
  have ep := plusD_iff.1 ((sol_iff hp h p0 p1 tag3).1 h2)
  have eq := plusD_iff.1 ((sol_iff hp h h0 h1 tag3).1 h3)
  rcases ep with ep | ⟨⟨r, hr1, hw⟩, ep2, ep3⟩
  · rcases eq with eq | ⟨-, eq2, -⟩
    · exact ⟨ep, eq⟩
    · exact (sol_strict hp h p0 ep (eq2 p hf)).elim
  · rcases eq with eq | ⟨-, eq2, eq3⟩
    · exact (sol_strict hp h h0 eq (ep2 q hg)).elim
    · exfalso
      obtain ⟨f, B, hB, hlt⟩ := hr
      have key : ∀ c : Nat, ∃ r, (r ∈ rulesL T kT p ∨ r ∈ rulesL T kT q) ∧ wholeB T m r 3 = true ∧ c ≤ f r := by
        intro c
        induction c with
        | zero => exact ⟨r, .inl hr1, hw, by omega⟩
        | succ c ih =>
          obtain ⟨s, hs', hws, hc⟩ := ih
          have no4 : ¬ partB T m s 4 = true := fun h4 => by
            obtain ⟨x, hx, hx2⟩ := prt_iff.1 h4
            exact sol_defeas hp h (body_in hp hx).1 (whl_iff.1 hws x hx) hx2
          have up : ∀ t, 0 ≤ t → beatB T t s = true → c + 1 ≤ f t := fun t ht hb => by
            have := hlt t s ht (by unfold beatB at hb; simpa using hb)
            omega
          rcases hs' with hs' | hs'
          · rcases atkP_iff.1 (eq3 p hf s (mem_kA hs')) with h8 | ⟨t, ht, h8, h9⟩
            · exact (no4 h8).elim
            · exact ⟨t, .inr ht, h9, up t (forL_in ht).1 h8⟩
          · rcases atkP_iff.1 (ep3 q hg s (mem_kA hs')) with h8 | ⟨t, ht, h8, h9⟩
            · exact (no4 h8).elim
            · exact ⟨t, .inl ht, h9, up t (forL_in ht).1 h8⟩
      obtain ⟨r, -, -, hc⟩ := key (B + 1)
      have := hB r
      omega
end
end Go.Proofs.YthifoamnmhlghaaGreat
