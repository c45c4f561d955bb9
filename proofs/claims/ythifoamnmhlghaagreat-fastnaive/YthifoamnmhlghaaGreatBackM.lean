/- Bytes of theories, there and back: plain mathematics. -/
import Derived.Test.YthifoamnmhlghaaGreatMod
namespace Go.Proofs.YthifoamnmhlghaaGreat

/-! Rising lists. -/
theorem rises_iff {b : Int} : ∀ {l : List Int} {a : Int}, risesF b a l = true ↔ (∀ z ∈ l, a < z ∧ z < b) ∧ l.Pairwise (· < ·)
  | [], a => by simp [risesF]
  | n :: r, a => by
    unfold risesF
    by_cases h : n ≤ a ∨ b ≤ n
    · rw [if_pos h]
      simp
      omega
    · rw [if_neg h, rises_iff]
      simp only [List.mem_cons, forall_eq_or_imp, List.pairwise_cons]
      constructor
      · rintro ⟨h1, h2⟩
        exact ⟨⟨by omega, fun z hz => by have := h1 z hz; omega⟩, fun z hz => (h1 z hz).1, h2⟩
      · rintro ⟨⟨h1, h2⟩, h3, h4⟩
        exact ⟨fun z hz => ⟨h3 z hz, (h2 z hz).2⟩, h4⟩
theorem rises_len {b : Int} : ∀ {l : List Int} {a : Int}, risesF b a l = true → (l.length : Int) ≤ max 0 (b - 1 - a)
  | [], a, _ => by simp; omega
  | n :: r, a, h => by
    unfold risesF at h
    split at h
    · cases h
    · have := rises_len h
      simp only [List.length_cons]
      omega
theorem pw_ext : ∀ {xs ys : List Int}, xs.Pairwise (· < ·) → ys.Pairwise (· < ·) → (∀ z, z ∈ xs ↔ z ∈ ys) → xs = ys
  | [], [], _, _, _ => rfl
  | [], y :: ys, _, _, h => by have := (h y).2 (by simp); simp at this
  | x :: xs, [], _, _, h => by have := (h x).1 (by simp); simp at this
  | x :: xs, y :: ys, hx, hy, h => by
    rw [List.pairwise_cons] at hx hy
    have e : x = y := by
      have h1 := (h x).1 (by simp)
      have h2 := (h y).2 (by simp)
      simp only [List.mem_cons] at h1 h2
      rcases h1 with h1 | h1
      · exact h1
      · rcases h2 with h2 | h2
        · exact h2.symm
        · have := hx.1 y h2
          have := hy.1 x h1
          omega
    subst e
    congr 1
    refine pw_ext hx.2 hy.2 fun z => ?_
    constructor
    · intro hz
      have := (h z).1 (by simp [hz])
      rcases List.mem_cons.1 this with e | h3
      · have := hx.1 z hz; omega
      · exact h3
    · intro hz
      have := (h z).2 (by simp [hz])
      rcases List.mem_cons.1 this with e | h3
      · have := hy.1 z hz; omega
      · exact h3

/-! Bytes that stand there. -/
def Lay (zs : List Int) (p : Nat) (l : List Int) (q : Nat) : Prop := q = p + l.length ∧ q ≤ zs.length ∧ (zs.drop p).take l.length = l
theorem Lay.nil {zs : List Int} {p q : Nat} : Lay zs p [] q ↔ q = p ∧ p ≤ zs.length := by unfold Lay; simp; omega
theorem Lay.app {zs : List Int} {p q : Nat} {l m : List Int} : Lay zs p (l ++ m) q ↔ ∃ k, Lay zs p l k ∧ Lay zs k m q := by
  unfold Lay
  constructor
  · rintro ⟨rfl, h2, h3⟩
    simp only [List.length_append] at h2 h3
    have e : (zs.drop p).take l.length = l := by
      have := congrArg (List.take l.length) h3
      rw [List.take_take, Nat.min_eq_left (by omega), List.take_left] at this
      exact this
    refine ⟨p + l.length, ⟨rfl, by omega, e⟩, by simp; omega, by simp; omega, ?_⟩
    have := congrArg (List.drop l.length) h3
    rw [List.drop_take, List.drop_left, List.drop_drop] at this
    rw [← this]
    simp
  · rintro ⟨k, ⟨rfl, h2, h3⟩, rfl, h5, h6⟩
    refine ⟨by simp; omega, by omega, ?_⟩
    rw [List.length_append, List.take_add, h3, List.drop_drop, h6]
theorem Lay.whole {zs l : List Int} : Lay zs 0 l zs.length ↔ zs = l := by
  unfold Lay
  constructor
  · rintro ⟨h1, _, h3⟩
    rw [Nat.zero_add] at h1
    rw [← h1, List.drop_zero, List.take_length] at h3
    exact h3
  · rintro rfl
    simp

theorem rd_to : ∀ (l : List Int) (len p : Int) (k : Nat) (acc n to : Int), rd len p k acc l = (n, to, 0) → to ≤ p + k + l.length
  | [], len, p, k, acc, n, to, h => by simp [rd] at h
  | c :: r, len, p, k, acc, n, to, h => by
    unfold rd at h
    split at h
    · simp at h
    · split at h
      · have := rd_to r len p (k + 1) _ n to h
        simp only [List.length_cons]
        omega
      · split at h
        · simp at h
        · simp at h
          simp only [List.length_cons]
          omega
theorem uintB_ne (f : Nat) (n : Int) : 0 < (uintB f n).length := Nat.pos_of_ne_zero (uintB_pos f n)
theorem bind_iff {α β : Type} {o : Er α} {f : α → Er β} {b : β} : (o >>= f) = .ok b ↔ ∃ a, o = .ok a ∧ f a = .ok b := by
  cases o with
  | error e => exact ⟨fun h => (by cases h), fun ⟨a, h, _⟩ => (by cases h)⟩
  | ok a => exact ⟨fun h => ⟨a, rfl, h⟩, fun ⟨a', h, h2⟩ => (by cases h; exact h2)⟩
section
variable {zs : List Int} (hz : ∀ z ∈ zs, 0 ≤ z ∧ z ≤ 255)
include hz
theorem read_iff {p q : Nat} {n : Int} : readU zs p = (n, (q : Int), 0) ↔ Lay zs p (numB n) q ∧ 0 ≤ n ∧ n < 18446744073709551616 := by
  constructor
  · intro h
    unfold readU at h
    split at h
    · simp at h
    rename_i hp
    have hp' : p ≤ zs.length := by omega
    rw [show (p : Int).toNat = p by omega] at h
    have hto := rd_to _ _ _ _ _ _ _ h
    rw [List.length_drop] at hto
    obtain ⟨m, j, hm, _, hn, ht, hu⟩ := rd_laid _ _ _ 0 0 n q h (by omega) (fun z hz' => hz z (List.mem_of_mem_drop hz'))
    have e1 : n = m := by rw [hn]; simp
    subst e1
    have ej : q = p + j := by omega
    subst ej
    have hj : (uintB 9 n).length = j := by rw [show 9 - 0 = 9 from rfl] at hu; rw [hu, List.length_take, List.length_drop]; omega
    refine ⟨⟨by unfold numB; rw [hj], by omega, by unfold numB; rw [hj]; exact hu.symm⟩, hm, ?_⟩
    have hb : (rd zs.length p 0 0 (zs.drop p)).1 < 18446744073709551616 := by
      have key : ∀ (l : List Int) (len p : Int) (k : Nat) (acc : Int), (∀ z ∈ l, 0 ≤ z ∧ z ≤ 255) → k ≤ 9 → 0 ≤ acc → acc < 2 ^ (7 * k) → (rd len p k acc l).1 < 18446744073709551616 := by
        intro l
        induction l with
        | nil => intro len p k acc _ _ _ _; simp [rd]
        | cons c r ih =>
          intro len p k acc hB hk h0 h1
          have hc0 := (hB c (by simp)).1
          unfold rd
          have hp64 : ∀ k : Nat, k ≤ 9 → (2 : Int) ^ (7 * k) ≤ 2 ^ 63 := fun k hk => by
            have h := Nat.pow_le_pow_right (n := 2) (by decide) (show 7 * k ≤ 63 by omega)
            have e : (2 : Int) ^ (7 * k) = ((2 ^ (7 * k) : Nat) : Int) := by simp
            have e2 : (2 : Int) ^ 63 = ((2 ^ 63 : Nat) : Int) := by decide
            rw [e, e2]
            omega
          split
          · simp
          · rename_i hbad
            split
            · refine ih _ _ _ _ (fun z hz => hB z (by simp [hz])) (by omega) (acc_pos _ _ _ h0 (by omega)) (acc_next _ _ _ h1 (by omega))
            · split
              · simp
              · rename_i h128 _
                by_cases h9 : k = 9
                · subst h9
                  simp only
                  have hc1 : c ≤ 1 := by omega
                  have e : (2 : Int) ^ (7 * 9) = 9223372036854775808 := by decide
                  rw [e] at h1 ⊢
                  have : c % 128 ≤ 1 ∨ c < 0 := by omega
                  omega
                · have h2 := acc_next acc (c % 128) k h1 (by omega)
                  have h3 := hp64 (k + 1) (by omega)
                  have e : (2 : Int) ^ 63 = 9223372036854775808 := by decide
                  rw [e] at h3
                  simp only
                  omega
      exact key _ _ _ 0 0 (fun z hz' => hz z (List.mem_of_mem_drop hz')) (by omega) (by omega) (by decide)
    rw [h] at hb
    exact hb
  · rintro ⟨⟨h1, h2, h3⟩, h4, h5⟩
    have e : zs = zs.take p ++ (numB n ++ zs.drop q) := by
      have : zs.drop p = numB n ++ zs.drop q := by
        conv => lhs; rw [← List.take_append_drop (numB n).length (zs.drop p)]
        rw [h3, List.drop_drop, ← h1]
      rw [← this, List.take_append_drop]
    have hl : (zs.take p).length = p := by rw [List.length_take]; omega
    have := readU_uint (zs.take p) (zs.drop q) n h4 h5
    rw [hl] at this
    unfold numB at e
    rw [← e] at this
    rw [this]
    have e2 : (q : Int) = (p : Int) + (uintB 9 n).length := by have := h1; unfold numB at this; omega
    rw [e2]
theorem num_iff {p q : Nat} {n least below other : Int} (hl : 0 ≤ least) (hb : below ≤ 18446744073709551616) : numM zs least below other p = .ok (n, q) ↔ Lay zs p (numB n) q ∧ least ≤ n ∧ n < below := by
  obtain ⟨m, t, e, hr⟩ : ∃ m t e, readU zs p = (m, t, e) := ⟨_, _, _, rfl⟩
  unfold numM
  rw [hr]
  simp only
  constructor
  · intro h
    by_cases he : e ≠ 0
    · rw [if_pos he] at h; cases h
    rw [if_neg he] at h
    by_cases h2 : m < least ∨ below ≤ m
    · rw [if_pos h2] at h; cases h
    rw [if_neg h2] at h
    have he0 : e = 0 := Decidable.byContradiction he
    subst he0
    simp only [Except.ok.injEq, Prod.mk.injEq] at h
    obtain ⟨rfl, rfl⟩ := h
    have ht : 0 ≤ t := by
      unfold readU at hr
      split at hr
      · simp at hr
      · obtain ⟨_, j, _, _, _, ht, _⟩ := rd_laid _ _ _ 0 0 m t hr (by omega) (fun z hz' => hz z (List.mem_of_mem_drop hz'))
        omega
    have := (read_iff hz (p := p) (q := t.toNat) (n := m)).1 (by rw [hr]; congr 2; omega)
    exact ⟨this.1, by omega, by omega⟩
  · rintro ⟨h1, h2, h3⟩
    have := (read_iff hz).2 ⟨h1, by omega, by omega⟩
    rw [hr] at this
    simp only [Prod.mk.injEq] at this
    obtain ⟨rfl, rfl, rfl⟩ := this
    rw [if_neg (by simp), if_neg (by omega)]
    simp
theorem nums_iff {below other : Int} (hb : below ≤ 18446744073709551616) : ∀ {k : Nat} {least : Int} {acc res : List Int} {p q : Nat}, 0 ≤ least → p ≤ zs.length →
    (numsM zs below other k least acc p = .ok (res, q) ↔ ∃ l, res = acc ++ l ∧ l.length = k ∧ Lay zs p (numsB l) q ∧ risesF below (least - 1) l = true)
  | 0, least, acc, res, p, q, _, hp => by
    unfold numsM
    constructor
    · intro h
      cases h
      exact ⟨[], by simp, rfl, Lay.nil.2 ⟨rfl, hp⟩, rfl⟩
    · rintro ⟨l, rfl, hl, h1, _⟩
      have := List.eq_nil_of_length_eq_zero hl
      subst this
      obtain ⟨rfl, _⟩ := Lay.nil.1 h1
      simp
  | k + 1, least, acc, res, p, q, h0, hp => by
    unfold numsM
    rw [bind_iff]
    constructor
    · rintro ⟨⟨n, p1⟩, h1, h2⟩
      obtain ⟨h3, h4, h5⟩ := (num_iff hz h0 hb).1 h1
      obtain ⟨l, rfl, h6, h7, h8⟩ := (nums_iff hb (by simp only; omega) h3.2.1).1 h2
      refine ⟨n :: l, by simp, by simp [h6], Lay.app.2 ⟨p1, h3, h7⟩, ?_⟩
      unfold risesF
      rw [if_neg (by omega)]
      simpa using h8
    · rintro ⟨l, rfl, h1, h2, h3⟩
      cases l with
      | nil => cases h1
      | cons n l =>
        obtain ⟨p1, h4, h5⟩ := Lay.app.1 (show Lay zs p (numB n ++ numsB l) q from h2)
        unfold risesF at h3
        split at h3
        · cases h3
        · refine ⟨(n, p1), (num_iff hz h0 hb).2 ⟨h4, by omega, by omega⟩, (nums_iff hb (by simp only; omega) h4.2.1).2 ⟨l, by simp, by simpa using h1, h5, by simpa using h3⟩⟩
theorem list_iff {most least below other : Int} {p q : Nat} {l : List Int} (hm : most < 18446744073709551615) (hl : 0 ≤ least) (hb : below ≤ 18446744073709551616) :
    listM zs most least below other p = .ok (l, q) ↔ Lay zs p (listB l) q ∧ (l.length : Int) ≤ most ∧ risesF below (least - 1) l = true := by
  unfold listM countM
  rw [bind_iff]
  constructor
  · rintro ⟨⟨n, p1⟩, h1, h2⟩
    obtain ⟨h3, h4, h5⟩ := (num_iff hz (by omega) (by omega)).1 h1
    obtain ⟨m, h6, h7, h8, h9⟩ := (nums_iff hz hb hl h3.2.1).1 h2
    simp only [List.nil_append] at h6
    subst h6
    simp only at h7
    have e : (l.length : Int) = n := by omega
    refine ⟨Lay.app.2 ⟨p1, by rw [e]; exact h3, h8⟩, by omega, h9⟩
  · rintro ⟨h1, h2, h3⟩
    obtain ⟨p1, h4, h5⟩ := Lay.app.1 h1
    exact ⟨(l.length, p1), (num_iff hz (by omega) (by omega)).2 ⟨h4, by omega, by omega⟩, (nums_iff hz hb hl h4.2.1).2 ⟨l, rfl, by simp, h5, h3⟩⟩
end

/-! Foes. -/
def giveAll : Nat → List (List Int) → List (List Int) → List (List Int)
  | _, F, [] => F
  | i, F, l :: r => giveAll (i + 1) (giveM i F l) r
def okAb (lits : Int) : Nat → List (List Int) → Prop
  | _, [] => True
  | i, l :: r => l.length ≤ 64 ∧ risesF lits i l = true ∧ okAb lits (i + 1) r
section
variable {zs : List Int} (hz : ∀ z ∈ zs, 0 ≤ z ∧ z ≤ 255)
include hz
theorem foes_iff {lits : Int} (hb : lits ≤ 4096) : ∀ {k i : Nat} {F F' : List (List Int)} {p q : Nat}, p ≤ zs.length →
    (foesM zs lits k i F p = .ok (F', q) ↔ ∃ A, A.length = k ∧ okAb lits i A ∧ Lay zs p (A.flatMap listB) q ∧ F' = giveAll i F A)
  | 0, i, F, F', p, q, hp => by
    unfold foesM
    constructor
    · intro h
      cases h
      exact ⟨[], rfl, trivial, Lay.nil.2 ⟨rfl, hp⟩, rfl⟩
    · rintro ⟨A, hA, _, h1, h2⟩
      have := List.eq_nil_of_length_eq_zero hA
      subst this
      obtain ⟨rfl, _⟩ := Lay.nil.1 h1
      rw [h2]
      rfl
  | k + 1, i, F, F', p, q, hp => by
    unfold foesM
    rw [bind_iff]
    constructor
    · rintro ⟨⟨l, p1⟩, h1, h2⟩
      obtain ⟨h3, h4, h5⟩ := (list_iff hz (by decide) (by omega) (by omega)).1 h1
      obtain ⟨A, h6, h7, h8, h9⟩ := (foes_iff hb h3.2.1).1 h2
      exact ⟨l :: A, by simp [h6], ⟨by omega, by simpa using h5, h7⟩, by rw [List.flatMap_cons]; exact Lay.app.2 ⟨p1, h3, h8⟩, h9⟩
    · rintro ⟨A, h1, h2, h3, h4⟩
      cases A with
      | nil => cases h1
      | cons l A =>
        rw [List.flatMap_cons] at h3
        obtain ⟨p1, h5, h6⟩ := Lay.app.1 h3
        obtain ⟨h7, h8, h9⟩ := h2
        exact ⟨(l, p1), (list_iff hz (by decide) (by omega) (by omega)).2 ⟨h5, by omega, by simpa using h8⟩, (foes_iff hb h5.2.1).2 ⟨A, by simpa using h1, h9, h6, h4⟩⟩
def okR (lits : Int) (r : RuleM) : Prop := 1 ≤ r.kind ∧ r.kind < 4 ∧ 0 ≤ r.head ∧ r.head < lits ∧ r.body.length ≤ 16 ∧ risesF lits (-1) r.body = true
theorem oneRule_iff {lits : Int} (hb : lits ≤ 4096) {p q : Nat} {r : RuleM} : oneRuleM zs lits p = .ok (r, q) ↔ Lay zs p (ruleB r) q ∧ okR lits r := by
  unfold oneRuleM ruleB okR
  rw [bind_iff]
  constructor
  · rintro ⟨⟨k, p1⟩, h1, h2⟩
    obtain ⟨⟨h, p2⟩, h3, h4⟩ := bind_iff.1 h2
    obtain ⟨⟨b, p3⟩, h5, h6⟩ := bind_iff.1 h4
    cases h6
    obtain ⟨a1, a2, a3⟩ := (num_iff hz (by omega) (by omega)).1 h1
    obtain ⟨b1, b2, b3⟩ := (num_iff hz (by omega) (by omega)).1 h3
    obtain ⟨c1, c2, c3⟩ := (list_iff hz (by decide) (by omega) (by omega)).1 h5
    exact ⟨Lay.app.2 ⟨p2, Lay.app.2 ⟨p1, a1, b1⟩, c1⟩, a2, a3, b2, b3, by simp only at c2 ⊢; omega, by simpa using c3⟩
  · rintro ⟨h1, a2, a3, b2, b3, c2, c3⟩
    obtain ⟨p2, h2, c1⟩ := Lay.app.1 h1
    obtain ⟨p1, a1, b1⟩ := Lay.app.1 h2
    refine ⟨(r.kind, p1), (num_iff hz (by omega) (by omega)).2 ⟨a1, a2, a3⟩, bind_iff.2 ⟨(r.head, p2), (num_iff hz (by omega) (by omega)).2 ⟨b1, b2, b3⟩, bind_iff.2 ⟨(r.body, q), (list_iff hz (by decide) (by omega) (by omega)).2 ⟨c1, by omega, by simpa using c3⟩, rfl⟩⟩⟩
theorem rules_iff {lits : Int} (hb : lits ≤ 4096) : ∀ {k : Nat} {R R' : List RuleM} {p q : Nat}, p ≤ zs.length →
    (rulesM zs lits k R p = .ok (R', q) ↔ ∃ l, l.length = k ∧ (∀ r ∈ l, okR lits r) ∧ Lay zs p (l.flatMap ruleB) q ∧ R' = R ++ l)
  | 0, R, R', p, q, hp => by
    unfold rulesM
    constructor
    · intro h
      cases h
      exact ⟨[], rfl, by simp, Lay.nil.2 ⟨rfl, hp⟩, by simp⟩
    · rintro ⟨A, hA, _, h1, h2⟩
      have := List.eq_nil_of_length_eq_zero hA
      subst this
      obtain ⟨rfl, _⟩ := Lay.nil.1 h1
      rw [h2]
      simp
  | k + 1, R, R', p, q, hp => by
    unfold rulesM
    rw [bind_iff]
    constructor
    · rintro ⟨⟨l, p1⟩, h1, h2⟩
      obtain ⟨h3, h4⟩ := (oneRule_iff hz hb).1 h1
      obtain ⟨A, h6, h7, h8, h9⟩ := (rules_iff hb h3.2.1).1 h2
      exact ⟨l :: A, by simp [h6], by simp; exact ⟨h4, h7⟩, by rw [List.flatMap_cons]; exact Lay.app.2 ⟨p1, h3, h8⟩, by rw [h9]; simp⟩
    · rintro ⟨A, h1, h2, h3, h4⟩
      cases A with
      | nil => cases h1
      | cons l A =>
        rw [List.flatMap_cons] at h3
        obtain ⟨p1, h5, h6⟩ := Lay.app.1 h3
        exact ⟨(l, p1), (oneRule_iff hz hb).2 ⟨h5, h2 l (by simp)⟩, (rules_iff hb h5.2.1).2 ⟨A, by simpa using h1, fun r hr => h2 r (by simp [hr]), h6, by rw [h4]; simp⟩⟩
theorem beats_iff {n : Int} (hb : n ≤ 4096) : ∀ {k : Nat} {R R' : List (List Int)} {p q : Nat}, p ≤ zs.length →
    (beatsM zs n k R p = .ok (R', q) ↔ ∃ l, l.length = k ∧ (∀ r ∈ l, risesF n (-1) r = true) ∧ Lay zs p (l.flatMap listB) q ∧ R' = R ++ l)
  | 0, R, R', p, q, hp => by
    unfold beatsM
    constructor
    · intro h
      cases h
      exact ⟨[], rfl, by simp, Lay.nil.2 ⟨rfl, hp⟩, by simp⟩
    · rintro ⟨A, hA, _, h1, h2⟩
      have := List.eq_nil_of_length_eq_zero hA
      subst this
      obtain ⟨rfl, _⟩ := Lay.nil.1 h1
      rw [h2]
      simp
  | k + 1, R, R', p, q, hp => by
    unfold beatsM
    rw [bind_iff]
    constructor
    · rintro ⟨⟨l, p1⟩, h1, h2⟩
      obtain ⟨h3, _, h4⟩ := (list_iff hz (by decide) (by omega) (by omega)).1 h1
      obtain ⟨A, h6, h7, h8, h9⟩ := (beats_iff hb h3.2.1).1 h2
      exact ⟨l :: A, by simp [h6], by simp only [List.mem_cons, forall_eq_or_imp]; exact ⟨by simpa using h4, h7⟩, by rw [List.flatMap_cons]; exact Lay.app.2 ⟨p1, h3, h8⟩, by rw [h9]; simp⟩
    · rintro ⟨A, h1, h2, h3, h4⟩
      cases A with
      | nil => cases h1
      | cons l A =>
        rw [List.flatMap_cons] at h3
        obtain ⟨p1, h5, h6⟩ := Lay.app.1 h3
        have h7 := h2 l (by simp)
        have h8 := rises_len h7
        exact ⟨(l, p1), (list_iff hz (by decide) (by omega) (by omega)).2 ⟨h5, by omega, by simpa using h7⟩, (beats_iff hb h5.2.1).2 ⟨A, by simpa using h1, fun r hr => h2 r (by simp [hr]), h6, by rw [h4]; simp⟩⟩
omit hz in
theorem mark_iff : markM zs 4 0 = .ok () ↔ Lay zs 0 markB 4 := by
  have key : ∀ k i, i + k ≤ 4 → (markM zs k i = .ok () ↔ ∀ j, i ≤ j → j < i + k → j < zs.length ∧ zs.getD j 0 = markB.getD j 0) := by
    intro k
    induction k with
    | zero => intro i _; simp [markM]; intro j h1 h2; omega
    | succ k ih =>
      intro i hi
      unfold markM
      by_cases h1 : zs.length ≤ i
      · rw [if_pos h1]
        simp
        exact ⟨i, by omega, by omega, fun h => by omega⟩
      · rw [if_neg h1]
        by_cases h2 : zs.getD i 0 ≠ markB.getD i 0
        · rw [if_pos h2]
          constructor
          · intro h; cases h
          · intro h; exact absurd (h i (by omega) (by omega)).2 h2
        · rw [if_neg h2, ih (i + 1) (by omega)]
          constructor
          · intro h j hj1 hj2
            by_cases e : j = i
            · subst e
              exact ⟨by omega, Decidable.byContradiction h2⟩
            · exact h j (by omega) (by omega)
          · intro h j hj1 hj2
            exact h j (by omega) (by omega)
  rw [key 4 0 (by omega)]
  unfold Lay
  constructor
  · intro h
    have h3 := h 3 (by omega) (by omega)
    refine ⟨rfl, by omega, ?_⟩
    apply List.ext_getElem
    · simp [markB]; omega
    · intro i hi1 hi2
      have hi4 : i < 4 := by simpa [markB] using hi2
      have := h i (by omega) (by omega)
      simp only [List.drop_zero, List.getElem_take]
      have e1 : zs.getD i 0 = zs[i] := by simp [List.getD, this.1]
      rw [← e1, this.2, List.getD_eq_getElem?_getD, List.getElem?_eq_getElem hi2]
      rfl
  · rintro ⟨_, h2, h3⟩ j hj1 hj2
    refine ⟨by omega, ?_⟩
    have : (zs.drop 0).take markB.length = markB := h3
    rw [← this]
    simp only [List.drop_zero, List.getD]
    rw [List.getElem?_take, if_pos (by simp [markB]; omega)]
theorem whole_iff {T : Th} : wholeM zs = .ok T ↔ ∃ A, zs = markB ++ numB T.lits ++ A.flatMap listB ++ numB T.rules.length ++ T.rules.flatMap ruleB ++ T.beats.flatMap listB ∧
    (checkM T).1 = 0 ∧ 0 ≤ T.lits ∧ T.lits ≤ 4096 ∧ (A.length : Int) = T.lits ∧ okAb T.lits 0 A ∧ T.foes = giveAll 0 (List.replicate T.lits.toNat []) A ∧ T.rules.length ≤ 4096 ∧ (∀ r ∈ T.rules, okR T.lits r) ∧ T.beats.length = T.rules.length ∧ (∀ r ∈ T.beats, risesF T.rules.length (-1) r = true) := by
  unfold wholeM
  constructor
  · intro h
    obtain ⟨⟨⟩, h1, h⟩ := bind_iff.1 h
    obtain ⟨⟨n, p1⟩, h2, h⟩ := bind_iff.1 h
    obtain ⟨⟨F, p2⟩, h3, h⟩ := bind_iff.1 h
    obtain ⟨⟨R, p3⟩, h4, h⟩ := bind_iff.1 h
    obtain ⟨⟨b, p4⟩, h5, h⟩ := bind_iff.1 h
    have m1 := mark_iff.1 h1
    unfold countM at h2
    obtain ⟨n1, n2, n3⟩ := (num_iff hz (by omega) (by omega)).1 h2
    obtain ⟨A, a1, a2, a3, a4⟩ := (foes_iff hz (by omega) n1.2.1).1 h3
    unfold allRulesM at h4
    obtain ⟨⟨k, p5⟩, h6, h4⟩ := bind_iff.1 h4
    unfold countM at h6
    obtain ⟨k1, k2, k3⟩ := (num_iff hz (by omega) (by omega)).1 h6
    obtain ⟨l, r1, r2, r3, r4⟩ := (rules_iff hz (by omega) k1.2.1).1 h4
    simp only [List.nil_append] at r4
    subst r4
    simp only at r1
    obtain ⟨bl, b1, b2, b3, b4⟩ := (beats_iff hz (by simp only; omega) r3.2.1).1 h5
    simp only [List.nil_append] at b4
    subst b4
    unfold tailM at h
    split at h
    · cases h
    split at h
    · cases h
    rename_i ht hc
    cases h
    have e : p4 = zs.length := by have := b3.2.1; simp only at ht; omega
    subst e
    refine ⟨A, Lay.whole.1 (Lay.app.2 ⟨p3, Lay.app.2 ⟨p5, Lay.app.2 ⟨p2, Lay.app.2 ⟨p1, Lay.app.2 ⟨4, m1, n1⟩, a3⟩, ?_⟩, r3⟩, b3⟩), Decidable.byContradiction hc, n2, by simp only; omega, by simp only; omega, a2, a4, by simp only; omega, r2, b1, b2⟩
    have : ((R.length : Nat) : Int) = k := by omega
    simp only
    rw [this]
    exact k1
  · rintro ⟨A, h1, h2, h3, h4, h5, h6, h7, h8, h9, h10, h11⟩
    obtain ⟨p4, h12, l6⟩ := Lay.app.1 (Lay.whole.2 h1)
    obtain ⟨p3, h13, l5⟩ := Lay.app.1 h12
    obtain ⟨p2, h14, l4⟩ := Lay.app.1 h13
    obtain ⟨p1, h15, l3⟩ := Lay.app.1 h14
    obtain ⟨p0, l1, l2⟩ := Lay.app.1 h15
    have e0 : p0 = 4 := l1.1
    subst e0
    refine bind_iff.2 ⟨(), mark_iff.2 l1, bind_iff.2 ⟨(T.lits, p1), (num_iff hz (by omega) (by omega)).2 ⟨l2, h3, by omega⟩, bind_iff.2 ⟨(T.foes, p2), (foes_iff hz h4 l2.2.1).2 ⟨A, by simp only; omega, h6, l3, h7⟩, ?_⟩⟩⟩
    refine bind_iff.2 ⟨(T.rules, p4), bind_iff.2 ⟨(T.rules.length, p3), (num_iff hz (by omega) (by omega)).2 ⟨l4, by omega, by omega⟩, (rules_iff hz (by simp only; omega) l4.2.1).2 ⟨T.rules, by simp, h9, l5, rfl⟩⟩, ?_⟩
    refine bind_iff.2 ⟨(T.beats, zs.length), (beats_iff hz (by simp only; omega) l5.2.1).2 ⟨T.beats, h10, h11, l6, rfl⟩, ?_⟩
    unfold tailM
    rw [if_neg (by simp), if_neg (by simp [h2])]
end
end Go.Proofs.YthifoamnmhlghaaGreat
