/- Bytes of theories, there and back: plain mathematics. -/
import Derived.Test.YtdmnoeooljofcaaOBase
namespace Go.Proofs.Ytdmnoeooljofcaa

/-! Rising lists. -/
theorem rises_iff {b : Int} : ∀ {l : List Int} {a : Int}, risesF b a l = true ↔ (∀ z ∈ l, a < z ∧ z < b) ∧ l.Pairwise (· < ·)
  | [], a => by simp [risesF]
  | n :: r, a => by
    unfold risesF
    by_cases h : n ≤ a ∨ b ≤ n
    · rw [if_pos h]
      simp
      omega
    · rw [if_neg h, rises_iff]
      simp only [List.mem_cons, forall_eq_or_imp, List.pairwise_cons]
      constructor
      · rintro ⟨h1, h2⟩
        exact ⟨⟨by omega, fun z hz => by have := h1 z hz; omega⟩, fun z hz => (h1 z hz).1, h2⟩
      · rintro ⟨⟨h1, h2⟩, h3, h4⟩
        exact ⟨fun z hz => ⟨h3 z hz, (h2 z hz).2⟩, h4⟩
theorem rises_len {b : Int} : ∀ {l : List Int} {a : Int}, risesF b a l = true → (l.length : Int) ≤ max 0 (b - 1 - a)
  | [], a, _ => by simp; omega
  | n :: r, a, h => by
    unfold risesF at h
    split at h
    · cases h
    · have := rises_len h
      simp only [List.length_cons]
      omega
theorem pw_ext : ∀ {xs ys : List Int}, xs.Pairwise (· < ·) → ys.Pairwise (· < ·) → (∀ z, z ∈ xs ↔ z ∈ ys) → xs = ys
  | [], [], _, _, _ => rfl
  | [], y :: ys, _, _, h => by have := (h y).2 (by simp); simp at this
  | x :: xs, [], _, _, h => by have := (h x).1 (by simp); simp at this
  | x :: xs, y :: ys, hx, hy, h => by
    rw [List.pairwise_cons] at hx hy
    have e : x = y := by
      have h1 := (h x).1 (by simp)
      have h2 := (h y).2 (by simp)
      simp only [List.mem_cons] at h1 h2
      rcases h1 with h1 | h1
      · exact h1
      · rcases h2 with h2 | h2
        · exact h2.symm
        · have := hx.1 y h2
          have := hy.1 x h1
          omega
    subst e
    congr 1
    refine pw_ext hx.2 hy.2 fun z => ?_
    constructor
    · intro hz
      have := (h z).1 (by simp [hz])
      rcases List.mem_cons.1 this with e | h3
      · have := hx.1 z hz; omega
      · exact h3
    · intro hz
      have := (h z).2 (by simp [hz])
      rcases List.mem_cons.1 this with e | h3
      · have := hy.1 z hz; omega
      · exact h3

/-! Bytes that stand there. -/
def Lay (zs : List Int) (p : Nat) (l : List Int) (q : Nat) : Prop := q = p + l.length ∧ q ≤ zs.length ∧ (zs.drop p).take l.length = l
theorem Lay.nil {zs : List Int} {p q : Nat} : Lay zs p [] q ↔ q = p ∧ p ≤ zs.length := by unfold Lay; simp; omega
theorem Lay.app {zs : List Int} {p q : Nat} {l m : List Int} : Lay zs p (l ++ m) q ↔ ∃ k, Lay zs p l k ∧ Lay zs k m q := by
  unfold Lay
  constructor
  · rintro ⟨rfl, h2, h3⟩
    simp only [List.length_append] at h2 h3
    have e : (zs.drop p).take l.length = l := by
      have := congrArg (List.take l.length) h3
      rw [List.take_take, Nat.min_eq_left (by omega), List.take_left] at this
      exact this
    refine ⟨p + l.length, ⟨rfl, by omega, e⟩, by simp; omega, by simp; omega, ?_⟩
    have := congrArg (List.drop l.length) h3
    rw [List.drop_take, List.drop_left, List.drop_drop] at this
    rw [← this]
    simp
  · rintro ⟨k, ⟨rfl, h2, h3⟩, rfl, h5, h6⟩
    refine ⟨by simp; omega, by omega, ?_⟩
    rw [List.length_append, List.take_add, h3, List.drop_drop, h6]
theorem Lay.whole {zs l : List Int} : Lay zs 0 l zs.length ↔ zs = l := by
  unfold Lay
  constructor
  · rintro ⟨h1, _, h3⟩
    rw [Nat.zero_add] at h1
    rw [← h1, List.drop_zero, List.take_length] at h3
    exact h3
  · rintro rfl
    simp

theorem rd_to : ∀ (l : List Int) (len p : Int) (k : Nat) (acc n to : Int), rd len p k acc l = (n, to, 0) → to ≤ p + k + l.length
  | [], len, p, k, acc, n, to, h => by simp [rd] at h
  | c :: r, len, p, k, acc, n, to, h => by
    unfold rd at h
    split at h
    · simp at h
    · split at h
      · have := rd_to r len p (k + 1) _ n to h
        simp only [List.length_cons]
        omega
      · split at h
        · simp at h
        · simp at h
          simp only [List.length_cons]
          omega
theorem uintB_ne (f : Nat) (n : Int) : 0 < (uintB f n).length := Nat.pos_of_ne_zero (uintB_pos f n)
theorem bind_iff {α β : Type} {o : Er α} {f : α → Er β} {b : β} : (o >>= f) = .ok b ↔ ∃ a, o = .ok a ∧ f a = .ok b := by
  cases o with
  | error e => exact ⟨fun h => (by cases h), fun ⟨a, h, _⟩ => (by cases h)⟩
  | ok a => exact ⟨fun h => ⟨a, rfl, h⟩, fun ⟨a', h, h2⟩ => (by cases h; exact h2)⟩
section
variable {zs : List Int} (hz : ∀ z ∈ zs, 0 ≤ z ∧ z ≤ 255)
include hz
theorem read_iff {p q : Nat} {n : Int} : readU zs p = (n, (q : Int), 0) ↔ Lay zs p (numB n) q ∧ 0 ≤ n ∧ n < 18446744073709551616 := by
  constructor
  · intro h
    unfold readU at h
    split at h
    · simp at h
    rename_i hp
    have hp' : p ≤ zs.length := by omega
    rw [show (p : Int).toNat = p by omega] at h
    have hto := rd_to _ _ _ _ _ _ _ h
    rw [List.length_drop] at hto
    obtain ⟨m, j, hm, _, hn, ht, hu⟩ := rd_laid _ _ _ 0 0 n q h (by omega) (fun z hz' => hz z (List.mem_of_mem_drop hz'))
    have e1 : n = m := by rw [hn]; simp
    subst e1
    have ej : q = p + j := by omega
    subst ej
    have hj : (uintB 9 n).length = j := by rw [show 9 - 0 = 9 from rfl] at hu; rw [hu, List.length_take, List.length_drop]; omega
    refine ⟨⟨by unfold numB; rw [hj], by omega, by unfold numB; rw [hj]; exact hu.symm⟩, hm, ?_⟩
    have hb : (rd zs.length p 0 0 (zs.drop p)).1 < 18446744073709551616 := by
      have key : ∀ (l : List Int) (len p : Int) (k : Nat) (acc : Int), (∀ z ∈ l, 0 ≤ z ∧ z ≤ 255) → k ≤ 9 → 0 ≤ acc → acc < 2 ^ (7 * k) → (rd len p k acc l).1 < 18446744073709551616 := by
        intro l
        induction l with
        | nil => intro len p k acc _ _ _ _; simp [rd]
        | cons c r ih =>
          intro len p k acc hB hk h0 h1
          have hc0 := (hB c (by simp)).1
          unfold rd
          have hp64 : ∀ k : Nat, k ≤ 9 → (2 : Int) ^ (7 * k) ≤ 2 ^ 63 := fun k hk => by
            have h := Nat.pow_le_pow_right (n := 2) (by decide) (show 7 * k ≤ 63 by omega)
            have e : (2 : Int) ^ (7 * k) = ((2 ^ (7 * k) : Nat) : Int) := by simp
            have e2 : (2 : Int) ^ 63 = ((2 ^ 63 : Nat) : Int) := by decide
            rw [e, e2]
            omega
          split
          · simp
          · rename_i hbad
            split
            · refine ih _ _ _ _ (fun z hz => hB z (by simp [hz])) (by omega) (acc_pos _ _ _ h0 (by omega)) (acc_next _ _ _ h1 (by omega))
            · split
              · simp
              · rename_i h128 _
                by_cases h9 : k = 9
                · subst h9
                  simp only
                  have hc1 : c ≤ 1 := by omega
                  have e : (2 : Int) ^ (7 * 9) = 9223372036854775808 := by decide
                  rw [e] at h1 ⊢
                  have : c % 128 ≤ 1 ∨ c < 0 := by omega
                  omega
                · have h2 := acc_next acc (c % 128) k h1 (by omega)
                  have h3 := hp64 (k + 1) (by omega)
                  have e : (2 : Int) ^ 63 = 9223372036854775808 := by decide
                  rw [e] at h3
                  simp only
                  omega
      exact key _ _ _ 0 0 (fun z hz' => hz z (List.mem_of_mem_drop hz')) (by omega) (by omega) (by decide)
    rw [h] at hb
    exact hb
  · rintro ⟨⟨h1, h2, h3⟩, h4, h5⟩
    have e : zs = zs.take p ++ (numB n ++ zs.drop q) := by
      have : zs.drop p = numB n ++ zs.drop q := by
        conv => lhs; rw [← List.take_append_drop (numB n).length (zs.drop p)]
        rw [h3, List.drop_drop, ← h1]
      rw [← this, List.take_append_drop]
    have hl : (zs.take p).length = p := by rw [List.length_take]; omega
    have := readU_uint (zs.take p) (zs.drop q) n h4 h5
    rw [hl] at this
    unfold numB at e
    rw [← e] at this
    rw [this]
    have e2 : (q : Int) = (p : Int) + (uintB 9 n).length := by have := h1; unfold numB at this; omega
    rw [e2]
theorem num_iff {p q : Nat} {n least below other : Int} (hl : 0 ≤ least) (hb : below ≤ 18446744073709551616) : numM zs least below other p = .ok (n, q) ↔ Lay zs p (numB n) q ∧ least ≤ n ∧ n < below := by
  obtain ⟨m, t, e, hr⟩ : ∃ m t e, readU zs p = (m, t, e) := ⟨_, _, _, rfl⟩
  unfold numM
  rw [hr]
  simp only
  constructor
  · intro h
    by_cases he : e ≠ 0
    · rw [if_pos he] at h; cases h
    rw [if_neg he] at h
    by_cases h2 : m < least ∨ below ≤ m
    · rw [if_pos h2] at h; cases h
    rw [if_neg h2] at h
    have he0 : e = 0 := Decidable.byContradiction he
    subst he0
    simp only [Except.ok.injEq, Prod.mk.injEq] at h
    obtain ⟨rfl, rfl⟩ := h
    have ht : 0 ≤ t := by
      unfold readU at hr
      split at hr
      · simp at hr
      · obtain ⟨_, j, _, _, _, ht, _⟩ := rd_laid _ _ _ 0 0 m t hr (by omega) (fun z hz' => hz z (List.mem_of_mem_drop hz'))
        omega
    have := (read_iff hz (p := p) (q := t.toNat) (n := m)).1 (by rw [hr]; congr 2; omega)
    exact ⟨this.1, by omega, by omega⟩
  · rintro ⟨h1, h2, h3⟩
    have := (read_iff hz).2 ⟨h1, by omega, by omega⟩
    rw [hr] at this
    simp only [Prod.mk.injEq] at this
    obtain ⟨rfl, rfl, rfl⟩ := this
    rw [if_neg (by simp), if_neg (by omega)]
    simp
theorem nums_iff {below other : Int} (hb : below ≤ 18446744073709551616) : ∀ {k : Nat} {least : Int} {acc res : List Int} {p q : Nat}, 0 ≤ least → p ≤ zs.length →
    (numsM zs below other k least acc p = .ok (res, q) ↔ ∃ l, res = acc ++ l ∧ l.length = k ∧ Lay zs p (numsB l) q ∧ risesF below (least - 1) l = true)
  | 0, least, acc, res, p, q, _, hp => by
    unfold numsM
    constructor
    · intro h
      cases h
      exact ⟨[], by simp, rfl, Lay.nil.2 ⟨rfl, hp⟩, rfl⟩
    · rintro ⟨l, rfl, hl, h1, _⟩
      have := List.eq_nil_of_length_eq_zero hl
      subst this
      obtain ⟨rfl, _⟩ := Lay.nil.1 h1
      simp
  | k + 1, least, acc, res, p, q, h0, hp => by
    unfold numsM
    rw [bind_iff]
    constructor
    · rintro ⟨⟨n, p1⟩, h1, h2⟩
      obtain ⟨h3, h4, h5⟩ := (num_iff hz h0 hb).1 h1
      obtain ⟨l, rfl, h6, h7, h8⟩ := (nums_iff hb (by simp only; omega) h3.2.1).1 h2
      refine ⟨n :: l, by simp, by simp [h6], Lay.app.2 ⟨p1, h3, h7⟩, ?_⟩
      unfold risesF
      rw [if_neg (by omega)]
      simpa using h8
    · rintro ⟨l, rfl, h1, h2, h3⟩
      cases l with
      | nil => cases h1
      | cons n l =>
        obtain ⟨p1, h4, h5⟩ := Lay.app.1 (show Lay zs p (numB n ++ numsB l) q from h2)
        unfold risesF at h3
        split at h3
        · cases h3
        · refine ⟨(n, p1), (num_iff hz h0 hb).2 ⟨h4, by omega, by omega⟩, (nums_iff hb (by simp only; omega) h4.2.1).2 ⟨l, by simp, by simpa using h1, h5, by simpa using h3⟩⟩
theorem list_iff {most least below other : Int} {p q : Nat} {l : List Int} (hm : most < 18446744073709551615) (hl : 0 ≤ least) (hb : below ≤ 18446744073709551616) :
    listM zs most least below other p = .ok (l, q) ↔ Lay zs p (listB l) q ∧ (l.length : Int) ≤ most ∧ risesF below (least - 1) l = true := by
  unfold listM countM
  rw [bind_iff]
  constructor
  · rintro ⟨⟨n, p1⟩, h1, h2⟩
    obtain ⟨h3, h4, h5⟩ := (num_iff hz (by omega) (by omega)).1 h1
    obtain ⟨m, h6, h7, h8, h9⟩ := (nums_iff hz hb hl h3.2.1).1 h2
    simp only [List.nil_append] at h6
    subst h6
    simp only at h7
    have e : (l.length : Int) = n := by omega
    refine ⟨Lay.app.2 ⟨p1, by rw [e]; exact h3, h8⟩, by omega, h9⟩
  · rintro ⟨h1, h2, h3⟩
    obtain ⟨p1, h4, h5⟩ := Lay.app.1 h1
    exact ⟨(l.length, p1), (num_iff hz (by omega) (by omega)).2 ⟨h4, by omega, by omega⟩, (nums_iff hz hb hl h4.2.1).2 ⟨l, rfl, by simp, h5, h3⟩⟩
end

/-! Foes. -/
def giveAll : Nat → List (List Int) → List (List Int) → List (List Int)
  | _, F, [] => F
  | i, F, l :: r => giveAll (i + 1) (giveM i F l) r
def okAb (lits : Int) : Nat → List (List Int) → Prop
  | _, [] => True
  | i, l :: r => l.length ≤ 64 ∧ risesF lits i l = true ∧ okAb lits (i + 1) r
section
variable {zs : List Int} (hz : ∀ z ∈ zs, 0 ≤ z ∧ z ≤ 255)
include hz
def okR (lits : Int) (r : RuleM) : Prop := 1 ≤ r.kind ∧ r.kind < 4 ∧ 0 ≤ r.head ∧ r.head < lits ∧ r.body.length ≤ 16 ∧ risesF lits (-1) r.body = true
end
end Go.Proofs.Ytdmnoeooljofcaa
/- What is checked; there and back. -/
namespace Go.Proofs.Ytdmnoeooljofcaa

theorem first_none {α : Type} {p : Nat → α → Bool} : ∀ {l : List α} {i : Nat}, firstB p i l = none ↔ ∀ j x, l[j]? = some x → p (i + j) x = false
  | [], i => by simp [firstB]
  | y :: l, i => by
    unfold firstB
    by_cases h : p i y = true
    · rw [if_pos h]
      constructor
      · intro h; cases h
      · intro h2; have := h2 0 y rfl; rw [Nat.add_zero, h] at this; cases this
    · rw [if_neg h, first_none]
      constructor
      · intro h2 j x hx
        cases j with
        | zero => simp at hx; subst hx; simpa using h
        | succ j => have := h2 j x (by simpa using hx); rwa [show i + 1 + j = i + (j + 1) by omega] at this
      · intro h2 j x hx
        have := h2 (j + 1) x (by simpa using hx)
        rwa [show i + (j + 1) = i + 1 + j by omega] at this
theorem atM_zero {c : Int} (hc : c ≠ 0) {o : Option Nat} : (atM c o).1 = 0 ↔ o = none := by
  cases o <;> simp [atM, hc]
theorem orM_zero {a b : Int × Int} : (orM a b).1 = 0 ↔ a.1 = 0 ∧ b.1 = 0 := by
  unfold orM
  by_cases h : a.1 = 0
  · rw [if_pos h]; simp [h]
  · rw [if_neg h]; simp [h]
structure OkT (T : Th) : Prop where
  l0 : 0 ≤ T.lits
  l1 : T.lits ≤ 4096
  fl : (T.foes.length : Int) = T.lits
  foe : ∀ (i : Nat) l, T.foes[i]? = some l → l.length ≤ 64 ∧ risesF T.lits (-1) l = true ∧ (i : Int) ∉ l ∧ ∀ f ∈ l, (i : Int) ∈ row T.foes f
  rl : T.rules.length ≤ 4096
  rule : ∀ r ∈ T.rules, okR T.lits r
  pr : pairsM T ≤ 65536
  bl : T.beats.length = T.rules.length
  beat : ∀ (i : Nat) l, T.beats[i]? = some l → risesF T.rules.length (-1) l = true ∧ ∀ b ∈ l, headOf T b ∈ row T.foes (headOf T i)
  circle : ¬ lowestM T < T.rules.length
theorem foe_ok {T : Th} (h : (foeM T).1 = 0) : (T.foes.length : Int) = T.lits ∧ ∀ (i : Nat) l, T.foes[i]? = some l → l.length ≤ 64 ∧ risesF T.lits (-1) l = true ∧ (i : Int) ∉ l ∧ ∀ f ∈ l, (i : Int) ∈ row T.foes f := by
  unfold foeM at h
  split at h
  · cases h
  rename_i h1
  refine ⟨Decidable.byContradiction h1, fun i l hi => ?_⟩
  rw [atM_zero (by decide), first_none] at h
  have := h i l hi
  rw [Nat.zero_add] at this
  simp [badFoe, returnedM, risesM] at this
  exact ⟨this.1.1.1, this.1.1.2, this.1.2, this.2⟩
theorem okR_of {lits : Int} {r : RuleM} : okRule lits r = true ↔ okR lits r := by
  unfold okRule okR inM risesM
  simp only [Bool.and_eq_true, Bool.or_eq_true, decide_eq_true_eq]
  constructor
  · rintro ⟨⟨⟨h1, h2, h3⟩, h4⟩, h5⟩
    exact ⟨by omega, by omega, h2, h3, h4, h5⟩
  · rintro ⟨h1, h2, h3, h4, h5, h6⟩
    exact ⟨⟨⟨by omega, h3, h4⟩, h5⟩, h6⟩
theorem rule_ok {T : Th} (h : (ruleM T).1 = 0) : T.rules.length ≤ 4096 ∧ ∀ r ∈ T.rules, okR T.lits r := by
  unfold ruleM at h
  split at h
  · cases h
  rename_i h1
  refine ⟨by omega, fun r hr => ?_⟩
  rw [atM_zero (by decide), first_none] at h
  obtain ⟨i, hi, rfl⟩ := List.mem_iff_getElem.1 hr
  have := h i _ (List.getElem?_eq_getElem hi)
  exact okR_of.1 (by simpa using this)
theorem beat_ok {T : Th} (h : (beatM T).1 = 0) : T.beats.length = T.rules.length ∧ ∀ (i : Nat) l, T.beats[i]? = some l → risesF T.rules.length (-1) l = true ∧ ∀ b ∈ l, headOf T b ∈ row T.foes (headOf T i) := by
  unfold beatM at h
  split at h
  · cases h
  rename_i h1
  refine ⟨Decidable.byContradiction h1, fun i l hi => ?_⟩
  rw [atM_zero (by decide), first_none] at h
  have := h i l hi
  rw [Nat.zero_add] at this
  simp [badBeat, risesM] at this
  exact this
theorem check_ok {T : Th} (h : (checkM T).1 = 0) : OkT T := by
  unfold checkM at h
  split at h
  · cases h
  rename_i h1
  simp only [orM_zero] at h
  obtain ⟨h2, h3, h4, h5, h6⟩ := h
  obtain ⟨f1, f2⟩ := foe_ok h2
  obtain ⟨r1, r2⟩ := rule_ok h3
  obtain ⟨b1, b2⟩ := beat_ok h5
  refine ⟨by omega, by omega, f1, f2, r1, r2, ?_, b1, b2, ?_⟩
  · unfold pairM at h4
    split at h4
    · cases h4
    · omega
  · intro hc
    unfold circleM at h6
    rw [if_pos hc] at h6
    cases h6
theorem check_zero {T : Th} (h : (checkM T).1 = 0) : checkM T = (0, 0) := by
  have key : ∀ {a b : Int × Int}, (a.1 = 0 → a = (0, 0)) → (b.1 = 0 → b = (0, 0)) → (orM a b).1 = 0 → orM a b = (0, 0) := by
    intro a b ha hb h
    unfold orM at h ⊢
    split
    · rename_i h1; rw [if_pos h1] at h; exact hb h
    · rename_i h1; rw [if_neg h1] at h; exact absurd h h1
  have k2 : ∀ {c : Int} {o : Option Nat}, c ≠ 0 → (atM c o).1 = 0 → atM c o = (0, 0) := by
    intro c o hc h
    cases o
    · rfl
    · exact absurd h hc
  unfold checkM at h ⊢
  split
  · rename_i h1; rw [if_pos h1] at h; cases h
  rename_i h1
  rw [if_neg h1] at h
  refine key ?_ (key ?_ (key ?_ (key ?_ ?_))) h
  · unfold foeM; split
    · intro h; cases h
    · exact k2 (by decide)
  · unfold ruleM; split
    · intro h; cases h
    · exact k2 (by decide)
  · unfold pairM; split
    · intro h; cases h
    · intro _; rfl
  · unfold beatM; split
    · intro h; cases h
    · exact k2 (by decide)
  · unfold circleM; split
    · intro h; cases h
    · intro _; rfl

/-! Foes, gathered. -/
def gath (m : Nat) : Nat → List (List Int) → List Int
  | _, [] => []
  | i, l :: r => (if m = i then l else if (m : Int) ∈ l then [(i : Int)] else []) ++ gath m (i + 1) r
theorem giveM_at {i m : Nat} {lits : Int} : ∀ {l : List Int} {F : List (List Int)} {a : Int}, (i : Int) ≤ a → risesF lits a l = true →
    (giveM i F l)[m]? = (F[m]?).map (· ++ (if m = i then l else if (m : Int) ∈ l then [(i : Int)] else []))
  | [], F, a, _, _ => by unfold giveM; cases F[m]? <;> simp
  | f :: r, F, a, hi, h => by
    unfold risesF at h
    split at h
    · cases h
    rename_i hf
    unfold giveM
    rw [giveM_at (by omega) h]
    have hp := (rises_iff.1 h).1
    rw [List.getElem?_modify, List.getElem?_modify]
    by_cases hm : m = i
    · subst hm
      have e1 : ¬ f.toNat = m := by omega
      cases F[m]? <;> simp [e1]
    · have e0 : ¬ i = m := by omega
      by_cases hmf : f.toNat = m
      · have e : (m : Int) = f := by omega
        have hn : (m : Int) ∉ r := fun hr => by have := (hp _ hr).1; omega
        rw [if_neg hm, if_neg hm, if_neg hn, if_pos (by simp [e])]
        cases F[m]? <;> simp [e0, hmf]
      · have : ((m : Int) ∈ f :: r) ↔ (m : Int) ∈ r := by
          simp only [List.mem_cons]
          constructor
          · rintro (h | h)
            · omega
            · exact h
          · exact .inr
        simp only [this, if_neg hm]
        cases F[m]? <;> simp [e0, hmf]
theorem giveAll_at {m : Nat} {lits : Int} : ∀ {A : List (List Int)} {i : Nat} {F : List (List Int)}, okAb lits i A → (giveAll i F A)[m]? = (F[m]?).map (· ++ gath m i A)
  | [], i, F, _ => by unfold giveAll gath; cases F[m]? <;> simp
  | l :: A, i, F, h => by
    obtain ⟨_, h2, h3⟩ := h
    unfold giveAll gath
    rw [giveAll_at h3, giveM_at (Int.le_refl _) h2]
    cases F[m]? <;> simp
theorem gath_mem {m : Nat} {z : Int} : ∀ {A : List (List Int)} {i : Nat}, z ∈ gath m i A ↔ ∃ j l, A[j]? = some l ∧ ((m = i + j ∧ z ∈ l) ∨ (m ≠ i + j ∧ z = (i + j : Nat) ∧ (m : Int) ∈ l))
  | [], i => by simp [gath]
  | l :: A, i => by
    unfold gath
    rw [List.mem_append, gath_mem]
    constructor
    · rintro (h | ⟨j, l', h1, h2⟩)
      · refine ⟨0, l, rfl, ?_⟩
        by_cases e : m = i
        · rw [if_pos e] at h; exact .inl ⟨by omega, h⟩
        · rw [if_neg e] at h
          by_cases e2 : (m : Int) ∈ l
          · rw [if_pos e2] at h; simp at h; exact .inr ⟨by omega, by simpa using h, e2⟩
          · rw [if_neg e2] at h; cases h
      · refine ⟨j + 1, l', by simpa using h1, ?_⟩
        rw [show i + (j + 1) = i + 1 + j by omega]
        exact h2
    · rintro ⟨j, l', h1, h2⟩
      cases j with
      | zero =>
        simp at h1
        subst h1
        refine .inl ?_
        rcases h2 with ⟨e, h⟩ | ⟨e, h3, h4⟩
        · rw [if_pos (by omega)]; exact h
        · rw [if_neg (by omega), if_pos h4]; simpa using h3
      | succ j =>
        refine .inr ⟨j, l', by simpa using h1, ?_⟩
        rw [show i + 1 + j = i + (j + 1) by omega]
        exact h2
theorem okAb_at {lits : Int} : ∀ {A : List (List Int)} {i j : Nat} {l : List Int}, okAb lits i A → A[j]? = some l → l.length ≤ 64 ∧ risesF lits (i + j : Nat) l = true
  | [], i, j, l, _, h => by simp at h
  | x :: A, i, j, l, h, hj => by
    cases j with
    | zero => simp at hj; subst hj; exact ⟨h.1, h.2.1⟩
    | succ j => have := okAb_at h.2.2 (j := j) (by simpa using hj); rwa [show i + 1 + j = i + (j + 1) by omega] at this
/-- What is gathered: those below, then its own. -/
theorem gath_split {m : Nat} {lits : Int} : ∀ {A : List (List Int)} {i : Nat}, okAb lits i A → i ≤ m → m < i + A.length → ∃ xs l, A[m - i]? = some l ∧ gath m i A = xs ++ l ∧ (∀ z ∈ xs, (i : Int) ≤ z ∧ z < m) ∧ xs.Pairwise (· < ·)
  | [], i, _, h1, h2 => by simp at h2; omega
  | x :: A, i, h, h1, h2 => by
    unfold gath
    by_cases e : m = i
    · subst e
      rw [if_pos rfl]
      have hg : gath m (m + 1) A = [] := by
        apply List.eq_nil_iff_forall_not_mem.2
        intro z hz
        obtain ⟨j, l, hj, h3 | ⟨_, _, h3⟩⟩ := gath_mem.1 hz
        · omega
        · have := (rises_iff.1 (okAb_at h.2.2 hj).2).1 _ h3
          omega
      refine ⟨[], x, by simp, by rw [hg]; simp, by simp, List.Pairwise.nil⟩
    · rw [if_neg e]
      obtain ⟨xs, l, h3, h4, h5, h6⟩ := gath_split (m := m) (i := i + 1) h.2.2 (by omega) (by simp at h2; omega)
      have e2 : m - i = (m - (i + 1)) + 1 := by omega
      refine ⟨(if (m : Int) ∈ x then [(i : Int)] else []) ++ xs, l, by rw [e2]; simpa using h3, by rw [h4]; simp, ?_, ?_⟩
      · intro z hz
        rcases List.mem_append.1 hz with hz | hz
        · split at hz
          · simp at hz; omega
          · cases hz
        · have := h5 z hz; omega
      · rw [List.pairwise_append]
        refine ⟨by split <;> simp, h6, fun a ha b hb => ?_⟩
        have := h5 b hb
        split at ha
        · simp at ha; omega
        · cases ha
theorem drop_all {p : Int → Bool} : ∀ {xs l : List Int}, (∀ z ∈ xs, p z = true) → (xs ++ l).dropWhile p = l.dropWhile p
  | [], l, _ => rfl
  | x :: xs, l, h => by
    rw [List.cons_append, List.dropWhile_cons, if_pos (h x (by simp))]
    exact drop_all fun z hz => h z (by simp [hz])
theorem foesB_flat : ∀ {F : List (List Int)} {i : Nat} {A : List (List Int)}, A.length = F.length → (∀ j l a, F[j]? = some l → A[j]? = some a → aboveM (i + j : Nat) l = a) → foesB i F = A.flatMap listB
  | [], i, A, h, _ => by
    have := List.eq_nil_of_length_eq_zero h
    subst this
    rfl
  | l :: F, i, A, h, hA => by
    cases A with
    | nil => cases h
    | cons a A =>
      unfold foesB
      rw [List.flatMap_cons]
      have h0 := hA 0 l a rfl rfl
      rw [show ((i + 0 : Nat) : Int) = i by simp] at h0
      rw [h0, foesB_flat (by simpa using h) fun j l' a' h1 h2 => by
        have := hA (j + 1) l' a' (by simpa using h1) (by simpa using h2)
        rwa [show i + (j + 1) = i + 1 + j by omega] at this]
theorem above_rises {l : List Int} {b a i : Int} (h : risesF b a l = true) : (∀ z ∈ aboveM i l, i < z ∧ z < b) ∧ (aboveM i l).Pairwise (· < ·) ∧ (∀ z, z ∈ aboveM i l ↔ z ∈ l ∧ i < z) := by
  unfold aboveM
  induction l generalizing a with
  | nil => simp
  | cons x r ih =>
    obtain ⟨h1, h2⟩ := rises_iff.1 h
    rw [List.pairwise_cons] at h2
    rw [List.dropWhile_cons]
    by_cases hx : x ≤ i
    · rw [if_pos (by simpa using hx)]
      obtain ⟨a1, a2, a3⟩ := ih (a := a) (rises_iff.2 ⟨fun z hz => h1 z (by simp [hz]), h2.2⟩)
      refine ⟨a1, a2, fun z => ?_⟩
      rw [a3]
      simp only [List.mem_cons]
      constructor
      · rintro ⟨h3, h4⟩; exact ⟨.inr h3, h4⟩
      · rintro ⟨h3 | h3, h4⟩
        · omega
        · exact ⟨h3, h4⟩
    · rw [if_neg (by simpa using hx)]
      refine ⟨fun z hz => ?_, List.pairwise_cons.2 h2, fun z => ⟨fun hz => ⟨hz, ?_⟩, fun hz => hz.1⟩⟩
      · have := (h1 z hz).2
        rcases List.mem_cons.1 hz with rfl | hz
        · omega
        · have := h2.1 z hz; omega
      · rcases List.mem_cons.1 hz with rfl | hz
        · omega
        · have := h2.1 z hz; omega
def abs (F : List (List Int)) : Nat → List (List Int)
  | 0 => []
  | k + 1 => abs F k ++ [aboveM k (F.getD k [])]
theorem abs_len {F : List (List Int)} : ∀ {k : Nat}, (abs F k).length = k
  | 0 => rfl
  | k + 1 => by unfold abs; simp [abs_len]
theorem abs_at {F : List (List Int)} : ∀ {k j : Nat}, j < k → (abs F k)[j]? = some (aboveM j (F.getD j []))
  | 0, j, h => by omega
  | k + 1, j, h => by
    unfold abs
    by_cases e : j = k
    · subst e
      rw [List.getElem?_append_right (by rw [abs_len]; exact Nat.le_refl _), abs_len, Nat.sub_self]
      rfl
    · rw [List.getElem?_append_left (by rw [abs_len]; omega)]
      exact abs_at (by omega)
theorem okAb_of {lits : Int} : ∀ {A : List (List Int)} {i : Nat}, (∀ j l, A[j]? = some l → l.length ≤ 64 ∧ risesF lits (i + j : Nat) l = true) → okAb lits i A
  | [], i, _ => trivial
  | x :: A, i, h => ⟨(h 0 x rfl).1, (h 0 x rfl).2, okAb_of fun j l hl => by have := h (j + 1) l (by simpa using hl); rwa [show i + (j + 1) = i + 1 + j by omega] at this⟩
theorem row_at {F : List (List Int)} {z : Int} {l : List Int} (h : F[z.toNat]? = some l) : row F z = l := by unfold row; rw [List.getD_eq_getElem?_getD, h]; rfl
theorem above_len {i : Int} {l : List Int} : (aboveM i l).length ≤ l.length := (List.dropWhile_sublist _).length_le
/-- What is laid is read so. -/
theorem back_laid {T : Th} (h : (checkM T).1 = 0) : ∃ A, encM T = markB ++ numB T.lits ++ A.flatMap listB ++ numB T.rules.length ++ T.rules.flatMap ruleB ++ T.beats.flatMap listB ∧
    (A.length : Int) = T.lits ∧ okAb T.lits 0 A ∧ T.foes = giveAll 0 (List.replicate T.lits.toNat []) A := by
  have hT := check_ok h
  have hn : T.foes.length = T.lits.toNat := by have := hT.fl; omega
  have hget : ∀ j, j < T.foes.length → T.foes[j]? = some (T.foes.getD j []) := fun j hj => by rw [List.getD_eq_getElem?_getD, List.getElem?_eq_getElem hj]; rfl
  have hAt : ∀ j l, (abs T.foes T.foes.length)[j]? = some l → j < T.foes.length ∧ l = aboveM j (T.foes.getD j []) := fun j l hl => by
    have hj : j < T.foes.length := by have := (List.getElem?_eq_some_iff.1 hl).1; rwa [abs_len] at this
    rw [abs_at hj] at hl
    cases hl
    exact ⟨hj, rfl⟩
  have hok : okAb T.lits 0 (abs T.foes T.foes.length) := okAb_of fun j l hl => by
    obtain ⟨hj, rfl⟩ := hAt j l hl
    obtain ⟨f1, f2, f3, f4⟩ := hT.foe j _ (hget j hj)
    obtain ⟨a1, a2, _⟩ := above_rises (i := j) f2
    refine ⟨Nat.le_trans above_len f1, rises_iff.2 ⟨?_, a2⟩⟩
    rw [Nat.zero_add]
    exact a1
  refine ⟨abs T.foes T.foes.length, ?_, by rw [abs_len]; exact hT.fl, hok, ?_⟩
  · have e : foesB 0 T.foes = (abs T.foes T.foes.length).flatMap listB := foesB_flat abs_len fun j l a hl ha => by
      obtain ⟨hj, rfl⟩ := hAt j a ha
      rw [hget j hj] at hl
      cases hl
      rw [Nat.zero_add]
    unfold encM
    rw [e]
  · apply List.ext_getElem?
    intro m
    rw [giveAll_at hok, List.getElem?_replicate]
    by_cases hm : m < T.foes.length
    · rw [if_pos (by omega), hget m hm]
      simp only [Option.map_some, List.nil_append, Option.some.injEq]
      obtain ⟨f1, f2, f3, f4⟩ := hT.foe m _ (hget m hm)
      obtain ⟨r1, r2⟩ := rises_iff.1 f2
      obtain ⟨xs, l, g1, g2, g3, g4⟩ := gath_split (m := m) hok (by omega) (by rw [abs_len]; omega)
      rw [Nat.sub_zero] at g1
      obtain ⟨_, rfl⟩ := hAt m l g1
      obtain ⟨a1, a2, a3⟩ := above_rises (i := m) f2
      refine pw_ext r2 ?_ fun z => ?_
      · rw [g2, List.pairwise_append]
        exact ⟨g4, a2, fun a ha b hb => by have := g3 a ha; have := a1 b hb; omega⟩
      · rw [gath_mem]
        constructor
        · intro hz'
          have hb := r1 z hz'
          by_cases hzm : (m : Int) < z
          · exact ⟨m, _, abs_at hm, .inl ⟨by omega, (a3 z).2 ⟨hz', hzm⟩⟩⟩
          · have hne : z ≠ (m : Int) := fun e => f3 (e ▸ hz')
            have hzn : z.toNat < T.foes.length := by have := hT.fl; omega
            have h4 := f4 z hz'
            rw [row_at (hget _ hzn)] at h4
            obtain ⟨_, q2, _, _⟩ := hT.foe z.toNat _ (hget _ hzn)
            refine ⟨z.toNat, _, abs_at hzn, .inr ⟨by omega, by omega, ((above_rises (i := z.toNat) q2).2.2 m).2 ⟨h4, by omega⟩⟩⟩
        · rintro ⟨j, l, h1, h2⟩
          obtain ⟨hj, rfl⟩ := hAt j l h1
          rcases h2 with ⟨e, h2⟩ | ⟨e, h2, h3⟩
          · have e : m = j := by omega
            subst e
            exact ((a3 z).1 h2).1
          · obtain ⟨_, q2, _, q4⟩ := hT.foe j _ (hget j hj)
            have h5 := ((above_rises (i := j) q2).2.2 m).1 h3
            have h6 := q4 _ h5.1
            have e2 : z = (j : Int) := by omega
            rw [row_at (z := (m : Int)) (hget m hm)] at h6
            rw [e2]
            exact h6
    · rw [if_neg (by omega), List.getElem?_eq_none (by omega)]
      rfl
theorem numB_byte {n : Int} (h0 : 0 ≤ n) (h1 : n < 18446744073709551616) : ∀ z ∈ numB n, 0 ≤ z ∧ z ≤ 255 := uintB_byte 9 n h0 (by have : (18446744073709551616 : Int) ≤ 128 ^ 10 := by decide
                                                                                                                                  omega)
theorem listB_byte {l : List Int} {b a : Int} (h : risesF b a l = true) (ha : -1 ≤ a) (hb : b ≤ 4096) : ∀ z ∈ listB l, 0 ≤ z ∧ z ≤ 255 := by
  have h1 := rises_len h
  have h2 := (rises_iff.1 h).1
  intro z hz
  unfold listB numsB at hz
  rcases List.mem_append.1 hz with hz | hz
  · exact numB_byte (by omega) (by omega) z hz
  · obtain ⟨n, hn, hz⟩ := List.mem_flatMap.1 hz
    have := h2 n hn
    exact numB_byte (by omega) (by omega) z hz
theorem enc_byte {T : Th} (h : (checkM T).1 = 0) : ∀ z ∈ encM T, 0 ≤ z ∧ z ≤ 255 := by
  have hT := check_ok h
  obtain ⟨A, e, hA1, hA, _⟩ := back_laid h
  rw [e]
  have := hT.l0
  have := hT.l1
  have := hT.rl
  intro z hz
  simp only [List.mem_append, or_assoc] at hz
  rcases hz with hz | hz | hz | hz | hz | hz
  · unfold markB at hz; simp at hz; omega
  · exact numB_byte (by omega) (by omega) z hz
  · obtain ⟨l, hl, hz⟩ := List.mem_flatMap.1 hz
    obtain ⟨i, hi, rfl⟩ := List.mem_iff_getElem.1 hl
    exact listB_byte (okAb_at hA (List.getElem?_eq_getElem hi)).2 (by omega) (by omega) z hz
  · exact numB_byte (by omega) (by omega) z hz
  · obtain ⟨r, hr, hz⟩ := List.mem_flatMap.1 hz
    obtain ⟨k1, k2, k3, k4, k5, k6⟩ := hT.rule r hr
    unfold ruleB at hz
    simp only [List.mem_append, or_assoc] at hz
    rcases hz with hz | hz | hz
    · exact numB_byte (by omega) (by omega) z hz
    · exact numB_byte (by omega) (by omega) z hz
    · exact listB_byte k6 (by omega) (by omega) z hz
  · obtain ⟨l, hl, hz⟩ := List.mem_flatMap.1 hz
    obtain ⟨i, hi, rfl⟩ := List.mem_iff_getElem.1 hl
    exact listB_byte (hT.beat i _ (List.getElem?_eq_getElem hi)).1 (by omega) (by omega) z hz
/-! Faults. -/
def Fine {α : Type} (zs : List Int) : Er (α × Nat) → Prop
  | .ok x => x.2 ≤ zs.length
  | .error (e, p) => e ≠ 0 ∧ 0 ≤ p ∧ p ≤ zs.length
theorem rd_fine : ∀ (l : List Int) (len p : Int) (k : Nat) (acc : Int), 0 ≤ p → p + k + l.length ≤ len → 0 ≤ (rd len p k acc l).2.1 ∧ (rd len p k acc l).2.1 ≤ len
  | [], len, p, k, acc, h0, h => by simp [rd]; simp at h; omega
  | c :: r, len, p, k, acc, h0, h => by
    simp only [List.length_cons] at h
    unfold rd
    split
    · simp; omega
    · split
      · exact rd_fine r len p (k + 1) _ h0 (by omega)
      · split
        · simp; omega
        · simp; omega
section
variable {zs : List Int}
end
end Go.Proofs.Ytdmnoeooljofcaa
