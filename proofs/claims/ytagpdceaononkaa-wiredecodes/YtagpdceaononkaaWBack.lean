/- Bytes of steps, there and back: plain mathematics. -/
import Derived.Test.YtagpdceaononkaaWMod
namespace Go.Proofs.Ytagpdceaononkaa

/-! Bytes that stand there. -/
def Lay (zs : List Int) (p : Nat) (l : List Int) (q : Nat) : Prop := q = p + l.length ∧ q ≤ zs.length ∧ (zs.drop p).take l.length = l
theorem Lay.nil {zs : List Int} {p q : Nat} : Lay zs p [] q ↔ q = p ∧ p ≤ zs.length := by unfold Lay; simp; omega
theorem Lay.app {zs : List Int} {p q : Nat} {l m : List Int} : Lay zs p (l ++ m) q ↔ ∃ k, Lay zs p l k ∧ Lay zs k m q := by
  unfold Lay
  constructor
  · rintro ⟨rfl, h2, h3⟩
    simp only [List.length_append] at h2 h3
    have e : (zs.drop p).take l.length = l := by
      have := congrArg (List.take l.length) h3
      rw [List.take_take, Nat.min_eq_left (by omega), List.take_left] at this
      exact this
    refine ⟨p + l.length, ⟨rfl, by omega, e⟩, by simp; omega, by simp; omega, ?_⟩
    have := congrArg (List.drop l.length) h3
    rw [List.drop_take, List.drop_left, List.drop_drop] at this
    rw [← this]
    simp
  · rintro ⟨k, ⟨rfl, h2, h3⟩, rfl, h5, h6⟩
    refine ⟨by simp; omega, by omega, ?_⟩
    rw [List.length_append, List.take_add, h3, List.drop_drop, h6]
theorem Lay.whole {zs l : List Int} : Lay zs 0 l zs.length ↔ zs = l := by
  unfold Lay
  constructor
  · rintro ⟨h1, _, h3⟩
    rw [Nat.zero_add] at h1
    rw [← h1, List.drop_zero, List.take_length] at h3
    exact h3
  · rintro rfl
    simp

theorem rd_to : ∀ (l : List Int) (len p : Int) (k : Nat) (acc n to : Int), rd len p k acc l = (n, to, 0) → to ≤ p + k + l.length
  | [], len, p, k, acc, n, to, h => by simp [rd] at h
  | c :: r, len, p, k, acc, n, to, h => by
    unfold rd at h
    split at h
    · simp at h
    · split at h
      · have := rd_to r len p (k + 1) _ n to h
        simp only [List.length_cons]
        omega
      · split at h
        · simp at h
        · simp at h
          simp only [List.length_cons]
          omega
theorem uintB_ne (f : Nat) (n : Int) : 0 < (uintB f n).length := Nat.pos_of_ne_zero (uintB_pos f n)
theorem bind_iff {α β : Type} {o : Er α} {f : α → Er β} {b : β} : (o >>= f) = .ok b ↔ ∃ a, o = .ok a ∧ f a = .ok b := by
  cases o with
  | error e => exact ⟨fun h => (by cases h), fun ⟨a, h, _⟩ => (by cases h)⟩
  | ok a => exact ⟨fun h => ⟨a, rfl, h⟩, fun ⟨a', h, h2⟩ => (by cases h; exact h2)⟩
section
variable {zs : List Int} (hz : ∀ z ∈ zs, 0 ≤ z ∧ z ≤ 255)
include hz
theorem read_iff {p q : Nat} {n : Int} : readU zs p = (n, (q : Int), 0) ↔ Lay zs p (numB n) q ∧ 0 ≤ n ∧ n < 18446744073709551616 := by
  constructor
  · intro h
    unfold readU at h
    split at h
    · simp at h
    rename_i hp
    have hp' : p ≤ zs.length := by omega
    rw [show (p : Int).toNat = p by omega] at h
    have hto := rd_to _ _ _ _ _ _ _ h
    rw [List.length_drop] at hto
    obtain ⟨m, j, hm, _, hn, ht, hu⟩ := rd_laid _ _ _ 0 0 n q h (by omega) (fun z hz' => hz z (List.mem_of_mem_drop hz'))
    have e1 : n = m := by rw [hn]; simp
    subst e1
    have ej : q = p + j := by omega
    subst ej
    have hj : (uintB 9 n).length = j := by rw [show 9 - 0 = 9 from rfl] at hu; rw [hu, List.length_take, List.length_drop]; omega
    refine ⟨⟨by unfold numB; rw [hj], by omega, by unfold numB; rw [hj]; exact hu.symm⟩, hm, ?_⟩
    have hb : (rd zs.length p 0 0 (zs.drop p)).1 < 18446744073709551616 := by
      have key : ∀ (l : List Int) (len p : Int) (k : Nat) (acc : Int), (∀ z ∈ l, 0 ≤ z ∧ z ≤ 255) → k ≤ 9 → 0 ≤ acc → acc < 2 ^ (7 * k) → (rd len p k acc l).1 < 18446744073709551616 := by
        intro l
        induction l with
        | nil => intro len p k acc _ _ _ _; simp [rd]
        | cons c r ih =>
          intro len p k acc hB hk h0 h1
          have hc0 := (hB c (by simp)).1
          unfold rd
          have hp64 : ∀ k : Nat, k ≤ 9 → (2 : Int) ^ (7 * k) ≤ 2 ^ 63 := fun k hk => by
            have h := Nat.pow_le_pow_right (n := 2) (by decide) (show 7 * k ≤ 63 by omega)
            have e : (2 : Int) ^ (7 * k) = ((2 ^ (7 * k) : Nat) : Int) := by simp
            have e2 : (2 : Int) ^ 63 = ((2 ^ 63 : Nat) : Int) := by decide
            rw [e, e2]
            omega
          split
          · simp
          · rename_i hbad
            split
            · refine ih _ _ _ _ (fun z hz => hB z (by simp [hz])) (by omega) (acc_pos _ _ _ h0 (by omega)) (acc_next _ _ _ h1 (by omega))
            · split
              · simp
              · rename_i h128 _
                by_cases h9 : k = 9
                · subst h9
                  simp only
                  have hc1 : c ≤ 1 := by omega
                  have e : (2 : Int) ^ (7 * 9) = 9223372036854775808 := by decide
                  rw [e] at h1 ⊢
                  have : c % 128 ≤ 1 ∨ c < 0 := by omega
                  omega
                · have h2 := acc_next acc (c % 128) k h1 (by omega)
                  have h3 := hp64 (k + 1) (by omega)
                  have e : (2 : Int) ^ 63 = 9223372036854775808 := by decide
                  rw [e] at h3
                  simp only
                  omega
      exact key _ _ _ 0 0 (fun z hz' => hz z (List.mem_of_mem_drop hz')) (by omega) (by omega) (by decide)
    rw [h] at hb
    exact hb
  · rintro ⟨⟨h1, h2, h3⟩, h4, h5⟩
    have e : zs = zs.take p ++ (numB n ++ zs.drop q) := by
      have : zs.drop p = numB n ++ zs.drop q := by
        conv => lhs; rw [← List.take_append_drop (numB n).length (zs.drop p)]
        rw [h3, List.drop_drop, ← h1]
      rw [← this, List.take_append_drop]
    have hl : (zs.take p).length = p := by rw [List.length_take]; omega
    have := readU_uint (zs.take p) (zs.drop q) n h4 h5
    rw [hl] at this
    unfold numB at e
    rw [← e] at this
    rw [this]
    have e2 : (q : Int) = (p : Int) + (uintB 9 n).length := by have := h1; unfold numB at this; omega
    rw [e2]
omit hz in
theorem oct_iff {a b c : Int} {p q : Nat} : octM zs a b p = .ok (c, q) ↔ Lay zs p [c] q ∧ a ≤ c ∧ c ≤ b := by
  unfold octM
  by_cases hp : zs.length ≤ p
  · rw [if_pos hp]
    constructor
    · intro h; cases h
    · rintro ⟨⟨h1, h2, _⟩, _⟩; simp at h1; omega
  · rw [if_neg hp]
    have hd : (zs.drop p).take 1 = [zs.getD p 0] := by rw [drop_cons zs p (by omega)]; simp
    by_cases hw : wiM (zs.getD p 0) a b = true
    · rw [if_pos hw]
      have := wi_iff.1 hw
      constructor
      · intro h
        cases h
        exact ⟨⟨rfl, by omega, hd⟩, this⟩
      · rintro ⟨⟨h1, h2, h3⟩, h4⟩
        rw [List.length_singleton, hd] at h3
        cases h3
        rw [h1]; rfl
    · rw [if_neg hw]
      constructor
      · intro h; cases h
      · rintro ⟨⟨h1, h2, h3⟩, h4⟩
        rw [List.length_singleton, hd] at h3
        cases h3
        exact absurd (wi_iff.2 h4) hw
theorem num_iff {p q : Nat} {n most : Int} (hb : most < 18446744073709551616) : numM zs most p = .ok (n, q) ↔ Lay zs p (numB n) q ∧ 0 ≤ n ∧ n ≤ most := by
  obtain ⟨m, t, e, hr⟩ : ∃ m t e, readU zs p = (m, t, e) := ⟨_, _, _, rfl⟩
  unfold numM
  rw [hr]
  simp only
  constructor
  · intro h
    by_cases he : e ≠ 0
    · rw [if_pos he] at h; cases h
    rw [if_neg he] at h
    by_cases h2 : most < m
    · rw [if_pos h2] at h; cases h
    rw [if_neg h2] at h
    have he0 : e = 0 := Decidable.byContradiction he
    subst he0
    simp only [Except.ok.injEq, Prod.mk.injEq] at h
    obtain ⟨rfl, rfl⟩ := h
    have ht : 0 ≤ t := by
      unfold readU at hr
      split at hr
      · simp at hr
      · obtain ⟨_, j, _, _, _, ht, _⟩ := rd_laid _ _ _ 0 0 m t hr (by omega) (fun z hz' => hz z (List.mem_of_mem_drop hz'))
        omega
    have := (read_iff hz (p := p) (q := t.toNat) (n := m)).1 (by rw [hr]; congr 2; omega)
    exact ⟨this.1, by omega, by omega⟩
  · rintro ⟨h1, h2, h3⟩
    have := (read_iff hz).2 ⟨h1, by omega, by omega⟩
    rw [hr] at this
    simp only [Prod.mk.injEq] at this
    obtain ⟨rfl, rfl, rfl⟩ := this
    rw [if_neg (by simp), if_neg (by omega)]
    simp
theorem rai_iff {p q : Nat} {n most : Int} (hb : most < 18446744073709551615) : raiM zs most p = .ok (n, q) ↔ Lay zs p (numB (n + 1)) q ∧ -1 ≤ n ∧ n ≤ most := by
  unfold raiM
  rw [bind_iff]
  constructor
  · rintro ⟨⟨m, k⟩, h1, h2⟩
    obtain ⟨h3, h4, h5⟩ := (num_iff hz (by omega)).1 h1
    cases h2
    exact ⟨by rw [show m - 1 + 1 = m by omega]; exact h3, by omega, by omega⟩
  · rintro ⟨h1, h2, h3⟩
    exact ⟨(n + 1, q), (num_iff hz (by omega)).2 ⟨h1, by omega, by omega⟩, by simp⟩
theorem chs_iff : ∀ {k : Nat} {acc res : List (Int × Int)} {p q : Nat}, p ≤ zs.length →
    (chsM zs k acc p = .ok (res, q) ↔ ∃ l, res = acc ++ l ∧ l.length = k ∧ Lay zs p (l.flatMap choB) q ∧ ∀ x ∈ l, (-1 ≤ x.1 ∧ x.1 ≤ 15) ∧ -1 ≤ x.2 ∧ x.2 ≤ 4095)
  | 0, acc, res, p, q, hp => by
    unfold chsM
    constructor
    · intro h
      cases h
      exact ⟨[], by simp, rfl, Lay.nil.2 ⟨rfl, hp⟩, by simp⟩
    · rintro ⟨l, rfl, hl, h1, _⟩
      have := List.eq_nil_of_length_eq_zero hl
      subst this
      obtain ⟨rfl, _⟩ := Lay.nil.1 h1
      simp
  | k + 1, acc, res, p, q, hp => by
    unfold chsM
    rw [bind_iff]
    constructor
    · rintro ⟨⟨m, p1⟩, h1, h2⟩
      obtain ⟨⟨n, p2⟩, h3, h4⟩ := bind_iff.1 h2
      obtain ⟨a1, a2, a3⟩ := (rai_iff hz (by omega)).1 h1
      obtain ⟨b1, b2, b3⟩ := (rai_iff hz (by omega)).1 h3
      obtain ⟨l, rfl, c1, c2, c3⟩ := (chs_iff b1.2.1).1 h4
      refine ⟨(m, n) :: l, by simp, by simp [c1], ?_, fun x hx => ?_⟩
      · rw [List.flatMap_cons]
        exact Lay.app.2 ⟨p2, Lay.app.2 ⟨p1, a1, b1⟩, c2⟩
      · rcases List.mem_cons.1 hx with rfl | hx
        · exact ⟨⟨a2, a3⟩, b2, b3⟩
        · exact c3 x hx
    · rintro ⟨l, rfl, h1, h2, h3⟩
      cases l with
      | nil => cases h1
      | cons x l =>
        rw [List.flatMap_cons] at h2
        obtain ⟨p2, h4, h5⟩ := Lay.app.1 h2
        obtain ⟨p1, h6, h7⟩ := Lay.app.1 h4
        have hx := h3 x (by simp)
        refine ⟨(x.1, p1), (rai_iff hz (by omega)).2 ⟨h6, hx.1⟩, ?_⟩
        rw [bind_iff]
        exact ⟨(x.2, p2), (rai_iff hz (by omega)).2 ⟨h7, hx.2⟩, (chs_iff h4.2.1).2 ⟨l, by simp, by simpa using h1, h5, fun y hy => h3 y (by simp [hy])⟩⟩
theorem stp_iff {s : StM} {p q : Nat} : stpM zs p = .ok (s, q) ↔ Lay zs p (stB s) q ∧ May s := by
  unfold stpM
  rw [bind_iff]
  constructor
  · rintro ⟨⟨t, p1⟩, h1, h⟩
    obtain ⟨⟨l, p2⟩, h2, h⟩ := bind_iff.1 h
    obtain ⟨⟨w, p3⟩, h3, h⟩ := bind_iff.1 h
    obtain ⟨⟨r, p4⟩, h4, h⟩ := bind_iff.1 h
    obtain ⟨⟨n, p5⟩, h5, h⟩ := bind_iff.1 h
    obtain ⟨⟨c, p6⟩, h6, h⟩ := bind_iff.1 h
    obtain ⟨a1, b1, c1⟩ := oct_iff.1 h1
    obtain ⟨a2, b2, c2⟩ := (num_iff hz (by omega)).1 h2
    obtain ⟨a3, b3, c3⟩ := oct_iff.1 h3
    obtain ⟨a4, b4, c4⟩ := (rai_iff hz (by omega)).1 h4
    obtain ⟨a5, b5, c5⟩ := (num_iff hz (by omega)).1 h5
    obtain ⟨l', e, a6, b6, c6⟩ := (chs_iff hz a5.2.1).1 h6
    simp only [List.nil_append] at e
    subst e
    simp only [Except.ok.injEq, Prod.mk.injEq] at h
    obtain ⟨rfl, rfl⟩ := h
    have en : n = (c.length : Int) := by simp only at a6; omega
    subst en
    exact ⟨Lay.app.2 ⟨p5, Lay.app.2 ⟨p4, Lay.app.2 ⟨p3, Lay.app.2 ⟨p2, Lay.app.2 ⟨p1, a1, a2⟩, a3⟩, a4⟩, a5⟩, b6⟩, ⟨b1, c1, b3, c3, b2, c2, b4, c4, by simp only; omega, c6⟩⟩
  · rintro ⟨h, m⟩
    obtain ⟨t, l, w, r, c⟩ := s
    obtain ⟨p5, h, a6⟩ := Lay.app.1 h
    obtain ⟨p4, h, a5⟩ := Lay.app.1 h
    obtain ⟨p3, h, a4⟩ := Lay.app.1 h
    obtain ⟨p2, h, a3⟩ := Lay.app.1 h
    obtain ⟨p1, a1, a2⟩ := Lay.app.1 h
    refine ⟨(t, p1), oct_iff.2 ⟨a1, m.t0, m.t1⟩, bind_iff.2 ⟨(l, p2), (num_iff hz (by omega)).2 ⟨a2, m.l0, m.l1⟩, bind_iff.2 ⟨(w, p3), oct_iff.2 ⟨a3, m.h0, m.h1⟩, bind_iff.2 ⟨(r, p4), (rai_iff hz (by omega)).2 ⟨a4, m.r0, m.r1⟩,
      bind_iff.2 ⟨(c.length, p5), (num_iff hz (by omega)).2 ⟨a5, by omega, by have := m.cl; simp only at this; omega⟩, bind_iff.2 ⟨(c, q), (chs_iff hz a5.2.1).2 ⟨c, by simp, by simp, a6, m.ch⟩, rfl⟩⟩⟩⟩⟩⟩
theorem lst_iff : ∀ {k : Nat} {acc res : List StM} {p q : Nat}, p ≤ zs.length →
    (lstM zs k acc p = .ok (res, q) ↔ ∃ l, res = acc ++ l ∧ l.length = k ∧ Lay zs p (l.flatMap stB) q ∧ ∀ s ∈ l, May s)
  | 0, acc, res, p, q, hp => by
    unfold lstM
    constructor
    · intro h
      cases h
      exact ⟨[], by simp, rfl, Lay.nil.2 ⟨rfl, hp⟩, by simp⟩
    · rintro ⟨l, rfl, hl, h1, _⟩
      have := List.eq_nil_of_length_eq_zero hl
      subst this
      obtain ⟨rfl, _⟩ := Lay.nil.1 h1
      simp
  | k + 1, acc, res, p, q, hp => by
    unfold lstM
    rw [bind_iff]
    constructor
    · rintro ⟨⟨s, p1⟩, h1, h2⟩
      obtain ⟨a1, a2⟩ := (stp_iff hz).1 h1
      obtain ⟨l, rfl, c1, c2, c3⟩ := (lst_iff a1.2.1).1 h2
      refine ⟨s :: l, by simp, by simp [c1], ?_, fun x hx => ?_⟩
      · rw [List.flatMap_cons]
        exact Lay.app.2 ⟨p1, a1, c2⟩
      · rcases List.mem_cons.1 hx with rfl | hx
        · exact a2
        · exact c3 x hx
    · rintro ⟨l, rfl, h1, h2, h3⟩
      cases l with
      | nil => cases h1
      | cons x l =>
        rw [List.flatMap_cons] at h2
        obtain ⟨p1, h4, h5⟩ := Lay.app.1 h2
        exact ⟨(x, p1), (stp_iff hz).2 ⟨h4, h3 x (by simp)⟩, (lst_iff h4.2.1).2 ⟨l, by simp, by simpa using h1, h5, fun y hy => h3 y (by simp [hy])⟩⟩
theorem all_iff {l : List StM} {p q : Nat} : allM zs p = .ok (l, q) ↔ Lay zs p (numB l.length ++ l.flatMap stB) q ∧ Okl l := by
  unfold allM
  rw [bind_iff]
  constructor
  · rintro ⟨⟨n, p1⟩, h1, h2⟩
    obtain ⟨a1, a2, a3⟩ := (num_iff hz (by omega)).1 h1
    obtain ⟨l', e, c1, c2, c3⟩ := (lst_iff hz a1.2.1).1 h2
    simp only [List.nil_append] at e
    subst e
    have en : n = (l.length : Int) := by simp only at c1; omega
    subst en
    exact ⟨Lay.app.2 ⟨p1, a1, c2⟩, by omega, c3⟩
  · rintro ⟨h, o⟩
    obtain ⟨p1, h1, h2⟩ := Lay.app.1 h
    exact ⟨(l.length, p1), (num_iff hz (by omega)).2 ⟨h1, by omega, by have := o.len; omega⟩, (lst_iff hz h1.2.1).2 ⟨l, by simp, by simp, h2, o.may⟩⟩
omit hz in
theorem lay_at {l : List Int} {p q : Nat} {c : Int} (h : Lay zs p (c :: l) q) : Lay zs p [c] (p + 1) ∧ Lay zs (p + 1) l q := by
  obtain ⟨k, h1, h2⟩ := Lay.app.1 (show Lay zs p ([c] ++ l) q from h)
  have : k = p + 1 := h1.1
  subst this
  exact ⟨h1, h2⟩
omit hz in
theorem mark_iff : markM zs 4 0 = .ok () ↔ Lay zs 0 markB 4 := by
  unfold markM
  rw [bind_iff]
  constructor
  · rintro ⟨⟨c0, p0⟩, h0, h⟩
    unfold markM at h
    obtain ⟨⟨c1, p1⟩, h1, h⟩ := bind_iff.1 h
    unfold markM at h
    obtain ⟨⟨c2, p2⟩, h2, h⟩ := bind_iff.1 h
    unfold markM at h
    obtain ⟨⟨c3, p3⟩, h3, h⟩ := bind_iff.1 h
    obtain ⟨a0, b0, d0⟩ := oct_iff.1 h0
    obtain ⟨a1, b1, d1⟩ := oct_iff.1 h1
    obtain ⟨a2, b2, d2⟩ := oct_iff.1 h2
    obtain ⟨a3, b3, d3⟩ := oct_iff.1 h3
    have q0 := a0.1
    have q1 := a1.1
    have q2 := a2.1
    have q3 := a3.1
    simp only [List.length_singleton] at q0 q1 q2 q3
    subst q0 q1 q2 q3
    simp [markB] at b0 d0 b1 d1 b2 d2 b3 d3
    have e0 : c0 = 108 := by omega
    have e1 : c1 = 120 := by omega
    have e2 : c2 = 100 := by omega
    have e3 : c3 = 1 := by omega
    subst e0 e1 e2 e3
    exact (Lay.app (l := [108, 120, 100])).2 ⟨_, (Lay.app (l := [108, 120])).2 ⟨_, (Lay.app (l := [108])).2 ⟨_, a0, a1⟩, a2⟩, a3⟩
  · intro h
    obtain ⟨a0, h⟩ := lay_at h
    obtain ⟨a1, h⟩ := lay_at h
    obtain ⟨a2, h⟩ := lay_at h
    obtain ⟨a3, h⟩ := lay_at h
    refine ⟨(108, 0 + 1), oct_iff.2 ⟨a0, by simp [markB], by simp [markB]⟩, ?_⟩
    unfold markM
    refine bind_iff.2 ⟨(120, 0 + 1 + 1), oct_iff.2 ⟨a1, by simp [markB], by simp [markB]⟩, ?_⟩
    unfold markM
    refine bind_iff.2 ⟨(100, 0 + 1 + 1 + 1), oct_iff.2 ⟨a2, by simp [markB], by simp [markB]⟩, ?_⟩
    unfold markM
    exact bind_iff.2 ⟨(1, 0 + 1 + 1 + 1 + 1), oct_iff.2 ⟨a3, by simp [markB], by simp [markB]⟩, rfl⟩
omit hz in
theorem sum_iff {p q : Nat} : sumM zs p = .ok q ↔ Lay zs p (fourB (crc (zs.take p))) q := by
  unfold sumM
  constructor
  · intro h
    split at h
    · cases h
    · split at h
      · cases h
      · rename_i h1 h2
        cases h
        have h2 := Decidable.byContradiction h2
        exact ⟨rfl, by omega, h2⟩
  · rintro ⟨h1, h2, h3⟩
    have hl : (fourB (crc (zs.take p))).length = 4 := rfl
    rw [hl] at h1 h3
    rw [if_neg (by omega), if_neg (by simpa using h3), h1]
omit hz in
theorem lay_take {l : List Int} {p : Nat} (h : Lay zs 0 l p) : zs.take p = l := by
  obtain ⟨h1, _, h3⟩ := h
  rw [Nat.zero_add] at h1
  rw [h1]
  rwa [List.drop_zero] at h3
theorem whole_iff {l : List StM} : wholeM zs = .ok l ↔ Okl l ∧ zs = encB l := by
  unfold wholeM
  rw [bind_iff]
  constructor
  · rintro ⟨⟨⟩, h1, h⟩
    obtain ⟨⟨l', p⟩, h2, h⟩ := bind_iff.1 h
    obtain ⟨q, h3, h4⟩ := bind_iff.1 h
    have a1 := mark_iff.1 h1
    obtain ⟨a2, a3⟩ := (all_iff hz).1 h2
    have a4 := sum_iff.1 h3
    simp only at a4
    split at h4
    · cases h4
    simp only [Except.ok.injEq] at h4
    subst h4
    have hq : q = zs.length := by have := a4.2.1; omega
    subst hq
    have hb : Lay zs 0 (bodyB l') p := by
      unfold bodyB
      rw [List.append_assoc]
      exact Lay.app.2 ⟨4, a1, a2⟩
    have ht : zs.take p = bodyB l' := lay_take hb
    rw [ht] at a4
    exact ⟨a3, Lay.whole.1 (Lay.app.2 ⟨p, hb, a4⟩)⟩
  · rintro ⟨o, e⟩
    have hw := Lay.whole.2 e
    obtain ⟨p, hb, h4⟩ := Lay.app.1 hw
    have ht : zs.take p = bodyB l := lay_take hb
    unfold bodyB at hb
    rw [List.append_assoc] at hb
    obtain ⟨k, h1, h2⟩ := Lay.app.1 hb
    have hk : k = 4 := h1.1
    subst hk
    refine ⟨(), mark_iff.2 h1, bind_iff.2 ⟨(l, p), (all_iff hz).2 ⟨h2, o⟩, bind_iff.2 ⟨zs.length, sum_iff.2 (by rw [ht]; exact h4), ?_⟩⟩⟩
    rw [if_neg (by omega)]
end
theorem numB_byte {n : Int} (h0 : 0 ≤ n) (h1 : n < 18446744073709551616) : ∀ z ∈ numB n, 0 ≤ z ∧ z ≤ 255 := uintB_byte 9 n h0 (by have : (18446744073709551616 : Int) ≤ 128 ^ 10 := by decide
                                                                                                                                  omega)
theorem rd_fine : ∀ (l : List Int) (len p : Int) (k : Nat) (acc : Int), 0 ≤ p → p + k + l.length ≤ len → 0 ≤ (rd len p k acc l).2.1 ∧ (rd len p k acc l).2.1 ≤ len
  | [], len, p, k, acc, h0, h => by simp [rd]; simp at h; omega
  | c :: r, len, p, k, acc, h0, h => by
    simp only [List.length_cons] at h
    unfold rd
    split
    · simp; omega
    · split
      · exact rd_fine r len p (k + 1) _ h0 (by omega)
      · split
        · simp; omega
        · simp; omega
theorem four_byte {n : Int} : ∀ z ∈ fourB n, 0 ≤ z ∧ z ≤ 255 := by
  intro z hz
  simp [fourB] at hz
  omega
theorem st_byte {s : StM} (m : May s) : ∀ z ∈ stB s, 0 ≤ z ∧ z ≤ 255 := by
  intro z hz
  unfold stB at hz
  simp only [List.mem_append, or_assoc, List.mem_singleton, List.mem_flatMap] at hz
  have := m.t0; have := m.t1; have := m.h0; have := m.h1; have := m.l0; have := m.l1; have := m.r0; have := m.r1; have := m.cl
  rcases hz with hz | hz | hz | hz | hz | ⟨x, hx, hz⟩
  · omega
  · exact numB_byte (by omega) (by omega) z hz
  · omega
  · exact numB_byte (by omega) (by omega) z hz
  · exact numB_byte (by omega) (by omega) z hz
  · have := m.ch x hx
    unfold choB at hz
    rcases List.mem_append.1 hz with hz | hz
    · exact numB_byte (by omega) (by omega) z hz
    · exact numB_byte (by omega) (by omega) z hz
theorem body_byte {l : List StM} (o : Okl l) : ∀ z ∈ bodyB l, 0 ≤ z ∧ z ≤ 255 := by
  intro z hz
  unfold bodyB at hz
  simp only [List.mem_append, or_assoc, List.mem_flatMap] at hz
  have := o.len
  rcases hz with hz | hz | ⟨s, hs, hz⟩
  · simp [markB] at hz; omega
  · exact numB_byte (by omega) (by omega) z hz
  · exact st_byte (o.may s hs) z hz
theorem enc_byte {l : List StM} (o : Okl l) : ∀ z ∈ encB l, 0 ≤ z ∧ z ≤ 255 := by
  intro z hz
  rcases List.mem_append.1 hz with hz | hz
  · exact body_byte o z hz
  · exact four_byte z hz
theorem back_told {l : List StM} (o : Okl l) : wholeM (encB l) = .ok l := (whole_iff (enc_byte o)).2 ⟨o, rfl⟩

/-! Faults. -/
def Bad {α : Type} : Er α → Prop
  | .ok _ => True
  | .error c => c.1 ≠ 0
theorem Bad.bind {α β : Type} {o : Er α} {f : α → Er β} (h : Bad o) (hf : ∀ x, Bad (f x)) : Bad (o >>= f) := by
  cases o with
  | error e => exact h
  | ok x => exact hf x
theorem oct_bad {zs : List Int} {a b : Int} {p : Nat} : Bad (octM zs a b p) := by
  unfold octM
  split
  · show (8 : Int) ≠ 0; decide
  · split
    · trivial
    · show (211 : Int) ≠ 0; decide
theorem num_bad {zs : List Int} {m : Int} {p : Nat} : Bad (numM zs m p) := by
  unfold numM
  split
  · assumption
  · split
    · show (211 : Int) ≠ 0; decide
    · trivial
theorem rai_bad {zs : List Int} {m : Int} {p : Nat} : Bad (raiM zs m p) := num_bad.bind fun _ => trivial
theorem chs_bad {zs : List Int} : ∀ {k : Nat} {acc : List (Int × Int)} {p : Nat}, Bad (chsM zs k acc p)
  | 0, _, _ => trivial
  | _ + 1, _, _ => rai_bad.bind fun _ => rai_bad.bind fun _ => chs_bad
theorem stp_bad {zs : List Int} {p : Nat} : Bad (stpM zs p) := oct_bad.bind fun _ => num_bad.bind fun _ => oct_bad.bind fun _ => rai_bad.bind fun _ => num_bad.bind fun _ => chs_bad.bind fun _ => trivial
theorem lst_bad {zs : List Int} : ∀ {k : Nat} {acc : List StM} {p : Nat}, Bad (lstM zs k acc p)
  | 0, _, _ => trivial
  | _ + 1, _, _ => stp_bad.bind fun _ => lst_bad
theorem mark_bad {zs : List Int} : ∀ {k i : Nat}, Bad (markM zs k i)
  | 0, _ => trivial
  | _ + 1, _ => oct_bad.bind fun _ => mark_bad
theorem whole_bad {zs : List Int} : Bad (wholeM zs) := mark_bad.bind fun _ => (num_bad.bind fun _ => lst_bad).bind fun _ => Bad.bind (by
  unfold sumM
  split
  · show (8 : Int) ≠ 0; decide
  · split
    · show (13 : Int) ≠ 0; decide
    · trivial) fun q => by
  split
  · show (9 : Int) ≠ 0; decide
  · trivial
theorem whole_err {zs : List Int} {c p : Int} (h : wholeM zs = .error (c, p)) : c ≠ 0 := by
  have := whole_bad (zs := zs)
  rw [h] at this
  exact this

/-! How long. -/
theorem numB_len (z : Int) : (numB z).length ≤ 10 := uintB_len 9 z
theorem flatB_len {α : Type} {f : α → List Int} {m : Nat} : ∀ {l : List α}, (∀ x ∈ l, (f x).length ≤ m) → (l.flatMap f).length ≤ m * l.length
  | [], _ => by simp
  | x :: l, h => by
    have h1 := h x (by simp)
    have h2 := flatB_len (l := l) fun y hy => h y (by simp [hy])
    rw [List.flatMap_cons, List.length_append, List.length_cons, Nat.mul_add, Nat.mul_one]
    omega
theorem st_len {s : StM} (m : May s) : (stB s).length ≤ 82000 := by
  have h := flatB_len (f := choB) (m := 20) (l := s.ch) fun x _ => by
    have h1 := numB_len (x.1 + 1)
    have h2 := numB_len (x.2 + 1)
    unfold choB
    rw [List.length_append]
    omega
  have h1 := numB_len s.lit
  have h2 := numB_len (s.rule + 1)
  have h3 := numB_len s.ch.length
  have h4 := m.cl
  have h5 : 20 * s.ch.length ≤ 20 * 4096 := Nat.mul_le_mul_left _ h4
  unfold stB
  simp only [List.length_append, List.length_singleton]
  omega
theorem body_len {l : List StM} (o : Okl l) : (bodyB l).length ≤ 9000000000 := by
  have h := flatB_len (f := stB) (m := 82000) (l := l) fun s hs => st_len (o.may s hs)
  have h1 := numB_len l.length
  have h2 := o.len
  have h3 : 82000 * l.length ≤ 82000 * 65536 := Nat.mul_le_mul_left _ h2
  unfold bodyB
  simp only [List.length_append]
  have : markB.length = 4 := rfl
  omega
end Go.Proofs.Ytagpdceaononkaa
