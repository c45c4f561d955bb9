/- Strict proof, plainly: one rule is told of one literal; a round; the end. -/
import Derived.Test.YtdholifacnnjcaaStM
namespace Go.Proofs.Ytdholifacnnjcaa

theorem countP_flip {α : Type} {p q : α → Bool} {x : α} : ∀ {l : List α}, l.Nodup → x ∈ l → p x = true → q x = false → (∀ y ∈ l, y ≠ x → p y = q y) → l.countP p = l.countP q + 1
  | [], _, h, _, _, _ => by cases h
  | a :: l, hn, hm, hp, hq, hs => by
    obtain ⟨h1, h2⟩ := List.nodup_cons.1 hn
    by_cases e : a = x
    · subst e
      rw [List.countP_cons_of_pos hp, List.countP_cons_of_neg (by rw [hq]; decide)]
      congr 1
      exact List.countP_congr fun y hy => by rw [hs y (List.mem_cons_of_mem _ hy) (fun e => h1 (e ▸ hy))]
    · have hm2 : x ∈ l := (List.mem_cons.1 hm).resolve_left (fun e2 => e e2.symm)
      have ih := countP_flip h2 hm2 hp hq fun y hy hne => hs y (List.mem_cons_of_mem _ hy) hne
      have ha := hs a (by simp) e
      cases hb : p a with
      | true => rw [List.countP_cons_of_pos hb, List.countP_cons_of_pos (by rw [← ha]; exact hb), ih]
      | false => rw [List.countP_cons_of_neg (by rw [hb]; decide), List.countP_cons_of_neg (by rw [← ha, hb]; decide), ih]
/-- Rule r is told of x. -/
def add (D : Nat → Int → Bool) (r : Nat) (x : Int) : Nat → Int → Bool := fun a y => D a y || (decide (a = r) && decide (y = x))
theorem add_same {D : Nat → Int → Bool} {r : Nat} {x y : Int} : add D r x r y = (D r y || decide (y = x)) := by unfold add; simp
theorem add_other {D : Nat → Int → Bool} {r a : Nat} {x y : Int} (h : a ≠ r) : add D r x a y = D a y := by unfold add; simp [h]
theorem add_ne {D : Nat → Int → Bool} {r a : Nat} {x y : Int} (h : y ≠ x) : add D r x a y = D a y := by unfold add; simp [h]
section
variable {T : Th} {F : List Int} {n : Nat} {D : Nat → Int → Bool} {s : Cs} {r : Nat} {x : Int} {R : RuleM}
theorem gi_nat {l : List Int} {q : Nat} : gi l (q : Int) = l.getD q 0 := by unfold gi; rw [Int.toNat_natCast]
/-- +D of x is told to rule r. -/
theorem St.met (h : St T F n D s) (hN : Nm T F n) (hr : T.rules[r]? = some R) (hk : R.kind = 1) (hx : x ∈ R.body) (hd : D r x = false) (hs : gi s.sg x = 1) (hc : hit s.cm x = true) (hq : x ∉ s.qu) : St T F n (add D r x) (metM s r) := by
  have hmem := List.mem_of_getElem? hr
  have hrl : r < T.rules.length := (List.getElem?_eq_some_iff.1 hr).1
  have hms : ∀ a : Nat, (s.ms.set r (s.ms.getD r 0 - 1)).getD a 0 = if a = r then s.ms.getD r 0 - 1 else s.ms.getD a 0 := fun a => getD_set (by rw [h.lms]; exact hrl)
  refine ⟨h.lsg, h.lrd, h.lcm, h.lop, by show (s.ms.set r _).length = _; rw [List.length_set]; exact h.lms, h.lrf, h.three, h.cs, h.rs, h.sp, h.sm, fun a y hy hky => ?_, fun a y hy hky => ?_, h.op, fun a y hy => ?_, h.qc, h.qn, fun y hy a => ?_⟩
  · show (s.ms.set r (s.ms.getD r 0 - 1)).getD a 0 = _
    rw [hms]
    by_cases e : a = r
    · subst e
      rw [if_pos rfl]
      rw [hr] at hy
      cases hy
      rw [h.ms a R hr hk]
      have := countP_flip (p := fun y => !(D a y && decide (gi s.sg y = 1))) (q := fun y => !(add D a x a y && decide (gi s.sg y = 1))) (hN.nd R hmem) hx (by simp [hd]) (by show (!(add D a x a x && decide (gi s.sg x = 1))) = false; rw [add_same, hs]; simp) (fun y _ hne => by show (!(D a y && _)) = !(add D a x a y && _); rw [add_ne hne])
      have e2 : (metM s a).sg = s.sg := rfl
      rw [e2]
      omega
    · rw [if_neg e, h.ms a y hy hky]
      congr 1
      exact List.countP_congr fun z _ => by rw [add_other e]; exact Iff.rfl
  · show s.rf.getD a false = true ↔ _
    rw [h.rf a y hy hky]
    constructor
    · rintro ⟨z, h1, h2, h3⟩; exact ⟨z, h1, by unfold add; rw [h2]; rfl, h3⟩
    · rintro ⟨z, h1, h2, h3⟩
      have hne : z ≠ x := by
        intro e
        subst e
        have h3' : gi s.sg z = 2 := h3
        omega
      exact ⟨z, h1, by rw [← add_ne (D := D) (r := r) (a := a) hne]; exact h2, h3⟩
  · show hit s.cm y = true
    by_cases e : y = x
    · subst e; exact hc
    · rw [add_ne e] at hy; exact h.dc a y hy
  · have hy' : y ∈ s.qu := hy
    rw [add_ne (fun e => hq (by rw [← e]; exact hy'))]
    exact h.qd y hy' a
/-- A rule that is refuted already is told of -D. -/
theorem St.ref0 (h : St T F n D s) (hs : gi s.sg x = 2) (hc : hit s.cm x = true) (hq : x ∉ s.qu) (hf : s.rf.getD r false = true) : St T F n (add D r x) s := by
  refine ⟨h.lsg, h.lrd, h.lcm, h.lop, h.lms, h.lrf, h.three, h.cs, h.rs, h.sp, h.sm, fun a y hy hky => ?_, fun a y hy hky => ?_, h.op, fun a y hy => ?_, h.qc, h.qn, fun y hy a => ?_⟩
  · rw [h.ms a y hy hky]
    congr 1
    refine List.countP_congr fun z _ => ?_
    by_cases e : z = x
    · subst e; rw [hs]; simp
    · rw [add_ne e]
  · rw [h.rf a y hy hky]
    constructor
    · rintro ⟨z, h1, h2, h3⟩; exact ⟨z, h1, by unfold add; rw [h2]; rfl, h3⟩
    · rintro ⟨z, h1, h2, h3⟩
      by_cases e : a = r
      · subst e
        exact (h.rf a y hy hky).1 hf
      · exact ⟨z, h1, by rw [← add_other (D := D) (x := x) e]; exact h2, h3⟩
  · by_cases e : y = x
    · subst e; exact hc
    · rw [add_ne e] at hy; exact h.dc a y hy
  · rw [add_ne (fun e => hq (by rw [← e]; exact hy))]
    exact h.qd y hy a
theorem openB_at {rf : List Bool} {q : Int} (hr : T.rules[r]? = some R) : openB T rf q r = (decide (R.kind = 1) && decide (R.head = q) && !rf.getD r false) := by unfold openB; rw [hr]
/-- -D of x refutes rule r. -/
theorem St.ref1 (h : St T F n D s) (hN : Nm T F n) (hr : T.rules[r]? = some R) (hk : R.kind = 1) (hx : x ∈ R.body) (hs : gi s.sg x = 2) (hc : hit s.cm x = true) (hq : x ∉ s.qu) (hf : s.rf.getD r false = false) : St T F n (add D r x) { s with rf := s.rf.set r true, op := s.op.set R.head.toNat (gi s.op R.head - 1) } := by
  have hmem := List.mem_of_getElem? hr
  have hrl : r < T.rules.length := (List.getElem?_eq_some_iff.1 hr).1
  have hh := hN.head R hmem
  have hrf : ∀ a : Nat, (s.rf.set r true).getD a false = if a = r then true else s.rf.getD a false := fun a => getD_set (by rw [h.lrf]; exact hrl)
  have hop : ∀ a : Nat, (s.op.set R.head.toNat (gi s.op R.head - 1)).getD a 0 = if a = R.head.toNat then gi s.op R.head - 1 else s.op.getD a 0 := fun a => getD_set (by rw [h.lop]; omega)
  refine ⟨h.lsg, h.lrd, h.lcm, by show (s.op.set _ _).length = _; rw [List.length_set]; exact h.lop, h.lms, by show (s.rf.set _ _).length = _; rw [List.length_set]; exact h.lrf, h.three, h.cs, h.rs, h.sp, h.sm, fun a y hy hky => ?_, fun a y hy hky => ?_, fun q hq => ?_, fun a y hy => ?_, h.qc, h.qn, fun y hy a => ?_⟩
  · show s.ms.getD a 0 = _
    rw [h.ms a y hy hky]
    congr 1
    refine List.countP_congr fun z _ => ?_
    by_cases e : z = x
    · subst e
      show (!(D a z && decide (gi s.sg z = 1))) = true ↔ (!(add D r z a z && decide (gi s.sg z = 1))) = true
      rw [hs]; simp
    · rw [add_ne e]
  · show (s.rf.set r true).getD a false = true ↔ ∃ z ∈ y.body, add D r x a z = true ∧ gi s.sg z = 2
    rw [hrf]
    by_cases e : a = r
    · subst e
      rw [if_pos rfl]
      rw [hr] at hy
      cases hy
      exact ⟨fun _ => ⟨x, hx, by rw [add_same]; simp, hs⟩, fun _ => rfl⟩
    · rw [if_neg e, h.rf a y hy hky]
      constructor
      · rintro ⟨z, h1, h2, h3⟩; exact ⟨z, h1, by rw [add_other e]; exact h2, h3⟩
      · rintro ⟨z, h1, h2, h3⟩; exact ⟨z, h1, by rw [← add_other (D := D) (x := x) e]; exact h2, h3⟩
  · show (s.op.set R.head.toNat (gi s.op R.head - 1)).getD q 0 = (((List.range T.rules.length).countP fun a => openB T (s.rf.set r true) q a : Nat) : Int)
    rw [hop]
    by_cases e : q = R.head.toNat
    · rw [if_pos e]
      have hqh : (q : Int) = R.head := by omega
      have h0 := h.op q hq
      have hgi : gi s.op R.head = s.op.getD q 0 := by rw [← hqh, gi_nat]
      have := countP_flip (p := fun a => openB T s.rf q a) (q := fun a => openB T (s.rf.set r true) q a) (List.nodup_range (n := T.rules.length)) (List.mem_range.2 hrl) (by show openB T s.rf q r = true; rw [openB_at hr, hk, hf, hqh]; simp) (by show openB T (s.rf.set r true) q r = false; rw [openB_at hr, hrf, if_pos rfl]; simp) (fun a _ hne => by show openB T s.rf q a = openB T (s.rf.set r true) q a; unfold openB; rw [hrf, if_neg hne])
      rw [hgi, h0]
      omega
    · rw [if_neg e, h.op q hq]
      congr 1
      refine List.countP_congr fun a _ => ?_
      by_cases e2 : a = r
      · subst e2
        rw [openB_at hr, openB_at hr]
        have : ¬ R.head = (q : Int) := by omega
        simp [this]
      · unfold openB; rw [hrf, if_neg e2]
  · by_cases e : y = x
    · subst e; exact hc
    · rw [add_ne e] at hy; exact h.dc a y hy
  · have hy' : y ∈ s.qu := hy
    rw [add_ne (fun e => hq (by rw [← e]; exact hy'))]
    exact h.qd y hy' a
/-- All that is so between two steps. -/
structure Al (T : Th) (F : List Int) (n : Nat) (D : Nat → Int → Bool) (s : Cs) : Prop where
  st : St T F n D s
  cp : Cp T s
  cn : Cn n s
  fc : Fc F s
  ps : ∀ r y, D r y = true → 0 ≤ y
theorem Al.say (h : Al T F n D s) (hN : Nm T F n) {l i m : Int} (hl : 0 ≤ l ∧ l < (n : Int)) (hi : i = 1 ∨ i = 2) (hp : i = 1 → hit s.cm l = true ∨ PD T F l) (hm : i = 2 → hit s.cm l = true ∨ MD T F l) (h1 : 1 ≤ m) (hg : 1 < m → ∃ x : Nat, x < n ∧ s.rd.getD x 0 = m - 1) : Al T F n D (sayM s l i m) := by
  have hlc : 0 ≤ l ∧ l < s.cm.length := by rw [h.st.lcm]; exact hl
  exact ⟨h.st.say hl hi hp hm h1 hg h.ps, h.cp.say (fun r hr => (hN.head r hr).1) hlc, h.cn.say hlc, h.fc.say (fun q hq => (hN.fact q hq).1) hlc, h.ps⟩
theorem sg_nat (_h : St T F n D s) (hx : 0 ≤ x ∧ x < (n : Int)) {v : Int} (e : gi s.sg x = v) : ∃ q : Nat, q < n ∧ x = q ∧ s.sg.getD q 0 = v := ⟨x.toNat, by omega, by omega, e⟩
theorem cn_all (h : ∀ q : Nat, q < n → s.op.getD q 0 = 0 → s.cm.getD q false = true ∨ (q : Int) = x) (hl : 0 ≤ x ∧ x < (n : Int)) (hc : s.cm.length = n) {i m : Int} : Cn n (sayM s x i m) := by
  intro q hq h0
  rw [say_ms.2.2] at h0
  have := say_cm (s := s) (i := i) (m := m) (l := x) (by rw [hc]; exact hl) (y := (q : Int)) (by omega)
  unfold hit at this
  simp only [Int.toNat_natCast] at this
  rw [this]
  rcases h q hq h0 with h | h
  · rw [h]; rfl
  · simp [h]
theorem cp_all (h : ∀ (a : Nat) y, T.rules[a]? = some y → y.kind = 1 → s.ms.getD a 0 = 0 → hit s.cm y.head = true ∨ y.head = x) (hh : ∀ r ∈ T.rules, 0 ≤ r.head) (hl : 0 ≤ x ∧ x < (s.cm.length : Int)) {i m : Int} : Cp T (sayM s x i m) := by
  intro a y hy hk h0
  rw [say_ms.1] at h0
  rw [say_cm hl (hh y (List.mem_of_getElem? hy))]
  rcases h a y hy hk h0 with h | h
  · rw [h]; rfl
  · simp [h]
theorem Al.tell (h : Al T F n D s) (hN : Nm T F n) (hr : T.rules[r]? = some R) (hk : R.kind = 1) (hx : x ∈ R.body) (hd : D r x = false) {i m : Int} (hi : i = 1 ∨ i = 2) (hs : gi s.sg x = i) (hc : hit s.cm x = true) (hq : x ∉ s.qu) (hm : gi s.rd x = m - 1) : Al T F n (add D r x) (tellM s i m r R.head) := by
  have hmem := List.mem_of_getElem? hr
  have hrl : r < T.rules.length := (List.getElem?_eq_some_iff.1 hr).1
  have hh := hN.head R hmem
  have hx0 := hN.body R hmem x hx
  have hps : ∀ a y, add D r x a y = true → 0 ≤ y := by
    intro a y hy
    by_cases e : y = x
    · subst e; exact hx0.1
    · rw [add_ne e] at hy; exact h.ps a y hy
  obtain ⟨q0, hq0, hxq, hsq⟩ := sg_nat h.st hx0 hs
  have hrdq : s.rd.getD q0 0 = m - 1 := by rw [← hm, hxq, gi_nat]
  have hm1 : 1 ≤ m ∧ (1 < m → ∃ y : Nat, y < n ∧ s.rd.getD y 0 = m - 1) := by
    have := (h.st.rs q0 hq0).2.1
    exact ⟨by omega, fun _ => ⟨q0, hq0, hrdq⟩⟩
  unfold tellM
  rcases hi with rfl | rfl
  · have hst := h.st.met hN hr hk hx hd hs hc hq
    have hms : ∀ a : Nat, (metM s r).ms.getD a 0 = if a = r then s.ms.getD r 0 - 1 else s.ms.getD a 0 := fun a => getD_set (by rw [h.st.lms]; exact hrl)
    have e1 : stepM s 1 r R.head = metM s r := rfl
    have e2 : folM s 1 r R.head = decide (s.ms.getD r 0 - 1 = 0) := rfl
    rw [e1, e2]
    by_cases h0 : s.ms.getD r 0 - 1 = 0
    · rw [if_pos (by simpa using h0)]
      have hz : (metM s r).ms.getD r 0 = 0 := by rw [hms, if_pos rfl, h0]
      have hpd : PD T F R.head := by
        refine .rule hmem hk fun y hy => ?_
        have hcnt := hst.ms r R hr hk
        rw [hz] at hcnt
        have hcz : R.body.countP (fun y => !(add D r x r y && decide (gi s.sg y = 1))) = 0 := by
          have hc2 : (0 : Int) = ((R.body.countP (fun y => !(add D r x r y && decide (gi s.sg y = 1))) : Nat) : Int) := hcnt
          omega
        have := List.countP_eq_zero.1 hcz y hy
        have hone : gi s.sg y = 1 := by
          have h2 : (add D r x r y && decide (gi s.sg y = 1)) = true := by simpa using this
          rw [Bool.and_eq_true] at h2
          simpa using h2.2
        obtain ⟨q1, hq1, e, hv⟩ := sg_nat h.st (hN.body R hmem y hy) hone
        rw [e]
        exact h.st.sp q1 hq1 hv
      have hal : St T F n (add D r x) (sayM (metM s r) R.head 1 m) := hst.say hh (.inl rfl) (fun _ => .inr hpd) (fun e => by cases e) hm1.1 hm1.2 hps
      refine ⟨hal, cp_all (fun a y hy hky h0y => ?_) (fun r hr => (hN.head r hr).1) (by show 0 ≤ R.head ∧ R.head < (s.cm.length : Int); rw [h.st.lcm]; exact hh), Cn.say (s := metM s r) h.cn (by show 0 ≤ R.head ∧ R.head < (s.cm.length : Int); rw [h.st.lcm]; exact hh), Fc.say (s := metM s r) h.fc (fun q hq => (hN.fact q hq).1) (by show 0 ≤ R.head ∧ R.head < (s.cm.length : Int); rw [h.st.lcm]; exact hh), hps⟩
      by_cases e : a = r
      · subst e
        rw [hr] at hy
        cases hy
        exact .inr rfl
      · rw [hms, if_neg e] at h0y
        exact .inl (h.cp a y hy hky h0y)
    · rw [if_neg (by simpa using h0)]
      refine ⟨hst, fun a y hy hky h0y => ?_, h.cn, h.fc, hps⟩
      by_cases e : a = r
      · subst e
        rw [hms, if_pos rfl] at h0y
        exact absurd h0y h0
      · rw [hms, if_neg e] at h0y
        exact h.cp a y hy hky h0y
  · have e1 : stepM s 2 r R.head = refM s r R.head := rfl
    have e2 : folM s 2 r R.head = (!s.rf.getD r false && decide (gi s.op R.head - 1 = 0)) := rfl
    rw [e1, e2]
    unfold refM
    cases hf : s.rf.getD r false with
    | true =>
      rw [if_neg (by simp), if_pos rfl]
      exact ⟨h.st.ref0 hs hc hq hf, h.cp, h.cn, h.fc, hps⟩
    | false =>
      have hst := h.st.ref1 hN hr hk hx hs hc hq hf
      have hop : ∀ a : Nat, (s.op.set R.head.toNat (gi s.op R.head - 1)).getD a 0 = if a = R.head.toNat then gi s.op R.head - 1 else s.op.getD a 0 := fun a => getD_set (by rw [h.st.lop]; omega)
      rw [if_neg (show ¬ (false = true) by decide)]
      by_cases h0 : gi s.op R.head - 1 = 0
      · rw [if_pos (by simp; exact h0)]
        have hmd : hit s.cm R.head = true ∨ MD T F R.head := by
          by_cases hF : R.head ∈ F
          · exact .inl (h.fc _ hF)
          · right
            refine MD.of hF fun y hy hky he => ?_
            obtain ⟨a, ha, hya⟩ := List.mem_iff_getElem.1 hy
            have hya : T.rules[a]? = some y := by rw [List.getElem?_eq_getElem ha, hya]
            have hop0 := hst.op R.head.toNat (by omega)
            have hz : (s.op.set R.head.toNat (gi s.op R.head - 1)).getD R.head.toNat 0 = 0 := by rw [hop, if_pos rfl, h0]
            have hcz : (List.range T.rules.length).countP (fun a => openB T (s.rf.set r true) ((R.head.toNat : Nat) : Int) a) = 0 := by
              have : (s.op.set R.head.toNat (gi s.op R.head - 1)).getD R.head.toNat 0 = (((List.range T.rules.length).countP (fun a => openB T (s.rf.set r true) ((R.head.toNat : Nat) : Int) a) : Nat) : Int) := hop0
              omega
            have hno := List.countP_eq_zero.1 hcz a (List.mem_range.2 ha)
            have hrfa : (s.rf.set r true).getD a false = true := by
              rw [openB_at hya] at hno
              have e3 : y.head = ((R.head.toNat : Nat) : Int) := by omega
              simpa [hky, e3] using hno
            obtain ⟨z, hz1, hz2, hz3⟩ := (hst.rf a y hya hky).1 hrfa
            obtain ⟨q1, hq1, e, hv⟩ := sg_nat h.st (hN.body y hy z hz1) hz3
            exact ⟨z, hz1, by rw [e]; exact h.st.sm q1 hq1 hv⟩
        have hal := hst.say (l := R.head) (i := 2) (m := m) hh (.inr rfl) (fun e => by cases e) (fun _ => hmd) hm1.1 hm1.2 hps
        have hcp2 : Cp T { s with rf := s.rf.set r true, op := s.op.set R.head.toNat (gi s.op R.head - 1) } := h.cp
        have hfc2 : Fc F { s with rf := s.rf.set r true, op := s.op.set R.head.toNat (gi s.op R.head - 1) } := h.fc
        refine ⟨hal, hcp2.say (fun r hr => (hN.head r hr).1) (by show 0 ≤ R.head ∧ R.head < (s.cm.length : Int); rw [h.st.lcm]; exact hh), cn_all (s := { s with rf := s.rf.set r true, op := s.op.set R.head.toNat (gi s.op R.head - 1) }) (fun q hq h0q => ?_) hh h.st.lcm, hfc2.say (fun q hq => (hN.fact q hq).1) (by show 0 ≤ R.head ∧ R.head < (s.cm.length : Int); rw [h.st.lcm]; exact hh), hps⟩
        by_cases e : q = R.head.toNat
        · right; omega
        · left
          have h0q' : (s.op.set R.head.toNat (gi s.op R.head - 1)).getD q 0 = 0 := h0q
          rw [hop, if_neg e] at h0q'
          exact h.cn q hq h0q'
      · rw [if_neg (by simp; exact h0)]
        refine ⟨hst, h.cp, fun q hq h0q => ?_, h.fc, hps⟩
        have h0q' : (s.op.set R.head.toNat (gi s.op R.head - 1)).getD q 0 = 0 := h0q
        rw [hop] at h0q'
        by_cases e : q = R.head.toNat
        · rw [if_pos e] at h0q'; exact absurd h0q' h0
        · rw [if_neg e] at h0q'; exact h.cn q hq h0q'
end
end Go.Proofs.Ytdholifacnnjcaa
