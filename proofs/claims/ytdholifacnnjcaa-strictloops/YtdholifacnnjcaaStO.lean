/- Strict proof, plainly: the counters at their start, the first round, the other rounds, the end. -/
import Derived.Test.YtdholifacnnjcaaStN
namespace Go.Proofs.Ytdholifacnnjcaa

theorem take_one {α : Type} {l : List α} {j : Nat} {a : α} (h : l[j]? = some a) : l.take (j + 1) = l.take j ++ [a] := by rw [List.take_add_one, h]; rfl
theorem nodup_le {α : Type} [BEq α] [LawfulBEq α] : ∀ {l m : List α}, l.Nodup → (∀ x ∈ l, x ∈ m) → l.length ≤ m.length
  | [], _, _, _ => Nat.zero_le _
  | x :: l, m, hn, hs => by
    obtain ⟨h1, h2⟩ := List.nodup_cons.1 hn
    have hx := hs x (by simp)
    have ih := nodup_le (m := m.erase x) h2 fun y hy => (List.mem_erase_of_ne (fun (e : y = x) => h1 (e ▸ hy))).2 (hs y (List.mem_cons_of_mem _ hy))
    rw [List.length_erase_of_mem hx] at ih
    have : 0 < m.length := List.length_pos_of_mem hx
    simp only [List.length_cons]
    omega
section
variable {T : Th} {F : List Int} {n : Nat} {D : Nat → Int → Bool} {s : Cs} {x : Int}
/-- Rounds have no gap. -/
theorem rounds_all {rd : List Int} (h : ∀ q : Nat, q < n → 0 ≤ rd.getD q 0 ∧ (1 < rd.getD q 0 → ∃ y : Nat, y < n ∧ rd.getD y 0 = rd.getD q 0 - 1)) : ∀ (k : Nat) (q : Nat), q < n → rd.getD q 0 = k → ∀ v : Nat, 1 ≤ v → v ≤ k → ∃ y : Nat, y < n ∧ rd.getD y 0 = v
  | 0, q, hq, e, v, h1, h2 => by omega
  | k + 1, q, hq, e, v, h1, h2 => by
    by_cases hv : v = k + 1
    · exact ⟨q, hq, by rw [e, hv]⟩
    · obtain ⟨y, hy, ey⟩ := (h q hq).2 (by rw [e]; omega)
      exact rounds_all h k y hy (by rw [ey, e]; omega) v h1 (by omega)
theorem rounds_le {rd : List Int} (hl : rd.length = n) (h : ∀ q : Nat, q < n → 0 ≤ rd.getD q 0 ∧ (1 < rd.getD q 0 → ∃ y : Nat, y < n ∧ rd.getD y 0 = rd.getD q 0 - 1)) {q : Nat} (hq : q < n) : rd.getD q 0 ≤ n := by
  obtain ⟨k, hk⟩ := Int.eq_ofNat_of_zero_le (h q hq).1
  have hall := rounds_all h k q hq hk
  have hnd : ((List.range k).map fun v : Nat => ((v : Int) + 1)).Nodup := by
    rw [List.nodup_iff_pairwise_ne, List.pairwise_map]
    exact List.Pairwise.imp (fun {a b} (hab : a ≠ b) => by omega) (List.nodup_iff_pairwise_ne.1 (List.nodup_range (n := k)))
  have := nodup_le (m := rd) hnd fun v hv => by
    obtain ⟨a, ha, rfl⟩ := List.mem_map.1 hv
    obtain ⟨y, hy, ey⟩ := hall (a + 1) (by omega) (by have := List.mem_range.1 ha; omega)
    have hyl : y < rd.length := by omega
    have : rd[y]? = some ((a : Int) + 1) := by
      rw [List.getD_eq_getElem?_getD, List.getElem?_eq_getElem hyl] at ey
      rw [List.getElem?_eq_getElem hyl]
      simp at ey
      rw [ey]
    exact List.mem_of_getElem? this
  simp at this
  omega
theorem St.rd_le (h : St T F n D s) {q : Nat} (hq : q < n) : s.rd.getD q 0 ≤ n := rounds_le h.lrd (fun q hq => (h.rs q hq).2) hq

/-- Is z in the body of strict rule a? -/
def useB (T : Th) (z : Int) (a : Nat) : Bool := match T.rules[a]? with
  | some x => decide (x.kind = 1) && decide (z ∈ x.body)
  | none => false
def usr (T : Th) (k : Nat) (z : Int) : List Int := ((List.range k).filter (useB T z)).map Int.ofNat
theorem usr_succ {k : Nat} {z : Int} : usr T (k + 1) z = if useB T z k then usr T k z ++ [(k : Int)] else usr T k z := by
  unfold usr
  rw [List.range_succ, List.filter_append, List.map_append]
  cases h : useB T z k <;> simp [h]
theorem usr_len {k : Nat} {z : Int} : (usr T k z).length ≤ k := by
  unfold usr
  rw [List.length_map]
  exact Nat.le_trans (List.length_filter_le _ _) (by simp)
theorem usr_nodup {k : Nat} {z : Int} : (usr T k z).Nodup := by
  unfold usr
  rw [List.nodup_iff_pairwise_ne, List.pairwise_map]
  exact List.Pairwise.imp (fun {a b} (hab : a ≠ b) => by intro e; exact hab (Int.ofNat.inj e)) (List.nodup_iff_pairwise_ne.1 (List.Pairwise.filter _ (List.nodup_range (n := k))))
theorem usr_mem {k : Nat} {z : Int} {a : Nat} : (a : Int) ∈ usr T k z ↔ a < k ∧ useB T z a = true := by
  unfold usr
  constructor
  · intro h
    obtain ⟨b, hb, e⟩ := List.mem_map.1 h
    have : b = a := Int.ofNat.inj e
    subst this
    have := List.mem_filter.1 hb
    exact ⟨List.mem_range.1 this.1, this.2⟩
  · rintro ⟨h1, h2⟩
    exact List.mem_map.2 ⟨a, List.mem_filter.2 ⟨List.mem_range.2 h1, h2⟩, rfl⟩
theorem usr_at {k j : Nat} {z r : Int} (h : (usr T k z)[j]? = some r) : ∃ (a : Nat) (R : RuleM), r = a ∧ T.rules[a]? = some R ∧ R.kind = 1 ∧ z ∈ R.body := by
  have hm := List.mem_of_getElem? h
  unfold usr at hm
  obtain ⟨a, ha, e⟩ := List.mem_map.1 hm
  have h2 := (List.mem_filter.1 ha).2
  unfold useB at h2
  cases hr : T.rules[a]? with
  | none => rw [hr] at h2; cases h2
  | some R =>
    rw [hr] at h2
    simp at h2
    exact ⟨a, R, e.symm, hr, h2.1, h2.2⟩
theorem useB_of {a : Nat} {R : RuleM} {z : Int} (hr : T.rules[a]? = some R) (hk : R.kind = 1) (hz : z ∈ R.body) : useB T z a = true := by unfold useB; rw [hr]; simp [hk, hz]

/-- The counters when k rules were looked at. -/
structure Cnt (T : Th) (n k : Nat) (ms op : List Int) : Prop where
  lm : ms.length = T.rules.length
  lo : op.length = n
  ms : ∀ (a : Nat) x, a < k → T.rules[a]? = some x → x.kind = 1 → ms.getD a 0 = x.body.length
  op : ∀ q : Nat, q < n → op.getD q 0 = (((List.range k).countP fun r => openB T [] q r : Nat) : Int)
theorem Cnt.start (T : Th) (n : Nat) : Cnt T n 0 (List.replicate T.rules.length 0) (List.replicate n 0) := by
  refine ⟨by simp, by simp, fun a x ha => by omega, fun q hq => ?_⟩
  rw [List.getD_eq_getElem?_getD, List.getElem?_replicate]
  simp [hq]
theorem Cnt.skip {k : Nat} {ms op : List Int} {R : RuleM} (h : Cnt T n k ms op) (hr : T.rules[k]? = some R) (hk : R.kind ≠ 1) : Cnt T n (k + 1) ms op := by
  refine ⟨h.lm, h.lo, fun a x ha hx hkx => ?_, fun q hq => ?_⟩
  · by_cases e : a = k
    · subst e; rw [hr] at hx; cases hx; exact absurd hkx hk
    · exact h.ms a x (by omega) hx hkx
  · rw [h.op q hq, List.range_succ, List.countP_append]
    have : openB T [] q k = false := by unfold openB; rw [hr]; simp [hk]
    simp [this]
theorem Cnt.next {k : Nat} {ms op : List Int} {R : RuleM} (h : Cnt T n k ms op) (hr : T.rules[k]? = some R) (hk : R.kind = 1) (hh : 0 ≤ R.head ∧ R.head < (n : Int)) : Cnt T n (k + 1) (ms.set k R.body.length) (op.set R.head.toNat (op.getD R.head.toNat 0 + 1)) := by
  have hkl : k < T.rules.length := (List.getElem?_eq_some_iff.1 hr).1
  refine ⟨by rw [List.length_set]; exact h.lm, by rw [List.length_set]; exact h.lo, fun a x ha hx hkx => ?_, fun q hq => ?_⟩
  · rw [getD_set (by rw [h.lm]; exact hkl)]
    by_cases e : a = k
    · subst e; rw [if_pos rfl]; rw [hr] at hx; cases hx; rfl
    · rw [if_neg e]; exact h.ms a x (by omega) hx hkx
  · rw [getD_set (by rw [h.lo]; omega), List.range_succ, List.countP_append]
    by_cases e : q = R.head.toNat
    · have hq2 : R.head = (q : Int) := by omega
      have : openB T [] q k = true := by unfold openB; rw [hr]; simp [hk, hq2]
      rw [if_pos e, ← e, h.op q hq]
      simp [this]
    · have hq2 : ¬ R.head = (q : Int) := by omega
      have : openB T [] q k = false := by unfold openB; rw [hr]; simp [hq2]
      rw [if_neg e, h.op q hq]
      simp [this]
theorem Cnt.op_le {k : Nat} {ms op : List Int} (h : Cnt T n k ms op) {q : Nat} (hq : q < n) : 0 ≤ op.getD q 0 ∧ op.getD q 0 ≤ k := by
  rw [h.op q hq]
  have := List.countP_le_length (p := fun r => openB T [] (q : Int) r) (l := List.range k)
  simp only [List.length_range] at this
  omega
/-- The row of users when k rules were looked at, and of the k-th the first j of its body. -/
structure Usr (T : Th) (n k : Nat) (b : List Int) (H : List (List Int)) : Prop where
  ln : H.length = n
  at_ : ∀ z : Nat, z < n → H.getD z [] = if (z : Int) ∈ b then usr T k z ++ [(k : Int)] else usr T k z
theorem Usr.start (T : Th) (n : Nat) : Usr T n 0 [] (List.replicate n []) := by
  refine ⟨by simp, fun z hz => ?_⟩
  rw [List.getD_eq_getElem?_getD, List.getElem?_replicate]
  simp [hz, usr]
theorem Usr.skip {k : Nat} {H : List (List Int)} {R : RuleM} (h : Usr T n k [] H) (hr : T.rules[k]? = some R) (hk : R.kind ≠ 1) : Usr T n (k + 1) [] H := by
  refine ⟨h.ln, fun z hz => ?_⟩
  rw [h.at_ z hz, usr_succ]
  have : useB T z k = false := by unfold useB; rw [hr]; simp [hk]
  simp [this]
theorem Usr.next {k : Nat} {H : List (List Int)} {R : RuleM} (h : Usr T n k R.body H) (hr : T.rules[k]? = some R) (hk : R.kind = 1) : Usr T n (k + 1) [] H := by
  refine ⟨h.ln, fun z hz => ?_⟩
  rw [h.at_ z hz, usr_succ]
  have : useB T z k = decide ((z : Int) ∈ R.body) := by unfold useB; rw [hr]; simp [hk]
  by_cases e : (z : Int) ∈ R.body
  · simp [this, e]
  · simp [this, e]
theorem Usr.add {k : Nat} {b : List Int} {H : List (List Int)} {y : Nat} (h : Usr T n k b H) (hy : y < n) (hn : (y : Int) ∉ b) : Usr T n k (b ++ [(y : Int)]) (H.set y (H.getD y [] ++ [(k : Int)])) := by
  refine ⟨by rw [List.length_set]; exact h.ln, fun z hz => ?_⟩
  rw [getD_set (by rw [h.ln]; exact hy)]
  by_cases e : z = y
  · subst e
    rw [if_pos rfl, h.at_ z hz, if_neg hn, if_pos (by simp)]
  · rw [if_neg e, h.at_ z hz]
    have : ((z : Int) ∈ b ++ [(y : Int)]) ↔ (z : Int) ∈ b := by
      simp only [List.mem_append, List.mem_singleton]
      constructor
      · rintro (h | h)
        · exact h
        · omega
      · exact .inl
    by_cases e2 : (z : Int) ∈ b
    · rw [if_pos e2, if_pos (this.2 e2)]
    · rw [if_neg e2, if_neg (fun h => e2 (this.1 h))]
theorem Usr.row_le {k : Nat} {b : List Int} {H : List (List Int)} (h : Usr T n k b H) {z : Nat} {m : List Int} (hm : H[z]? = some m) : m.length ≤ k + 1 := by
  have hz : z < n := by rw [← h.ln]; exact (List.getElem?_eq_some_iff.1 hm).1
  have := h.at_ z hz
  rw [List.getD_eq_getElem?_getD, hm] at this
  have e : m = _ := this
  have hu := usr_len (T := T) (k := k) (z := z)
  rw [e]
  split <;> simp <;> omega

/-- The state at its start. -/
def stZ (T : Th) (n : Nat) (ms op : List Int) : Cs := ⟨List.replicate n 0, List.replicate n 0, List.replicate n false, [], ms, List.replicate T.rules.length false, op⟩
theorem rep0 {q : Nat} : (List.replicate n (0 : Int)).getD q 0 = 0 := by
  rw [List.getD_eq_getElem?_getD, List.getElem?_replicate]; split <;> rfl
theorem repF {m q : Nat} : (List.replicate m false).getD q false = false := by
  rw [List.getD_eq_getElem?_getD, List.getElem?_replicate]; split <;> rfl
abbrev noD : Nat → Int → Bool := fun _ _ => false
theorem St.start {ms op : List Int} (h : Cnt T n T.rules.length ms op) : St T F n noD (stZ T n ms op) := by
  refine ⟨by simp [stZ], by simp [stZ], by simp [stZ], h.lo, h.lm, by simp [stZ], fun q hq => .inl rep0, fun q hq => ?_, fun q hq => ?_, fun q hq e => ?_, fun q hq e => ?_, fun r x hr hk => ?_, fun r x hr hk => ?_, fun q hq => ?_, fun r y hy => (by cases hy), fun x hx => (by cases hx), List.nodup_nil, fun y hy => (by cases hy)⟩
  · show (List.replicate n false).getD q false = true ↔ (List.replicate n (0 : Int)).getD q 0 ≠ 0
    rw [rep0, repF]
    simp
  · show ((List.replicate n (0 : Int)).getD q 0 = 0 ↔ (List.replicate n (0 : Int)).getD q 0 = 0) ∧ 0 ≤ (List.replicate n (0 : Int)).getD q 0 ∧ (1 < (List.replicate n (0 : Int)).getD q 0 → _)
    rw [rep0]
    exact ⟨Iff.rfl, Int.le_refl _, fun h => absurd h (by decide)⟩
  · have : (List.replicate n (0 : Int)).getD q 0 = 1 := e
    rw [rep0] at this; cases this
  · have : (List.replicate n (0 : Int)).getD q 0 = 2 := e
    rw [rep0] at this; cases this
  · show ms.getD r 0 = _
    rw [h.ms r x (List.getElem?_eq_some_iff.1 hr).1 hr hk]
    congr 1
    rw [List.countP_eq_length.2]
    intro y _
    simp
  · show (List.replicate T.rules.length false).getD r false = true ↔ _
    rw [repF]
    simp
  · show op.getD q 0 = _
    rw [h.op q hq]
    congr 1
    refine List.countP_congr fun r _ => ?_
    show openB T [] q r = true ↔ openB T (List.replicate T.rules.length false) q r = true
    unfold openB
    cases T.rules[r]? with
    | none => exact Iff.rfl
    | some R => simp only [repF]; simp
/-- In the first round: nothing was told to a rule, all that came waits. -/
structure Fst (T : Th) (F : List Int) (n : Nat) (ms op : List Int) (s : Cs) : Prop where
  st : St T F n noD s
  em : s.ms = ms
  eo : s.op = op
  ef : s.rf = List.replicate T.rules.length false
  wt : ∀ y, 0 ≤ y → hit s.cm y = true → y ∈ s.qu
theorem Fst.start {ms op : List Int} (h : Cnt T n T.rules.length ms op) : Fst T F n ms op (stZ T n ms op) := by
  refine ⟨St.start h, rfl, rfl, rfl, fun y _ hy => ?_⟩
  have : (List.replicate n false).getD y.toNat false = true := hy
  rw [repF] at this
  cases this
theorem Fst.say {ms op : List Int} (h : Fst T F n ms op s) {l i : Int} (hl : 0 ≤ l ∧ l < (n : Int)) (hi : i = 1 ∨ i = 2) (hp : i = 1 → hit s.cm l = true ∨ PD T F l) (hm : i = 2 → hit s.cm l = true ∨ MD T F l) : Fst T F n ms op (sayM s l i 1) := by
  refine ⟨h.st.say hl hi hp hm (by decide) (fun h => absurd h (by decide)) (fun _ _ h => by cases h), say_ms.1.trans h.em, say_ms.2.2.trans h.eo, say_ms.2.1.trans h.ef, fun y h0 hy => ?_⟩
  cases hc : hit s.cm l with
  | true => rw [sayM_yes hc] at hy ⊢; exact h.wt y h0 hy
  | false =>
    rw [say_cm (by rw [h.st.lcm]; exact hl) h0] at hy
    rw [sayM_no hc]
    show y ∈ s.qu ++ [l]
    rcases Bool.or_eq_true_iff.1 hy with hy | hy
    · exact List.mem_append_left _ (h.wt y h0 hy)
    · have : y = l := by simpa using hy
      subst this
      simp
/-- Nothing waits but what is excepted. -/
def Wt (T : Th) (D : Nat → Int → Bool) (s : Cs) (ex : Int → Prop) : Prop := ∀ y, 0 ≤ y → hit s.cm y = true → y ∉ s.qu → ¬ ex y → ∀ (r : Nat) R, T.rules[r]? = some R → R.kind = 1 → y ∈ R.body → D r y = true
def Betw (T : Th) (F : List Int) (n : Nat) (s : Cs) : Prop := ∃ D, Al T F n D s ∧ Wt T D s fun _ => False
theorem Fst.betw {ms op : List Int} (h : Fst T F n ms op s) (hf : Fc F s) (hp : ∀ (r : Nat) x, T.rules[r]? = some x → x.kind = 1 → x.body = [] → hit s.cm x.head = true) (hc : Cnt T n T.rules.length ms op) (hn : ∀ q : Nat, q < n → op.getD q 0 = 0 → s.cm.getD q false = true) : Betw T F n s := by
  refine ⟨noD, ⟨h.st, fun r x hr hk h0 => hp r x hr hk ?_, fun q hq h0 => hn q hq (by rw [← h.eo]; exact h0), hf, fun _ _ h => by cases h⟩, fun y h0 hy hq => absurd (h.wt y h0 hy) hq⟩
  rw [h.em, hc.ms r x (List.getElem?_eq_some_iff.1 hr).1 hr hk] at h0
  exact List.eq_nil_of_length_eq_zero (by omega)
theorem Cnt.none_md {ms op : List Int} (h : Cnt T n T.rules.length ms op) {q : Nat} (hq : q < n) (h0 : op.getD q 0 = 0) (hF : (q : Int) ∉ F) : MD T F q := by
  refine MD.of hF fun R hR hk he => ?_
  rw [h.op q hq] at h0
  have hz : (List.range T.rules.length).countP (fun r => openB T [] (q : Int) r) = 0 := by omega
  obtain ⟨a, ha, hya⟩ := List.mem_iff_getElem.1 hR
  have hya : T.rules[a]? = some R := by rw [List.getElem?_eq_getElem ha, hya]
  have := List.countP_eq_zero.1 hz a (List.mem_range.2 ha)
  exfalso
  apply this
  show openB T [] (q : Int) a = true
  unfold openB
  rw [hya]
  simp [hk, he]
/-- In the round of x, when j of its users were told. -/
def Mid (T : Th) (F : List Int) (n : Nat) (x i m : Int) (j : Nat) (s : Cs) : Prop := ∃ D, Al T F n D s ∧ Wt T D s (· = x) ∧ hit s.cm x = true ∧ (0 ≤ x ∧ x < (n : Int)) ∧ x ∉ s.qu ∧ gi s.sg x = i ∧ (i = 1 ∨ i = 2) ∧ gi s.rd x = m - 1 ∧ ∀ a : Nat, D a x = true ↔ (a : Int) ∈ (usr T T.rules.length x).take j
theorem Betw.pop (h : Betw T F n s) {q : List Int} (hq : s.qu = x :: q) : Mid T F n x (gi s.sg x) (gi s.rd x + 1) 0 { s with qu := q } := by
  obtain ⟨D, ha, hw⟩ := h
  have hx := ha.st.qc x (by rw [hq]; simp)
  have hnd := ha.st.qn
  rw [hq] at hnd
  obtain ⟨h1, h2⟩ := List.nodup_cons.1 hnd
  obtain ⟨a, ea⟩ := Int.eq_ofNat_of_zero_le hx.1
  have han : a < n := by have := hx.2.1; omega
  have hsg : s.sg.getD a 0 ≠ 0 := (ha.st.cs a han).1 (by have := hx.2.2; rw [ea] at this; unfold hit at this; simpa using this)
  have hge : gi s.sg x = s.sg.getD a 0 := by rw [ea]; exact gi_nat
  have hst : St T F n D { s with qu := q } := ⟨ha.st.lsg, ha.st.lrd, ha.st.lcm, ha.st.lop, ha.st.lms, ha.st.lrf, ha.st.three, ha.st.cs, ha.st.rs, ha.st.sp, ha.st.sm, ha.st.ms, ha.st.rf, ha.st.op, ha.st.dc, fun y hy => ha.st.qc y (by rw [hq]; exact List.mem_cons_of_mem _ hy), h2, fun y hy => ha.st.qd y (by rw [hq]; exact List.mem_cons_of_mem _ hy)⟩
  refine ⟨D, ⟨hst, ha.cp, ha.cn, ha.fc, ha.ps⟩, fun y h0 hy hyq hyx => hw y h0 hy (by rw [hq]; intro h; rcases List.mem_cons.1 h with h | h; exact hyx h; exact hyq h) (fun h => h), hx.2.2, ⟨hx.1, hx.2.1⟩, h1, rfl, ?_, by show gi s.rd x = _; omega, fun b => ?_⟩
  · have := ha.st.three a han
    rw [hge]
    rcases this with h | h
    · exact absurd h hsg
    · exact h
  · rw [ha.st.qd x (by rw [hq]; simp) b]
    simp
theorem say_keep {l i m : Int} (h0 : 0 ≤ x ∧ x < (n : Int)) (hl : 0 ≤ l ∧ l < (n : Int)) (ls : s.sg.length = n) (lr : s.rd.length = n) (lc : s.cm.length = n) (hx : hit s.cm x = true) : gi (sayM s l i m).sg x = gi s.sg x ∧ gi (sayM s l i m).rd x = gi s.rd x ∧ hit (sayM s l i m).cm x = true ∧ (x ∉ s.qu → x ∉ (sayM s l i m).qu) := by
  cases hc : hit s.cm l with
  | true => rw [sayM_yes hc]; exact ⟨rfl, rfl, hx, fun h => h⟩
  | false =>
    have hne : x ≠ l := by intro e; rw [e, hc] at hx; cases hx
    refine ⟨?_, ?_, by rw [say_cm (by rw [lc]; exact hl) h0.1, hx]; rfl, ?_⟩
    · rw [sayM_no hc]
      show gi (s.sg.set l.toNat i) x = _
      rw [gi_set (by rw [ls]; exact hl) h0.1, if_neg hne]
    · rw [sayM_no hc]
      show gi (s.rd.set l.toNat m) x = _
      rw [gi_set (by rw [lr]; exact hl) h0.1, if_neg hne]
    · rw [sayM_no hc]
      intro h h2
      rcases List.mem_append.1 h2 with h2 | h2
      · exact h h2
      · exact hne (by simpa using h2)
theorem step_same {i h : Int} {r : Nat} : (stepM s i r h).sg = s.sg ∧ (stepM s i r h).rd = s.rd ∧ (stepM s i r h).cm = s.cm ∧ (stepM s i r h).qu = s.qu := by
  unfold stepM metM refM
  split
  · exact ⟨rfl, rfl, rfl, rfl⟩
  · split <;> exact ⟨rfl, rfl, rfl, rfl⟩
theorem tell_keep {i m h : Int} {r : Nat} (h0 : 0 ≤ x ∧ x < (n : Int)) (hl : 0 ≤ h ∧ h < (n : Int)) (ls : s.sg.length = n) (lr : s.rd.length = n) (lc : s.cm.length = n) (hx : hit s.cm x = true) : gi (tellM s i m r h).sg x = gi s.sg x ∧ gi (tellM s i m r h).rd x = gi s.rd x ∧ hit (tellM s i m r h).cm x = true ∧ (x ∉ s.qu → x ∉ (tellM s i m r h).qu) := by
  obtain ⟨e1, e2, e3, e4⟩ := step_same (s := s) (i := i) (h := h) (r := r)
  unfold tellM
  split
  · have := say_keep (s := stepM s i r h) (i := i) (m := m) h0 hl (by rw [e1]; exact ls) (by rw [e2]; exact lr) (by rw [e3]; exact lc) (by rw [e3]; exact hx)
    rw [e1, e2, e4] at this
    exact this
  · rw [e1, e2, e3, e4]
    exact ⟨rfl, rfl, hx, fun h => h⟩
theorem tell_old {i m h : Int} {r : Nat} (hl : 0 ≤ h ∧ h < (n : Int)) (lc : s.cm.length = n) {y : Int} (h0 : 0 ≤ y) (hy : hit (tellM s i m r h).cm y = true) (hq : y ∉ (tellM s i m r h).qu) : hit s.cm y = true ∧ y ∉ s.qu := by
  obtain ⟨e1, e2, e3, e4⟩ := step_same (s := s) (i := i) (h := h) (r := r)
  unfold tellM at hy hq
  split at hy
  · rename_i hf
    rw [if_pos hf] at hq
    cases hc : hit (stepM s i r h).cm h with
    | true =>
      rw [sayM_yes hc] at hy hq
      rw [e3] at hy
      rw [e4] at hq
      exact ⟨hy, hq⟩
    | false =>
      rw [say_cm (by rw [e3, lc]; exact hl) h0, e3] at hy
      rw [sayM_no hc] at hq
      have hq' : y ∉ s.qu ++ [h] := by rw [← e4]; exact hq
      simp only [List.mem_append, List.mem_singleton, not_or] at hq'
      refine ⟨?_, hq'.1⟩
      rcases Bool.or_eq_true_iff.1 hy with h | h
      · exact h
      · exact absurd (by simpa using h) hq'.2
  · rename_i hf
    rw [if_neg hf] at hq
    rw [e3] at hy
    rw [e4] at hq
    exact ⟨hy, hq⟩
theorem Mid.next {i m : Int} {j : Nat} (h : Mid T F n x i m j s) (hN : Nm T F n) {a : Nat} {R : RuleM} (hj : (usr T T.rules.length x)[j]? = some (a : Int)) (hr : T.rules[a]? = some R) : Mid T F n x i m (j + 1) (tellM s i m a R.head) := by
  obtain ⟨D, ha, hw, hc, h0, hq, hs, hi, hm, hD⟩ := h
  obtain ⟨b, R', e, hr', hk, hb⟩ := usr_at hj
  have e : a = b := by omega
  subst e
  rw [hr] at hr'
  cases hr'
  have hh := hN.head R (List.mem_of_getElem? hr)
  have htake : (usr T T.rules.length x).take (j + 1) = (usr T T.rules.length x).take j ++ [(a : Int)] := take_one hj
  have hnew : D a x = false := by
    cases hd : D a x with
    | false => rfl
    | true =>
      have h1 := (hD a).1 hd
      have h2 := usr_nodup (T := T) (k := T.rules.length) (z := x)
      rw [← List.take_append_drop (j + 1) (usr T T.rules.length x), htake] at h2
      have h3 := (List.nodup_append.1 (List.nodup_append.1 h2).1).2.2 _ h1 (a : Int) (by simp)
      exact absurd rfl h3
  have hal := ha.tell hN hr hk hb hnew hi hs hc hq hm
  obtain ⟨k1, k2, k3, k4⟩ := tell_keep (i := i) (m := m) (r := a) h0 hh ha.st.lsg ha.st.lrd ha.st.lcm hc
  refine ⟨_, hal, fun y hy0 hy hyq hyx r' R' hr' hk' hb' => ?_, k3, h0, k4 hq, k1.trans hs, hi, k2.trans hm, fun b => ?_⟩
  · obtain ⟨o1, o2⟩ := tell_old hh ha.st.lcm hy0 hy hyq
    rw [add_ne hyx]
    exact hw y hy0 o1 o2 hyx r' R' hr' hk' hb'
  · rw [htake, List.mem_append, List.mem_singleton, ← hD b]
    by_cases e : b = a
    · subst e; rw [add_same]; simp
    · rw [add_other e]
      constructor
      · exact .inl
      · rintro (h | h)
        · exact h
        · exact absurd (by omega) e
theorem Mid.done {i m : Int} {j : Nat} (h : Mid T F n x i m j s) (hj : (usr T T.rules.length x).length ≤ j) : Betw T F n s := by
  obtain ⟨D, ha, hw, hc, h0, hq, hs, hi, hm, hD⟩ := h
  refine ⟨D, ha, fun y hy0 hy hyq _ r R hr hk hb => ?_⟩
  by_cases e : y = x
  · subst e
    rw [hD, List.take_of_length_le hj, usr_mem]
    exact ⟨(List.getElem?_eq_some_iff.1 hr).1, useB_of hr hk hb⟩
  · exact hw y hy0 hy hyq e r R hr hk hb
/-- All is told. -/
structure Fin (T : Th) (F : List Int) (n : Nat) (sg rd : List Int) : Prop where
  ls : sg.length = n
  lr : rd.length = n
  three : ∀ q : Nat, q < n → sg.getD q 0 = 0 ∨ sg.getD q 0 = 1 ∨ sg.getD q 0 = 2
  pd : ∀ q : Nat, q < n → (sg.getD q 0 = 1 ↔ PD T F q)
  md : ∀ q : Nat, q < n → (sg.getD q 0 = 2 ↔ MD T F q)
  rs : ∀ q : Nat, q < n → (rd.getD q 0 = 0 ↔ sg.getD q 0 = 0) ∧ 0 ≤ rd.getD q 0 ∧ (1 < rd.getD q 0 → ∃ x : Nat, x < n ∧ rd.getD x 0 = rd.getD q 0 - 1)
theorem Betw.fin (h : Betw T F n s) (hN : Nm T F n) (hq : s.qu = []) : Fin T F n s.sg s.rd := by
  obtain ⟨D, ha, hw⟩ := h
  have hall : ∀ (y : Int), 0 ≤ y ∧ y < (n : Int) → ∀ v, v ≠ 0 → gi s.sg y = v → ∀ (r : Nat) R, T.rules[r]? = some R → R.kind = 1 → y ∈ R.body → D r y = true := by
    intro y hy v hv he r R hr hk hb
    obtain ⟨a, han, ea, hsa⟩ := sg_nat ha.st hy he
    refine hw y hy.1 ?_ (by rw [hq]; simp) (fun h => h) r R hr hk hb
    have := (ha.st.cs a han).2 (by rw [hsa]; exact hv)
    rw [ea]; unfold hit; simpa using this
  have hcame : ∀ q : Nat, q < n → s.cm.getD q false = true → s.sg.getD q 0 = 1 ∨ s.sg.getD q 0 = 2 := fun q hq hc => (ha.st.three q hq).resolve_left ((ha.st.cs q hq).1 hc)
  have hpd : ∀ y, PD T F y → (0 ≤ y ∧ y < (n : Int)) → gi s.sg y = 1 := by
    intro y hy
    induction hy with
    | fact hf =>
      rename_i q
      intro h0
      obtain ⟨a, rfl⟩ := Int.eq_ofNat_of_zero_le h0.1
      have hc := ha.fc _ hf
      have han : a < n := by omega
      rcases hcame a han (by unfold hit at hc; simpa using hc) with h | h
      · rw [gi_nat]; exact h
      · exact absurd hf (ha.st.sm a han h).out.1
    | rule hr hk hb ih =>
      rename_i R
      intro h0
      obtain ⟨r, hrl, hre⟩ := List.mem_iff_getElem.1 hr
      have hre : T.rules[r]? = some R := by rw [List.getElem?_eq_getElem hrl, hre]
      have hms := ha.st.ms r R hre hk
      have hz : R.body.countP (fun y => !(D r y && decide (gi s.sg y = 1))) = 0 := by
        rw [List.countP_eq_zero]
        intro y hy
        have hy0 := hN.body R hr y hy
        have h1 := ih y hy hy0
        have h2 := hall y hy0 1 (by decide) h1 r R hre hk hy
        rw [h1, h2]; simp
      have hc := ha.cp r R hre hk (by rw [hms, hz]; rfl)
      have han : R.head.toNat < n := by omega
      have e : ((R.head.toNat : Nat) : Int) = R.head := by omega
      rcases hcame R.head.toNat han hc with h | h
      · exact h
      · have hmd := ha.st.sm _ han h
        rw [e] at hmd
        exact absurd hmd (pd_md (.rule hr hk hb))
  have hmd : ∀ y, MD T F y → (0 ≤ y ∧ y < (n : Int)) → gi s.sg y = 2 := by
    intro y hy
    induction hy with
    | mk f h1 h2 h3 ih =>
      rename_i q
      intro h0
      obtain ⟨a, rfl⟩ := Int.eq_ofNat_of_zero_le h0.1
      have han : a < n := by omega
      have hop := ha.st.op a han
      have hz : (List.range T.rules.length).countP (fun r => openB T s.rf (a : Int) r) = 0 := by
        rw [List.countP_eq_zero]
        intro r hr
        have hrl := List.mem_range.1 hr
        show ¬ openB T s.rf (a : Int) r = true
        unfold openB
        rw [List.getElem?_eq_getElem hrl]
        simp only [Bool.and_eq_true, decide_eq_true_eq, Bool.not_eq_true']
        rintro ⟨⟨hk, he⟩, hf⟩
        have hR : T.rules[r]? = some T.rules[r] := List.getElem?_eq_getElem hrl
        have hmem := List.mem_of_getElem? hR
        have hb := h2 _ hmem hk he
        have hb0 := hN.body _ hmem _ hb
        have hv := ih _ hmem hk he hb0
        have hd := hall _ hb0 2 (by decide) hv r _ hR hk hb
        rw [(ha.st.rf r _ hR hk).2 ⟨_, hb, hd, hv⟩] at hf
        cases hf
      have hc := ha.cn a han (by rw [hop, hz]; rfl)
      rcases hcame a han hc with h | h
      · exact absurd (.mk f h1 h2 h3) (pd_md (ha.st.sp a han h))
      · rw [gi_nat]; exact h
  refine ⟨ha.st.lsg, ha.st.lrd, ha.st.three, fun q hq => ⟨ha.st.sp q hq, fun h => ?_⟩, fun q hq => ⟨ha.st.sm q hq, fun h => ?_⟩, ha.st.rs⟩
  · have := hpd _ h (by omega); rwa [gi_nat] at this
  · have := hmd _ h (by omega); rwa [gi_nat] at this
/-- What there is to do does not grow by saying. -/
theorem say_sum {l i m : Int} (hl : 0 ≤ l ∧ l < s.cm.length) : lackN (sayM s l i m).cm + (sayM s l i m).qu.length = lackN s.cm + s.qu.length := by
  cases hc : hit s.cm l with
  | true => rw [sayM_yes hc]
  | false =>
    rw [sayM_no hc]
    show lackN (s.cm.set l.toNat true) + (s.qu ++ [l]).length = _
    have := lack_set (R := s.cm) (n := l.toNat) (by omega) hc
    simp
    omega
theorem tell_sum {i m h : Int} {r : Nat} (hl : 0 ≤ h ∧ h < s.cm.length) : lackN (tellM s i m r h).cm + (tellM s i m r h).qu.length = lackN s.cm + s.qu.length := by
  obtain ⟨e1, e2, e3, e4⟩ := step_same (s := s) (i := i) (h := h) (r := r)
  unfold tellM
  split
  · rw [say_sum (by rw [e3]; exact hl), e3, e4]
  · rw [e3, e4]
end
end Go.Proofs.Ytdholifacnnjcaa
