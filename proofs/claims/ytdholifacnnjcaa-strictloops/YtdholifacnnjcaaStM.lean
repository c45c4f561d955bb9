/- Strict proof, plainly: what has +D, what has -D, and a worklist that tells them. No Go in sight. -/
import Derived.Test.YtdholifacnnjcaaConeM
namespace Go.Proofs.Ytdholifacnnjcaa

inductive PD (T : Th) (F : List Int) : Int → Prop
  | fact {q : Int} : q ∈ F → PD T F q
  | rule {r : RuleM} : r ∈ T.rules → r.kind = 1 → (∀ x ∈ r.body, PD T F x) → PD T F r.head
inductive MD (T : Th) (F : List Int) : Int → Prop
  | mk {q : Int} (f : RuleM → Int) : q ∉ F → (∀ r ∈ T.rules, r.kind = 1 → r.head = q → f r ∈ r.body) → (∀ r ∈ T.rules, r.kind = 1 → r.head = q → MD T F (f r)) → MD T F q
section
variable {T : Th} {F G : List Int}
theorem pd_md {q : Int} (h : PD T F q) : MD T F q → False := by
  induction h with
  | fact hq => rintro ⟨f, h1, -, -⟩; exact h1 hq
  | rule hr hk _ ih => rintro ⟨f, -, h2, h3⟩; exact ih _ (h2 _ hr hk rfl) (h3 _ hr hk rfl)
theorem MD.of {q : Int} (h1 : q ∉ F) (h2 : ∀ r ∈ T.rules, r.kind = 1 → r.head = q → ∃ x ∈ r.body, MD T F x) : MD T F q := by
  classical
  have : ∀ r : RuleM, ∃ x : Int, r ∈ T.rules → r.kind = 1 → r.head = q → x ∈ r.body ∧ MD T F x := by
    intro r
    by_cases h : r ∈ T.rules ∧ r.kind = 1 ∧ r.head = q
    · obtain ⟨x, hx, hm⟩ := h2 r h.1 h.2.1 h.2.2
      exact ⟨x, fun _ _ _ => ⟨hx, hm⟩⟩
    · exact ⟨0, fun a b c => absurd ⟨a, b, c⟩ h⟩
  exact .mk (fun r => Classical.choose (this r)) h1 (fun r a b c => (Classical.choose_spec (this r) a b c).1) (fun r a b c => (Classical.choose_spec (this r) a b c).2)
theorem MD.out {q : Int} (h : MD T F q) : q ∉ F ∧ ∀ r ∈ T.rules, r.kind = 1 → r.head = q → ∃ x ∈ r.body, MD T F x := by
  obtain ⟨f, h1, h2, h3⟩ := h
  exact ⟨h1, fun r a b c => ⟨f r, h2 r a b c, h3 r a b c⟩⟩
theorem PD.out {q : Int} (h : PD T F q) : q ∈ F ∨ ∃ r ∈ T.rules, r.kind = 1 ∧ r.head = q ∧ ∀ x ∈ r.body, PD T F x := by
  cases h with
  | fact hq => exact .inl hq
  | rule hr hk hb => exact .inr ⟨_, hr, hk, rfl, hb⟩
theorem PD.more {q : Int} (h : PD T F q) (hs : ∀ x ∈ F, x ∈ G) : PD T G q := by
  induction h with
  | fact hq => exact .fact (hs _ hq)
  | rule hr hk _ ih => exact .rule hr hk ih
theorem MD.less {q : Int} (h : MD T G q) (hs : ∀ x ∈ F, x ∈ G) : MD T F q := by
  induction h with
  | mk f h1 h2 _ ih => exact .mk f (fun hq => h1 (hs _ hq)) h2 ih
end

/-- All that the worklist keeps. -/
structure Cs where
  sg : List Int
  rd : List Int
  cm : List Bool
  qu : List Int
  ms : List Int
  rf : List Bool
  op : List Int
abbrev gi (l : List Int) (q : Int) : Int := l.getD q.toNat 0
def sayM (s : Cs) (l i n : Int) : Cs := if hit s.cm l then s else { s with cm := s.cm.set l.toNat true, qu := s.qu ++ [l], sg := s.sg.set l.toNat i, rd := s.rd.set l.toNat n }
def metM (s : Cs) (r : Nat) : Cs := { s with ms := s.ms.set r (s.ms.getD r 0 - 1) }
def refM (s : Cs) (r : Nat) (h : Int) : Cs := if s.rf.getD r false then s else { s with rf := s.rf.set r true, op := s.op.set h.toNat (gi s.op h - 1) }
/-- Does the head follow? -/
def folM (s : Cs) (i : Int) (r : Nat) (h : Int) : Bool := if i = 1 then decide (s.ms.getD r 0 - 1 = 0) else !s.rf.getD r false && decide (gi s.op h - 1 = 0)
def stepM (s : Cs) (i : Int) (r : Nat) (h : Int) : Cs := if i = 1 then metM s r else refM s r h
def tellM (s : Cs) (i : Int) (n : Int) (r : Nat) (h : Int) : Cs := if folM s i r h then sayM (stepM s i r h) h i n else stepM s i r h
/-- Is it a strict rule for q that no one has refuted? -/
def openB (T : Th) (rf : List Bool) (q : Int) (r : Nat) : Bool := match T.rules[r]? with
  | some x => decide (x.kind = 1) && decide (x.head = q) && !rf.getD r false
  | none => false
/-- What is so of it, D saying which rules were told of which literals. -/
structure St (T : Th) (F : List Int) (n : Nat) (D : Nat → Int → Bool) (s : Cs) : Prop where
  lsg : s.sg.length = n
  lrd : s.rd.length = n
  lcm : s.cm.length = n
  lop : s.op.length = n
  lms : s.ms.length = T.rules.length
  lrf : s.rf.length = T.rules.length
  three : ∀ q : Nat, q < n → s.sg.getD q 0 = 0 ∨ s.sg.getD q 0 = 1 ∨ s.sg.getD q 0 = 2
  cs : ∀ q : Nat, q < n → (s.cm.getD q false = true ↔ s.sg.getD q 0 ≠ 0)
  rs : ∀ q : Nat, q < n → (s.rd.getD q 0 = 0 ↔ s.sg.getD q 0 = 0) ∧ 0 ≤ s.rd.getD q 0 ∧ (1 < s.rd.getD q 0 → ∃ x : Nat, x < n ∧ s.rd.getD x 0 = s.rd.getD q 0 - 1)
  sp : ∀ q : Nat, q < n → s.sg.getD q 0 = 1 → PD T F q
  sm : ∀ q : Nat, q < n → s.sg.getD q 0 = 2 → MD T F q
  ms : ∀ (r : Nat) x, T.rules[r]? = some x → x.kind = 1 → s.ms.getD r 0 = ((x.body.countP fun y => !(D r y && decide (gi s.sg y = 1)) : Nat) : Int)
  rf : ∀ (r : Nat) x, T.rules[r]? = some x → x.kind = 1 → (s.rf.getD r false = true ↔ ∃ y ∈ x.body, D r y = true ∧ gi s.sg y = 2)
  op : ∀ q : Nat, q < n → s.op.getD q 0 = (((List.range T.rules.length).countP fun r => openB T s.rf q r : Nat) : Int)
  dc : ∀ (r : Nat) (y : Int), D r y = true → hit s.cm y = true
  qc : ∀ x ∈ s.qu, 0 ≤ x ∧ x < (n : Int) ∧ hit s.cm x = true
  qn : s.qu.Nodup
  qd : ∀ y ∈ s.qu, ∀ r, D r y = false
/-- What must have come. -/
def Cp (T : Th) (s : Cs) : Prop := ∀ (r : Nat) x, T.rules[r]? = some x → x.kind = 1 → s.ms.getD r 0 = 0 → hit s.cm x.head = true
def Cn (n : Nat) (s : Cs) : Prop := ∀ q : Nat, q < n → s.op.getD q 0 = 0 → s.cm.getD q false = true
def Fc (F : List Int) (s : Cs) : Prop := ∀ q ∈ F, hit s.cm q = true
/-- What rules and facts name is there. -/
structure Nm (T : Th) (F : List Int) (n : Nat) : Prop where
  head : ∀ r ∈ T.rules, 0 ≤ r.head ∧ r.head < (n : Int)
  body : ∀ r ∈ T.rules, ∀ x ∈ r.body, 0 ≤ x ∧ x < (n : Int)
  nd : ∀ r ∈ T.rules, r.body.Nodup
  fact : ∀ q ∈ F, 0 ≤ q ∧ q < (n : Int)
section
variable {T : Th} {F : List Int} {n : Nat} {D : Nat → Int → Bool} {s : Cs}
theorem gi_set {l : List Int} {a q v : Int} (ha : 0 ≤ a ∧ a < l.length) (hq : 0 ≤ q) : gi (l.set a.toNat v) q = if q = a then v else gi l q := by
  unfold gi
  rw [List.getD_eq_getElem?_getD, List.getD_eq_getElem?_getD, List.getElem?_set]
  by_cases e : q = a
  · subst e
    have : q.toNat < l.length := by omega
    simp [this]
  · have : ¬ a.toNat = q.toNat := by omega
    simp [this, e]
theorem getD_set {α : Type} {l : List α} {a q : Nat} {v d : α} (ha : a < l.length) : (l.set a v).getD q d = if q = a then v else l.getD q d := by
  rw [List.getD_eq_getElem?_getD, List.getD_eq_getElem?_getD, List.getElem?_set]
  by_cases e : a = q
  · subst e; simp [ha]
  · have : ¬ q = a := fun x => e x.symm
    simp [e, this]
theorem sayM_yes {l i m : Int} (h : hit s.cm l = true) : sayM s l i m = s := by unfold sayM; rw [if_pos h]
theorem sayM_no {l i m : Int} (h : hit s.cm l = false) : sayM s l i m = { s with cm := s.cm.set l.toNat true, qu := s.qu ++ [l], sg := s.sg.set l.toNat i, rd := s.rd.set l.toNat m } := by unfold sayM; rw [if_neg (by rw [h]; decide)]
theorem say_ms {l i m : Int} : (sayM s l i m).ms = s.ms ∧ (sayM s l i m).rf = s.rf ∧ (sayM s l i m).op = s.op := by
  unfold sayM; split <;> exact ⟨rfl, rfl, rfl⟩
theorem say_cm {l i m : Int} (hl : 0 ≤ l ∧ l < s.cm.length) {y : Int} (hy : 0 ≤ y) : hit (sayM s l i m).cm y = (hit s.cm y || decide (y = l)) := by
  cases h : hit s.cm l with
  | true =>
    rw [sayM_yes h]
    by_cases e : y = l
    · subst e; rw [h]; rfl
    · simp [e]
  | false =>
    rw [sayM_no h]
    exact hit_set hl hy
theorem hit_neg {R : List Bool} {y : Int} (h : hit R y = true) : y.toNat < R.length := by
  apply Classical.byContradiction
  intro hn
  unfold hit at h
  rw [List.getD_eq_getElem?_getD, List.getElem?_eq_none (by omega)] at h
  cases h
theorem St.say (h : St T F n D s) {l i m : Int} (hl : 0 ≤ l ∧ l < (n : Int)) (hi : i = 1 ∨ i = 2) (hp : i = 1 → hit s.cm l = true ∨ PD T F l) (hm : i = 2 → hit s.cm l = true ∨ MD T F l) (h1 : 1 ≤ m) (hg : 1 < m → ∃ x : Nat, x < n ∧ s.rd.getD x 0 = m - 1) (hD : ∀ r y, D r y = true → 0 ≤ y) : St T F n D (sayM s l i m) := by
  cases hc : hit s.cm l with
  | true => rw [sayM_yes hc]; exact h
  | false =>
    have hln : l.toNat < n := by omega
    have hz : s.sg.getD l.toNat 0 = 0 := by
      apply Classical.byContradiction
      intro hn
      have := (h.cs l.toNat hln).2 hn
      unfold hit at hc
      rw [this] at hc
      cases hc
    have hPD : i = 1 → PD T F l := fun e => (hp e).resolve_left (by rw [hc]; decide)
    have hMD : i = 2 → MD T F l := fun e => (hm e).resolve_left (by rw [hc]; decide)
    have hDl : ∀ r y, D r y = true → y ≠ l := by
      intro r y hd e
      subst e
      rw [h.dc r y hd] at hc
      cases hc
    have hsg : ∀ q : Nat, (s.sg.set l.toNat i).getD q 0 = if q = l.toNat then i else s.sg.getD q 0 := fun q => getD_set (by rw [h.lsg]; exact hln)
    have hcm : ∀ q : Nat, (s.cm.set l.toNat true).getD q false = if q = l.toNat then true else s.cm.getD q false := fun q => getD_set (by rw [h.lcm]; exact hln)
    have hrd : ∀ q : Nat, (s.rd.set l.toNat m).getD q 0 = if q = l.toNat then m else s.rd.getD q 0 := fun q => getD_set (by rw [h.lrd]; exact hln)
    have hmono : ∀ y, hit s.cm y = true → hit (s.cm.set l.toNat true) y = true := by
      intro y hy
      unfold hit at hy ⊢
      rw [hcm, hy]
      split <;> rfl
    have hsame : ∀ (r : Nat) (y : Int), D r y = true → gi (s.sg.set l.toNat i) y = gi s.sg y := by
      intro r y hd
      rw [gi_set (by rw [h.lsg]; exact hl) (hD r y hd), if_neg (hDl r y hd)]
    rw [sayM_no hc]
    refine ⟨by simp [h.lsg], by simp [h.lrd], by simp [h.lcm], h.lop, h.lms, h.lrf, fun q hq => ?_, fun q hq => ?_, fun q hq => ?_, fun q hq => ?_, fun q hq => ?_, fun r x hr hk => ?_, fun r x hr hk => ?_, h.op, fun r y hd => hmono y (h.dc r y hd), fun x hx => ?_, ?_, fun y hy r => ?_⟩
    · show (s.sg.set l.toNat i).getD q 0 = 0 ∨ (s.sg.set l.toNat i).getD q 0 = 1 ∨ (s.sg.set l.toNat i).getD q 0 = 2
      rw [hsg]
      split
      · exact .inr hi
      · exact h.three q hq
    · show (s.cm.set l.toNat true).getD q false = true ↔ (s.sg.set l.toNat i).getD q 0 ≠ 0
      rw [hsg, hcm]
      split
      · constructor
        · intro _; rcases hi with rfl | rfl <;> decide
        · intro _; rfl
      · exact h.cs q hq
    · show ((s.rd.set l.toNat m).getD q 0 = 0 ↔ (s.sg.set l.toNat i).getD q 0 = 0) ∧ 0 ≤ (s.rd.set l.toNat m).getD q 0 ∧ (1 < (s.rd.set l.toNat m).getD q 0 → ∃ x : Nat, x < n ∧ (s.rd.set l.toNat m).getD x 0 = (s.rd.set l.toNat m).getD q 0 - 1)
      have hkeep : ∀ v : Int, 1 < v → (∃ x : Nat, x < n ∧ s.rd.getD x 0 = v - 1) → ∃ x : Nat, x < n ∧ (s.rd.set l.toNat m).getD x 0 = v - 1 := by
        rintro v hv ⟨x, hx, e⟩
        refine ⟨x, hx, ?_⟩
        rw [hrd, if_neg]
        · exact e
        · intro ex
          subst ex
          have := (h.rs l.toNat hln).1.2 hz
          omega
      rw [hsg, hrd q]
      split
      · exact ⟨⟨fun e => absurd e (by clear hg hkeep; omega), fun e => by rcases hi with rfl | rfl <;> cases e⟩, by clear hg hkeep; omega, fun hv => hkeep m hv (hg hv)⟩
      · exact ⟨(h.rs q hq).1, (h.rs q hq).2.1, fun hv => hkeep _ hv ((h.rs q hq).2.2 hv)⟩
    · show (s.sg.set l.toNat i).getD q 0 = 1 → _
      rw [hsg]
      split
      · rename_i e
        intro e1
        have : (q : Int) = l := by omega
        rw [this]
        exact hPD e1
      · exact h.sp q hq
    · show (s.sg.set l.toNat i).getD q 0 = 2 → _
      rw [hsg]
      split
      · rename_i e
        intro e1
        have : (q : Int) = l := by omega
        rw [this]
        exact hMD e1
      · exact h.sm q hq
    · show s.ms.getD r 0 = _
      rw [h.ms r x hr hk]
      congr 1
      apply List.countP_congr
      intro y _
      cases hd : D r y with
      | false => simp
      | true =>
        have e : gi (s.sg.set l.toNat i) y = gi s.sg y := hsame r y hd
        show _ ↔ (!(true && decide (gi (s.sg.set l.toNat i) y = 1))) = true
        rw [e]
    · show s.rf.getD r false = true ↔ _
      rw [h.rf r x hr hk]
      constructor
      · rintro ⟨y, a, b, c⟩; exact ⟨y, a, b, by show gi (s.sg.set l.toNat i) y = 2; rw [hsame r y b]; exact c⟩
      · rintro ⟨y, a, b, c⟩; exact ⟨y, a, b, by rw [← hsame r y b]; exact c⟩
    · have hx' : x ∈ s.qu ++ [l] := hx
      rcases List.mem_append.1 hx' with hx' | hx'
      · obtain ⟨a, b, c⟩ := h.qc x hx'
        exact ⟨a, b, hmono x c⟩
      · have : x = l := by simpa using hx'
        subst this
        refine ⟨hl.1, hl.2, ?_⟩
        show (s.cm.set x.toNat true).getD x.toNat false = true
        rw [hcm, if_pos rfl]
    · show (s.qu ++ [l]).Nodup
      rw [List.nodup_append]
      refine ⟨h.qn, by simp, fun a ha b hb e => ?_⟩
      have : b = l := by simpa using hb
      subst e
      subst this
      rw [(h.qc a ha).2.2] at hc
      cases hc
    · have hy' : y ∈ s.qu ++ [l] := hy
      rcases List.mem_append.1 hy' with hy' | hy'
      · exact h.qd y hy' r
      · have : y = l := by simpa using hy'
        subst this
        cases hd : D r y with
        | false => rfl
        | true => exact absurd rfl (hDl r y hd)
theorem Cp.say (h : Cp T s) (hn : ∀ r ∈ T.rules, 0 ≤ r.head) {l i m : Int} (hl : 0 ≤ l ∧ l < s.cm.length) : Cp T (sayM s l i m) := by
  intro r x hr hk h0
  rw [say_ms.1] at h0
  rw [say_cm hl (hn x (List.mem_of_getElem? hr)), h r x hr hk h0]
  rfl
theorem Cn.say (h : Cn n s) {l i m : Int} (hl : 0 ≤ l ∧ l < s.cm.length) : Cn n (sayM s l i m) := by
  intro q hq h0
  rw [say_ms.2.2] at h0
  have h1 := h q hq h0
  have := say_cm (s := s) (i := i) (m := m) hl (y := (q : Int)) (by omega)
  unfold hit at this
  simp only [Int.toNat_natCast] at this
  rw [this, h1]
  rfl
theorem Fc.say (h : Fc F s) (hn : ∀ q ∈ F, 0 ≤ q) {l i m : Int} (hl : 0 ≤ l ∧ l < s.cm.length) : Fc F (sayM s l i m) := by
  intro q hq
  rw [say_cm hl (hn q hq), h q hq]
  rfl
end
end Go.Proofs.Ytdholifacnnjcaa
