/- What a reader does hangs neither on a sign that was kept, nor on how much room there is, while there is enough. -/
import Derived.Test.YthnjmfkiohgkkaaGreatDoorMoves
namespace Go.Proofs.YthnjmfkiohgkkaaGreatDoor.Sy

/-- Whether it is full stays as it was. -/
def Kf {α : Type} (f : M α) : Prop := ∀ s a t, f s = .ok a t → t.full = s.full
/-- It goes on only where there is room. -/
def Ef {α : Type} (f : M α) : Prop := ∀ s a t, f s = .ok a t → s.full = false

theorem Kf.pure {α : Type} (a : α) : Kf (Pure.pure a : M α) := by intro s a t h; cases h; rfl
theorem Kf.fail {α : Type} (e : Int) : Kf (failM e : M α) := by intro s a t h; cases h
theorem Kf.ask {α : Type} (q : RS → α) : Kf (askM q) := by intro s a t h; cases h; rfl
theorem Kf.set (q : RS → RS) (h : ∀ s, (q s).full = s.full) : Kf (setM q) := by intro s a t e; cases e; exact h s
theorem Kf.bind {α β : Type} {x : M α} {f : α → M β} (hx : Kf x) (hf : ∀ a, Kf (f a)) : Kf (x >>= f) := by
  intro s b t h
  obtain ⟨a, u, h1, h2⟩ := bind_ok.1 h
  exact (hf a _ _ _ h2).trans (hx _ _ _ h1)
theorem Kf.ite {α : Type} {x y : M α} (c : Bool) (hx : Kf x) (hy : Kf y) : Kf (if c = true then x else y) := by
  cases c
  · simpa using hy
  · simpa using hx
theorem Ef.bind {α β : Type} {x : M α} {f : α → M β} (hx : Ef x) : Ef (x >>= f) := by
  intro s b t h
  obtain ⟨a, u, h1, _⟩ := bind_ok.1 h
  exact hx _ _ _ h1
theorem Ef.bind' {α β : Type} {x : M α} {f : α → M β} (hx : Kf x) (hf : ∀ a, Ef (f a)) : Ef (x >>= f) := by
  intro s b t h
  obtain ⟨a, u, h1, h2⟩ := bind_ok.1 h
  rw [← hx _ _ _ h1]
  exact hf a _ _ _ h2
theorem Ef.ite {α : Type} {x y : M α} (c : Bool) (hx : Ef x) (hy : Ef y) : Ef (if c = true then x else y) := by
  cases c
  · simpa using hy
  · simpa using hx
theorem Ef.fail {α : Type} (e : Int) : Ef (failM e : M α) := by intro s a t h; cases h

/-- It hangs not on the sign that was kept. -/
def Ign {α : Type} (f : M α) : Prop := ∀ s a t m, f s = .ok a t → ∃ m', f { s with minus := m } = .ok a { t with minus := m' }
theorem Ign.pure {α : Type} (a : α) : Ign (Pure.pure a : M α) := by intro s a t m h; cases h; exact ⟨m, rfl⟩
theorem Ign.fail {α : Type} (e : Int) : Ign (failM e : M α) := by intro s a t m h; cases h
theorem Ign.ask {α : Type} (q : RS → α) (hq : ∀ s m, q { s with minus := m } = q s) : Ign (askM q) := by
  intro s a t m h
  cases h
  exact ⟨m, by rw [ask_run, hq]⟩
theorem Ign.bind {α β : Type} {x : M α} {f : α → M β} (hx : Ign x) (hf : ∀ a, Ign (f a)) : Ign (x >>= f) := by
  intro s b t m h
  obtain ⟨a, u, h1, h2⟩ := bind_ok.1 h
  obtain ⟨m1, e1⟩ := hx _ _ _ m h1
  obtain ⟨m2, e2⟩ := hf a _ _ _ m1 h2
  exact ⟨m2, by rw [bind_run e1, e2]⟩
theorem Ign.ite {α : Type} {x y : M α} (c : Bool) (hx : Ign x) (hy : Ign y) : Ign (if c = true then x else y) := by
  cases c
  · simpa using hy
  · simpa using hx
theorem Ign.full (b : RS → Bool) (hb : ∀ s m, b { s with minus := m } = b s) : Ign (setM fun s => { s with full := b s }) := by
  intro s a t m h
  cases h
  exact ⟨m, by rw [set_run]; simp only [hb]⟩

section
variable (F : Fns) (K : Toks)
theorem kf_take : Kf (takeM K) := by
  intro s a t h
  unfold takeM at h
  split at h
  · cases h
  · cases h; rfl
theorem ef_take : Ef (takeM K) := by
  intro s a t h
  unfold takeM at h
  split at h
  · cases h
  · next hf => simpa using hf
theorem ign_take : Ign (takeM K) := by
  intro s a t m h
  unfold takeM at h ⊢
  split at h
  · cases h
  · next hf => cases h; exact ⟨m, by rw [if_neg hf]⟩

theorem kf_hasMark (t : Bytes) : Kf (hasMark K t) := .bind (.ask _) fun b => .ite b (.bind (kf_take K) fun _ => .pure _) (.pure _)
theorem kf_hasWord (t : Bytes) : Kf (hasWord K t) := .bind (.ask _) fun b => .ite b (.bind (kf_take K) fun _ => .pure _) (.pure _)
theorem kf_wantMark (t : Bytes) : Kf (wantMark K t) := .bind (kf_hasMark K t) fun b => .ite b (.pure _) (.fail _)
theorem kf_wantWord (t : Bytes) : Kf (wantWord K t) := .bind (kf_hasWord K t) fun b => .ite b (.pure _) (.fail _)
theorem ign_hasMark (t : Bytes) : Ign (hasMark K t) := .bind (.ask _ fun _ _ => rfl) fun b => .ite b (.bind (ign_take K) fun _ => .pure _) (.pure _)
theorem ign_hasWord (t : Bytes) : Ign (hasWord K t) := .bind (.ask _ fun _ _ => rfl) fun b => .ite b (.bind (ign_take K) fun _ => .pure _) (.pure _)
theorem ign_wantMark (t : Bytes) : Ign (wantMark K t) := .bind (ign_hasMark K t) fun b => .ite b (.pure _) (.fail _)
theorem ign_wantWord (t : Bytes) : Ign (wantWord K t) := .bind (ign_hasWord K t) fun b => .ite b (.pure _) (.fail _)

theorem add_room {α : Type} {k : Nat} {most : Int} {read : M α} (hr : Ef read) {s t : RS} {a : α} (h : addM k most read s = .ok a t) : s.full = false ∧ (k : Int) < most := by
  have h1 : read { s with full := s.full || decide (most ≤ (k : Int)) } = .ok a t := h
  have h2 := hr _ _ _ h1
  simp only [Bool.or_eq_false_iff, decide_eq_false_iff_not] at h2
  exact ⟨h2.1, by omega⟩
theorem kf_add {α : Type} (k : Nat) (most : Int) {read : M α} (hr : Ef read) (hk : Kf read) : Kf (addM k most read) := by
  intro s a t h
  have h0 := add_room hr h
  have h1 : read { s with full := s.full || decide (most ≤ (k : Int)) } = .ok a t := h
  have h2 := hk _ _ _ h1
  have h3 := hr _ _ _ h1
  rw [h2, h3, h0.1]
theorem ef_add {α : Type} (k : Nat) (most : Int) {read : M α} (hr : Ef read) : Ef (addM k most read) := fun _ _ _ h => (add_room hr h).1
theorem ign_add {α : Type} (k : Nat) (most : Int) {read : M α} (hr : Ign read) : Ign (addM k most read) := .bind (.full _ fun _ _ => rfl) fun _ => hr
theorem add_swap {α : Type} {k k' : Nat} {most most' : Int} {read : M α} (hr : Ef read) {s t : RS} {a : α} (h : addM k most read s = .ok a t) (hk : (k' : Int) < most') : addM k' most' read s = .ok a t := by
  have h0 := add_room hr h
  have h1 : read { s with full := s.full || decide (most ≤ (k : Int)) } = .ok a t := h
  have e1 : decide (most ≤ (k : Int)) = false := by simp; omega
  have e2 : decide (most' ≤ (k' : Int)) = false := by simp; omega
  show read { s with full := s.full || decide (most' ≤ (k' : Int)) } = .ok a t
  rw [e2]
  rw [e1] at h1
  exact h1

theorem kf_loop {α : Type} (most : Int) {read : M α} {more : M Bool} (hr : Ef read) (hk : Kf read) (hm : Kf more) : ∀ (f : Nat) (acc : List α), Kf (loopM most read more f acc)
  | 0, _ => by intro s a t h; cases h
  | f + 1, acc => .bind hm fun b => .ite b (.bind (kf_add _ _ hr hk) fun x => kf_loop most hr hk hm f (acc ++ [x])) (.pure _)
theorem kf_list {α : Type} (most : Int) {read : M α} {more : M Bool} (hr : Ef read) (hk : Kf read) (hm : Kf more) : Kf (listM K most read more) := .bind (kf_add _ _ hr hk) fun x => kf_loop most hr hk hm _ [x]
theorem ef_list {α : Type} (most : Int) {read : M α} {more : M Bool} (hr : Ef read) : Ef (listM K most read more) := .bind (ef_add _ _ hr)
theorem ign_loop {α : Type} (most : Int) {read : M α} {more : M Bool} (hr : Ign read) (hm : Ign more) : ∀ (f : Nat) (acc : List α), Ign (loopM most read more f acc)
  | 0, _ => by intro s a t m h; cases h
  | f + 1, acc => .bind hm fun b => .ite b (.bind (ign_add _ _ hr) fun x => ign_loop most hr hm f (acc ++ [x])) (.pure _)
theorem ign_list {α : Type} (most : Int) {read : M α} {more : M Bool} (hr : Ign read) (hm : Ign more) : Ign (listM K most read more) := .bind (ign_add _ _ hr) fun x => ign_loop most hr hm _ [x]

theorem loop_ge' {α : Type} {most : Int} {read : M α} {more : M Bool} : ∀ (f : Nat) (acc : List α) (s t : RS) (l : List α), loopM most read more f acc s = .ok l t → acc.length ≤ l.length
  | 0, _, _, _, _, h => by cases h
  | f + 1, acc, s, t, l, h => by
    unfold loopM at h
    obtain ⟨b, u, h1, h2⟩ := bind_ok.1 h
    cases b with
    | false => simp at h2; cases h2; exact Nat.le_refl _
    | true =>
      simp only [if_true] at h2
      obtain ⟨x, v, h3, h4⟩ := bind_ok.1 h2
      have := loop_ge' f _ _ _ _ h4
      simp at this
      omega
theorem loop_swap {α : Type} {most most' : Int} {read : M α} {more : M Bool} (hr : Ef read) : ∀ (f : Nat) (acc : List α) (s t : RS) (l : List α), loopM most read more f acc s = .ok l t → (l.length : Int) ≤ most' → loopM most' read more f acc s = .ok l t
  | 0, _, _, _, _, h, _ => by cases h
  | f + 1, acc, s, t, l, h, hl => by
    unfold loopM at h ⊢
    obtain ⟨b, u, h1, h2⟩ := bind_ok.1 h
    rw [bind_run h1]
    cases b with
    | false => exact h2
    | true =>
      simp only [if_true] at h2 ⊢
      obtain ⟨x, v, h3, h4⟩ := bind_ok.1 h2
      have := loop_ge' f _ _ _ _ h4
      simp at this
      rw [bind_run (add_swap hr h3 (by omega))]
      exact loop_swap hr f _ _ _ _ h4 hl
theorem list_swap {α : Type} {most most' : Int} {read : M α} {more : M Bool} (hr : Ef read) {s t : RS} {l : List α} (h : listM K most read more s = .ok l t) (hl : (l.length : Int) ≤ most') : listM K most' read more s = .ok l t := by
  obtain ⟨x, u, h1, h2⟩ := bind_ok.1 h
  have := loop_ge' _ _ _ _ _ h2
  simp at this
  show (addM 0 most' read >>= fun x => loopM most' read more (K.length + 1) [x]) s = _
  rw [bind_run (add_swap hr h1 (by omega))]
  exact loop_swap hr _ _ _ _ _ h2 hl

theorem kf_name : Kf (nameM K) := .bind (.ask _) fun b => .ite b (kf_take K) (.fail _)
theorem ef_name : Ef (nameM K) := .bind' (.ask _) fun b => .ite b (ef_take K) (.fail _)
theorem ign_name : Ign (nameM K) := .bind (.ask _ fun _ _ => rfl) fun b => .ite b (ign_take K) (.fail _)
theorem kf_arg : Kf (argM K) := .bind (.ask _) fun b => .ite b (kf_take K) (kf_name K)
theorem ef_arg : Ef (argM K) := .bind' (.ask _) fun b => .ite b (ef_take K) (ef_name K)
theorem ign_arg : Ign (argM K) := .bind (.ask _ fun _ _ => rfl) fun b => .ite b (ign_take K) (ign_name K)
theorem kf_date : Kf (dateM F K) := .bind (.ask _) fun b => .ite b (.bind (.ask _) fun _ => .bind (kf_take K) fun _ => .pure _) (.fail _)
theorem ign_date : Ign (dateM F K) := .bind (.ask _ fun _ _ => rfl) fun b => .ite b (.bind (.ask _ fun _ _ => rfl) fun _ => .bind (ign_take K) fun _ => .pure _) (.fail _)
theorem kf_int (a b : Int) : Kf (intM F K a b) := .bind (.ask _) fun b => .ite b (.bind (.ask _) fun b => .ite b (.bind (.ask _) fun _ => .bind (kf_take K) fun _ => .pure _) (.fail _)) (.fail _)
theorem ef_int (a b : Int) : Ef (intM F K a b) := .bind' (.ask _) fun b => .ite b (.bind' (.ask _) fun b => .ite b (.bind' (.ask _) fun _ => .bind (ef_take K)) (.fail _)) (.fail _)
theorem ign_int (a b : Int) : Ign (intM F K a b) := .bind (.ask _ fun _ _ => rfl) fun b => .ite b (.bind (.ask _ fun _ _ => rfl) fun b => .ite b (.bind (.ask _ fun _ _ => rfl) fun _ => .bind (ign_take K) fun _ => .pure _) (.fail _)) (.fail _)
theorem kf_amount (sg : Bytes) : Kf (amountM F K sg) := .bind (.ask _) fun b => .ite b (.bind (.ask _) fun _ => .ite _ (.bind (kf_take K) fun _ => .pure _) (.fail _)) (.fail _)
theorem ef_amount (sg : Bytes) : Ef (amountM F K sg) := .bind' (.ask _) fun b => .ite b (.bind' (.ask _) fun _ => .ite _ (.bind (ef_take K)) (.fail _)) (.fail _)
theorem ign_amount (sg : Bytes) : Ign (amountM F K sg) := .bind (.ask _ fun _ _ => rfl) fun b => .ite b (.bind (.ask _ fun _ _ => rfl) fun _ => .ite _ (.bind (ign_take K) fun _ => .pure _) (.fail _)) (.fail _)
theorem kf_money : Kf (moneyM F K) := .bind (kf_hasMark K _) fun b => .ite b (kf_amount F K _) (kf_amount F K _)
theorem ef_money : Ef (moneyM F K) := .bind' (kf_hasMark K _) fun b => .ite b (ef_amount F K _) (ef_amount F K _)
theorem ign_money : Ign (moneyM F K) := .bind (ign_hasMark K _) fun b => .ite b (ign_amount F K _) (ign_amount F K _)
theorem kf_brackets {read : M Bytes} (hr : Ef read) (hk : Kf read) : Kf (bracketsM K read) := .bind (kf_hasMark K _) fun b => .ite b (.bind (kf_list K 4 hr hk (kf_hasMark K _)) fun _ => .bind (kf_wantMark K _) fun _ => .pure _) (.pure _)
theorem ign_brackets {read : M Bytes} (hr : Ign read) : Ign (bracketsM K read) := .bind (ign_hasMark K _) fun b => .ite b (.bind (ign_list K 4 hr (ign_hasMark K _)) fun _ => .bind (ign_wantMark K _) fun _ => .pure _) (.pure _)
theorem kf_literal : Kf (literalM F K) := .bind (kf_hasMark K _) fun _ => .bind (kf_name K) fun _ => .bind (kf_brackets K (ef_arg K) (kf_arg K)) fun _ => .bind (kf_hasMark K _) fun b => .ite b (.bind (kf_money F K) fun _ => .pure _) (.pure _)
theorem ef_literal : Ef (literalM F K) := .bind' (kf_hasMark K _) fun _ => .bind (ef_name K)
theorem ign_literal : Ign (literalM F K) := .bind (ign_hasMark K _) fun _ => .bind (ign_name K) fun _ => .bind (ign_brackets K (ign_arg K)) fun _ => .bind (ign_hasMark K _) fun b => .ite b (.bind (ign_money F K) fun _ => .pure _) (.pure _)
theorem kf_plainTerm : Kf (plainTermM F K) :=
  .bind (.ask _) fun b => .ite b
    (.bind (.ask _) fun b => .ite b (.bind (kf_int F K _ _) fun _ => .bind (kf_wantMark K _) fun _ => .bind (kf_name K) fun _ => .bind (kf_brackets K (ef_arg K) (kf_arg K)) fun _ => .pure _) (.bind (kf_money F K) fun _ => .pure _))
    (.bind (.ask _) fun b => .ite b (.bind (kf_money F K) fun _ => .pure _) (.bind (kf_name K) fun _ => .bind (kf_brackets K (ef_arg K) (kf_arg K)) fun _ => .pure _))
theorem ef_plainTerm : Ef (plainTermM F K) := .bind' (.ask _) fun b => .ite b (.bind' (.ask _) fun b => .ite b (.bind (ef_int F K _ _)) (.bind (ef_money F K))) (.bind' (.ask _) fun b => .ite b (.bind (ef_money F K)) (.bind (ef_name K)))
theorem kf_term : Kf (termM F K) := .bind (kf_plainTerm F K) fun _ => .bind (.ask _) fun b => .ite b (.pure _) (.pure _)
theorem ef_term : Ef (termM F K) := .bind (ef_plainTerm F K)
theorem kf_sign : Kf (signM K) := .bind (kf_hasMark K _) fun m => .bind (.set _ fun _ => rfl) fun _ => .ite m (.pure _) (kf_hasMark K _)
theorem kf_side : Kf (sideM F K) := .bind (.set _ fun _ => rfl) fun _ => kf_list K 8 (ef_term F K) (kf_term F K) (kf_sign K)
theorem ign_side : Ign (sideM F K) := by
  intro s a t m h
  exact ⟨t.minus, h⟩
theorem kf_op : Kf (opM K) := .bind (.ask _) fun _ => .ite _ (.fail _) (.bind (kf_take K) fun _ => .pure _)
theorem ign_op : Ign (opM K) := .bind (.ask _ fun _ _ => rfl) fun _ => .ite _ (.fail _) (.bind (ign_take K) fun _ => .pure _)
theorem kf_arrow : Kf (arrowM K) := .bind (.ask _) fun _ => .ite _ (.fail _) (.bind (kf_take K) fun _ => .pure _)
theorem ign_arrow : Ign (arrowM K) := .bind (.ask _ fun _ _ => rfl) fun _ => .ite _ (.fail _) (.bind (ign_take K) fun _ => .pure _)
theorem ef_wantMark (t : Bytes) : Ef (wantMark K t) := by
  intro s a u h
  obtain ⟨b, v, h1, h2⟩ := bind_ok.1 h
  cases b
  · cases h2
  · unfold hasMark at h1
    rw [bind_run (ask_run _ s)] at h1
    split at h1
    · obtain ⟨x, y, h3, _⟩ := bind_ok.1 h1
      exact ef_take K _ _ _ h3
    · cases h1
theorem kf_guard : Kf (guardM F K) := .bind (kf_wantMark K _) fun _ => .bind (kf_side F K) fun _ => .bind (kf_op K) fun _ => .bind (kf_side F K) fun _ => .bind (kf_wantMark K _) fun _ => .pure _
theorem ef_guard : Ef (guardM F K) := .bind (ef_wantMark K _)
theorem ign_guard : Ign (guardM F K) := .bind (ign_wantMark K _) fun _ => .bind (ign_side F K) fun _ => .bind (ign_op K) fun _ => .bind (ign_side F K) fun _ => .bind (ign_wantMark K _) fun _ => .pure _
theorem kf_unlike : Kf (unlikeM K) := .bind (kf_arg K) fun _ => .bind (kf_wantMark K _) fun _ => .bind (kf_arg K) fun _ => .pure _
theorem ef_unlike : Ef (unlikeM K) := .bind (ef_arg K)
theorem ign_unlike : Ign (unlikeM K) := .bind (ign_arg K) fun _ => .bind (ign_wantMark K _) fun _ => .bind (ign_arg K) fun _ => .pure _
theorem kf_premise : Kf (premiseM F K) := .bind (.ask _) fun b => .ite b (kf_unlike K) (.bind (.ask _) fun b => .ite b (.bind (kf_guard F K) fun _ => .pure _) (.bind (kf_literal F K) fun _ => .pure _))
theorem ef_premise : Ef (premiseM F K) := .bind' (.ask _) fun b => .ite b (ef_unlike K) (.bind' (.ask _) fun b => .ite b (.bind (ef_guard F K)) (.bind (ef_literal F K)))
theorem ign_premise : Ign (premiseM F K) := .bind (.ask _ fun _ _ => rfl) fun b => .ite b (ign_unlike K) (.bind (.ask _ fun _ _ => rfl) fun b => .ite b (.bind (ign_guard F K) fun _ => .pure _) (.bind (ign_literal F K) fun _ => .pure _))
theorem kf_body : Kf (bodyM F K) := .bind (.ask _) fun b => .ite b (kf_list K 16 (ef_premise F K) (kf_premise F K) (kf_hasMark K _)) (.pure _)
theorem ign_body : Ign (bodyM F K) := .bind (.ask _ fun _ _ => rfl) fun b => .ite b (ign_list K 16 (ign_premise F K) (ign_hasMark K _)) (.pure _)
theorem kf_until : Kf (untilM F K) := .bind (kf_hasWord K _) fun b => .ite b (kf_date F K) (.pure _)
theorem ign_until : Ign (untilM F K) := .bind (ign_hasWord K _) fun b => .ite b (ign_date F K) (.pure _)
theorem kf_rule : Kf (ruleM F K) :=
  .bind (kf_name K) fun _ => .bind (kf_wantWord K _) fun _ => .bind (kf_name K) fun _ => .bind (kf_wantWord K _) fun _ => .bind (kf_date F K) fun _ => .bind (kf_until F K) fun _ =>
    .bind (kf_wantMark K _) fun _ => .bind (kf_body F K) fun _ => .bind (kf_arrow K) fun _ => .bind (kf_literal F K) fun _ => .pure _
theorem ef_rule : Ef (ruleM F K) := .bind (ef_name K)
theorem ign_rule : Ign (ruleM F K) :=
  .bind (ign_name K) fun _ => .bind (ign_wantWord K _) fun _ => .bind (ign_name K) fun _ => .bind (ign_wantWord K _) fun _ => .bind (ign_date F K) fun _ => .bind (ign_until F K) fun _ =>
    .bind (ign_wantMark K _) fun _ => .bind (ign_body F K) fun _ => .bind (ign_arrow K) fun _ => .bind (ign_literal F K) fun _ => .pure _
end
end Go.Proofs.YthnjmfkiohgkkaaGreatDoor.Sy

namespace Go.Proofs.YthnjmfkiohgkkaaGreatDoor.Sy

def joinS (P S : StatM) : StatM :=
  ⟨P.title, P.kinds ++ S.kinds, P.members ++ S.members, P.preds ++ S.preds, P.classes ++ S.classes, P.sources ++ S.sources, P.rules ++ S.rules, P.excepts ++ S.excepts, P.totals ++ S.totals⟩
structure Fits (S : StatM) : Prop where
  kinds : S.kinds.length ≤ 16
  members : S.members.length ≤ 64
  preds : S.preds.length ≤ 256
  classes : S.classes.length ≤ 64
  sources : S.sources.length ≤ 64
  rules : S.rules.length ≤ 512
  excepts : S.excepts.length ≤ 512
  totals : S.totals.length ≤ 64
/-- The lists of the one are at most as long as the other's. -/
structure Less (S T : StatM) : Prop where
  title : T.title = S.title
  kinds : S.kinds.length ≤ T.kinds.length
  members : S.members.length ≤ T.members.length
  preds : S.preds.length ≤ T.preds.length
  classes : S.classes.length ≤ T.classes.length
  sources : S.sources.length ≤ T.sources.length
  rules : S.rules.length ≤ T.rules.length
  excepts : S.excepts.length ≤ T.excepts.length
  totals : S.totals.length ≤ T.totals.length
theorem Less.refl (S : StatM) : Less S S := by constructor <;> first | rfl | exact Nat.le_refl _
theorem Less.trans {S T U : StatM} (h : Less S T) (k : Less T U) : Less S U := by
  constructor
  · exact k.title.trans h.title
  · exact Nat.le_trans h.kinds k.kinds
  · exact Nat.le_trans h.members k.members
  · exact Nat.le_trans h.preds k.preds
  · exact Nat.le_trans h.classes k.classes
  · exact Nat.le_trans h.sources k.sources
  · exact Nat.le_trans h.rules k.rules
  · exact Nat.le_trans h.excepts k.excepts
  · exact Nat.le_trans h.totals k.totals
theorem Fits.less {P S T : StatM} (hf : Fits (joinS P T)) (h : Less S T) : Fits (joinS P S) := by
  obtain ⟨f1, f2, f3, f4, f5, f6, f7, f8⟩ := hf
  obtain ⟨_, h1, h2, h3, h4, h5, h6, h7, h8⟩ := h
  simp only [joinS, List.length_append] at f1 f2 f3 f4 f5 f6 f7 f8
  constructor <;> simp only [joinS, List.length_append] <;> omega

section
variable (F : Fns) (K : Toks)
theorem kf_members (most : Int) : Kf (membersM K most) := .bind (kf_list K most (ef_name K) (kf_name K) (kf_hasMark K _)) fun _ => .bind (kf_wantMark K _) fun _ => .bind (kf_name K) fun _ => .pure _
theorem ign_members (most : Int) : Ign (membersM K most) := .bind (ign_list K most (ign_name K) (ign_hasMark K _)) fun _ => .bind (ign_wantMark K _) fun _ => .bind (ign_name K) fun _ => .pure _
theorem ef_pred (sort : Nat) : Ef (predM K sort) := .bind (ef_name K)
theorem kf_pred (sort : Nat) : Kf (predM K sort) := .bind (kf_name K) fun _ => .bind (kf_brackets K (ef_name K) (kf_name K)) fun _ => .pure _
theorem ign_pred (sort : Nat) : Ign (predM K sort) := .bind (ign_name K) fun _ => .bind (ign_brackets K (ign_name K)) fun _ => .pure _
theorem ef_amountPred : Ef (amountPredM F K) := .bind (ef_pred K 3)
theorem kf_amountPred : Kf (amountPredM F K) := .bind (kf_pred K 3) fun _ => .bind (kf_wantMark K _) fun _ => .bind (kf_list K 64 (ef_money F K) (kf_money F K) (kf_hasMark K _)) fun _ => .pure _
theorem ign_amountPred : Ign (amountPredM F K) := .bind (ign_pred K 3) fun _ => .bind (ign_wantMark K _) fun _ => .bind (ign_list K 64 (ign_money F K) (ign_hasMark K _)) fun _ => .pure _
theorem ef_class : Ef (classM K) := .bind (ef_list K 16 (ef_name K))
theorem kf_class : Kf (classM K) := .bind (kf_list K 16 (ef_name K) (kf_name K) (kf_hasMark K _)) fun _ => .ite _ (.fail _) (.pure _)
theorem ign_class : Ign (classM K) := .bind (ign_list K 16 (ign_name K) (ign_hasMark K _)) fun _ => .ite _ (.fail _) (.pure _)
theorem ef_source : Ef (sourceM F K) := .bind (ef_name K)
theorem kf_source : Kf (sourceM F K) := .bind (kf_name K) fun _ => .bind (kf_wantWord K _) fun _ => .bind (kf_int F K _ _) fun _ => .pure _
theorem ign_source : Ign (sourceM F K) := .bind (ign_name K) fun _ => .bind (ign_wantWord K _) fun _ => .bind (ign_int F K _ _) fun _ => .pure _
theorem ef_exception : Ef (exceptionM K) := .bind (ef_name K)
theorem kf_exception : Kf (exceptionM K) := .bind (kf_name K) fun _ => .bind (kf_wantWord K _) fun _ => .bind (kf_name K) fun _ => .pure _
theorem ign_exception : Ign (exceptionM K) := .bind (ign_name K) fun _ => .bind (ign_wantWord K _) fun _ => .bind (ign_name K) fun _ => .pure _
theorem ef_total : Ef (totalM F K) := .bind (ef_name K)
theorem kf_total : Kf (totalM F K) :=
  .bind (kf_name K) fun _ => .bind (kf_wantMark K _) fun _ => .bind (kf_name K) fun _ => .bind (kf_wantMark K _) fun _ => .bind (kf_wantMark K _) fun _ =>
    .bind (kf_list K 16 (ef_name K) (kf_name K) (kf_hasMark K _)) fun _ => .bind (kf_hasWord K _) fun b => .ite b (.bind (kf_money F K) fun _ => .pure _) (.pure _)
theorem ign_total : Ign (totalM F K) :=
  .bind (ign_name K) fun _ => .bind (ign_wantMark K _) fun _ => .bind (ign_name K) fun _ => .bind (ign_wantMark K _) fun _ => .bind (ign_wantMark K _) fun _ =>
    .bind (ign_list K 16 (ign_name K) (ign_hasMark K _)) fun _ => .bind (ign_hasWord K _) fun b => .ite b (.bind (ign_money F K) fun _ => .pure _) (.pure _)

theorem good_item (S : StatM) : Good (fun K => itemM F K S) :=
  .bind (good_hasWord _) fun b => .ite b (.bind (good_add _ _ good_name) fun _ => .pure _) <|
  .bind (good_hasWord _) fun b => .ite b (.bind (good_members _) fun _ => .pure _) <|
  .bind (good_hasWord _) fun b => .ite b (.bind (good_add _ _ (good_pred _)) fun _ => .pure _) <|
  .bind (good_hasWord _) fun b => .ite b (.bind (good_add _ _ (good_pred _)) fun _ => .pure _) <|
  .bind (good_hasWord _) fun b => .ite b (.bind (good_add _ _ (good_amountPred F)) fun _ => .pure _) <|
  .bind (good_hasWord _) fun b => .ite b (.bind (good_add _ _ good_class) fun _ => .pure _) <|
  .bind (good_hasWord _) fun b => .ite b (.bind (good_add _ _ (good_source F)) fun _ => .pure _) <|
  .bind (good_hasWord _) fun b => .ite b (.bind (good_add _ _ (good_rule F)) fun _ => .pure _) <|
  .bind (good_hasWord _) fun b => .ite b (.bind (good_add _ _ good_exception) fun _ => .pure _) <|
  .bind (good_hasWord _) fun b => .ite b (.bind (good_add _ _ (good_total F)) fun _ => .pure _) (.fail _)
theorem kf_item (S : StatM) : Kf (itemM F K S) :=
  .bind (kf_hasWord K _) fun b => .ite b (.bind (kf_add _ _ (ef_name K) (kf_name K)) fun _ => .pure _) <|
  .bind (kf_hasWord K _) fun b => .ite b (.bind (kf_members K _) fun _ => .pure _) <|
  .bind (kf_hasWord K _) fun b => .ite b (.bind (kf_add _ _ (ef_pred K _) (kf_pred K _)) fun _ => .pure _) <|
  .bind (kf_hasWord K _) fun b => .ite b (.bind (kf_add _ _ (ef_pred K _) (kf_pred K _)) fun _ => .pure _) <|
  .bind (kf_hasWord K _) fun b => .ite b (.bind (kf_add _ _ (ef_amountPred F K) (kf_amountPred F K)) fun _ => .pure _) <|
  .bind (kf_hasWord K _) fun b => .ite b (.bind (kf_add _ _ (ef_class K) (kf_class K)) fun _ => .pure _) <|
  .bind (kf_hasWord K _) fun b => .ite b (.bind (kf_add _ _ (ef_source F K) (kf_source F K)) fun _ => .pure _) <|
  .bind (kf_hasWord K _) fun b => .ite b (.bind (kf_add _ _ (ef_rule F K) (kf_rule F K)) fun _ => .pure _) <|
  .bind (kf_hasWord K _) fun b => .ite b (.bind (kf_add _ _ (ef_exception K) (kf_exception K)) fun _ => .pure _) <|
  .bind (kf_hasWord K _) fun b => .ite b (.bind (kf_add _ _ (ef_total F K) (kf_total F K)) fun _ => .pure _) (.fail _)
theorem ign_item (S : StatM) : Ign (itemM F K S) :=
  .bind (ign_hasWord K _) fun b => .ite b (.bind (ign_add _ _ (ign_name K)) fun _ => .pure _) <|
  .bind (ign_hasWord K _) fun b => .ite b (.bind (ign_members K _) fun _ => .pure _) <|
  .bind (ign_hasWord K _) fun b => .ite b (.bind (ign_add _ _ (ign_pred K _)) fun _ => .pure _) <|
  .bind (ign_hasWord K _) fun b => .ite b (.bind (ign_add _ _ (ign_pred K _)) fun _ => .pure _) <|
  .bind (ign_hasWord K _) fun b => .ite b (.bind (ign_add _ _ (ign_amountPred F K)) fun _ => .pure _) <|
  .bind (ign_hasWord K _) fun b => .ite b (.bind (ign_add _ _ (ign_class K)) fun _ => .pure _) <|
  .bind (ign_hasWord K _) fun b => .ite b (.bind (ign_add _ _ (ign_source F K)) fun _ => .pure _) <|
  .bind (ign_hasWord K _) fun b => .ite b (.bind (ign_add _ _ (ign_rule F K)) fun _ => .pure _) <|
  .bind (ign_hasWord K _) fun b => .ite b (.bind (ign_add _ _ (ign_exception K)) fun _ => .pure _) <|
  .bind (ign_hasWord K _) fun b => .ite b (.bind (ign_add _ _ (ign_total F K)) fun _ => .pure _) (.fail _)

theorem members_swap {most most' : Int} {s t : RS} {l : List (Bytes × Bytes)} (h : membersM K most s = .ok l t) (hl : (l.length : Int) ≤ most') : membersM K most' s = .ok l t := by
  obtain ⟨n, u, h1, h2⟩ := bind_ok.1 h
  obtain ⟨_, v, h3, h4⟩ := bind_ok.1 h2
  obtain ⟨k, w, h5, h6⟩ := bind_ok.1 h4
  cases h6
  show (listM K most' (nameM K) (commaM K) >>= _) s = _
  rw [bind_run (list_swap K (ef_name K) h1 (by simpa using hl)), bind_run h3, bind_run h5]
  rfl

/-- One item more. -/
theorem item_less {S T : StatM} {s t : RS} (h : itemM F K S s = .ok T t) : Less S T := by
  unfold itemM at h
  repeat
    obtain ⟨b, u, h1, h⟩ := bind_ok.1 h
    cases b
    rotate_left
    · simp only [if_true] at h
      obtain ⟨x, v, _, h⟩ := bind_ok.1 h
      cases h
      constructor <;> first | rfl | (simp only [List.length_append]; omega) | exact Nat.le_refl _
    simp only [Bool.false_eq_true, if_false] at h
  cases h

/-- The same item, where other things stand ahead. -/
theorem item_head {P S T : StatM} {s t : RS} (h : itemM F K S s = .ok T t) (hf : Fits (joinS P T)) : itemM F K (joinS P S) s = .ok (joinS P T) t := by
  obtain ⟨f1, f2, f3, f4, f5, f6, f7, f8⟩ := hf
  unfold itemM at h ⊢
  obtain ⟨b, u, h1, h⟩ := bind_ok.1 h
  rw [bind_run h1]
  clear h1
  cases b
  rotate_left
  · simp only [if_true] at h ⊢
    obtain ⟨x, v, hx, h⟩ := bind_ok.1 h
    cases h
    simp only [joinS, List.length_append, List.length_cons, List.length_nil] at f1
    rw [bind_run (add_swap (ef_name K) hx (by simp only [joinS, List.length_append]; omega))]
    simp only [joinS, List.append_assoc]
    rfl
  simp only [Bool.false_eq_true, if_false] at h ⊢
  obtain ⟨b, u', h1, h⟩ := bind_ok.1 h
  rw [bind_run h1]
  clear h1
  cases b
  rotate_left
  · simp only [if_true] at h ⊢
    obtain ⟨x, v, hx, h⟩ := bind_ok.1 h
    cases h
    simp only [joinS, List.length_append] at f2
    rw [bind_run (members_swap K hx (by simp only [joinS, List.length_append]; omega))]
    simp only [joinS, List.append_assoc]
    rfl
  simp only [Bool.false_eq_true, if_false] at h ⊢
  obtain ⟨b, u, h1, h⟩ := bind_ok.1 h
  rw [bind_run h1]
  clear h1
  cases b
  rotate_left
  · simp only [if_true] at h ⊢
    obtain ⟨x, v, hx, h⟩ := bind_ok.1 h
    cases h
    simp only [joinS, List.length_append, List.length_cons, List.length_nil] at f3
    rw [bind_run (add_swap (ef_pred K _) hx (by simp only [joinS, List.length_append]; omega))]
    simp only [joinS, List.append_assoc]
    rfl
  simp only [Bool.false_eq_true, if_false] at h ⊢
  obtain ⟨b, u, h1, h⟩ := bind_ok.1 h
  rw [bind_run h1]
  clear h1
  cases b
  rotate_left
  · simp only [if_true] at h ⊢
    obtain ⟨x, v, hx, h⟩ := bind_ok.1 h
    cases h
    simp only [joinS, List.length_append, List.length_cons, List.length_nil] at f3
    rw [bind_run (add_swap (ef_pred K _) hx (by simp only [joinS, List.length_append]; omega))]
    simp only [joinS, List.append_assoc]
    rfl
  simp only [Bool.false_eq_true, if_false] at h ⊢
  obtain ⟨b, u, h1, h⟩ := bind_ok.1 h
  rw [bind_run h1]
  clear h1
  cases b
  rotate_left
  · simp only [if_true] at h ⊢
    obtain ⟨x, v, hx, h⟩ := bind_ok.1 h
    cases h
    simp only [joinS, List.length_append, List.length_cons, List.length_nil] at f3
    rw [bind_run (add_swap (ef_amountPred F K) hx (by simp only [joinS, List.length_append]; omega))]
    simp only [joinS, List.append_assoc]
    rfl
  simp only [Bool.false_eq_true, if_false] at h ⊢
  obtain ⟨b, u, h1, h⟩ := bind_ok.1 h
  rw [bind_run h1]
  clear h1
  cases b
  rotate_left
  · simp only [if_true] at h ⊢
    obtain ⟨x, v, hx, h⟩ := bind_ok.1 h
    cases h
    simp only [joinS, List.length_append, List.length_cons, List.length_nil] at f4
    rw [bind_run (add_swap (ef_class K) hx (by simp only [joinS, List.length_append]; omega))]
    simp only [joinS, List.append_assoc]
    rfl
  simp only [Bool.false_eq_true, if_false] at h ⊢
  obtain ⟨b, u, h1, h⟩ := bind_ok.1 h
  rw [bind_run h1]
  clear h1
  cases b
  rotate_left
  · simp only [if_true] at h ⊢
    obtain ⟨x, v, hx, h⟩ := bind_ok.1 h
    cases h
    simp only [joinS, List.length_append, List.length_cons, List.length_nil] at f5
    rw [bind_run (add_swap (ef_source F K) hx (by simp only [joinS, List.length_append]; omega))]
    simp only [joinS, List.append_assoc]
    rfl
  simp only [Bool.false_eq_true, if_false] at h ⊢
  obtain ⟨b, u, h1, h⟩ := bind_ok.1 h
  rw [bind_run h1]
  clear h1
  cases b
  rotate_left
  · simp only [if_true] at h ⊢
    obtain ⟨x, v, hx, h⟩ := bind_ok.1 h
    cases h
    simp only [joinS, List.length_append, List.length_cons, List.length_nil] at f6
    rw [bind_run (add_swap (ef_rule F K) hx (by simp only [joinS, List.length_append]; omega))]
    simp only [joinS, List.append_assoc]
    rfl
  simp only [Bool.false_eq_true, if_false] at h ⊢
  obtain ⟨b, u, h1, h⟩ := bind_ok.1 h
  rw [bind_run h1]
  clear h1
  cases b
  rotate_left
  · simp only [if_true] at h ⊢
    obtain ⟨x, v, hx, h⟩ := bind_ok.1 h
    cases h
    simp only [joinS, List.length_append, List.length_cons, List.length_nil] at f7
    rw [bind_run (add_swap (ef_exception K) hx (by simp only [joinS, List.length_append]; omega))]
    simp only [joinS, List.append_assoc]
    rfl
  simp only [Bool.false_eq_true, if_false] at h ⊢
  obtain ⟨b, u, h1, h⟩ := bind_ok.1 h
  rw [bind_run h1]
  clear h1
  cases b
  rotate_left
  · simp only [if_true] at h ⊢
    obtain ⟨x, v, hx, h⟩ := bind_ok.1 h
    cases h
    simp only [joinS, List.length_append, List.length_cons, List.length_nil] at f8
    rw [bind_run (add_swap (ef_total F K) hx (by simp only [joinS, List.length_append]; omega))]
    simp only [joinS, List.append_assoc]
    rfl
  simp only [Bool.false_eq_true, if_false] at h ⊢
  cases h

theorem kd_inside {i : Nat} (h : kd K i ≠ 0) : i < K.length := by
  refine Nat.lt_of_not_le fun hc => h ?_
  unfold kd
  rw [List.getElem?_eq_none hc]
  rfl
theorem mark_inside {i : Nat} {t : Bytes} (h : markAt K i t = true) : i < K.length := by
  unfold markAt at h
  simp only [Bool.and_eq_true, decide_eq_true_eq] at h
  exact kd_inside K (by omega)
theorem wantMark_inv {t : Bytes} {s u : RS} {x : Unit} (h : wantMark K t s = .ok x u) : markAt K s.n t = true ∧ s.full = false ∧ u = { s with n := s.n + 1 } := by
  have hf := ef_wantMark K t _ _ _ h
  unfold wantMark hasMark at h
  obtain ⟨b, v, h1, h2⟩ := bind_ok.1 h
  rw [bind_run (ask_run _ s)] at h1
  split at h1
  · next hm =>
    obtain ⟨y, w, h3, h4⟩ := bind_ok.1 h1
    cases h4
    simp only [if_true] at h2
    cases h2
    unfold takeM at h3
    rw [if_neg (by rw [hf]; decide)] at h3
    cases h3
    exact ⟨hm, hf, rfl⟩
  · cases h1
    simp at h2
    cases h2
theorem wantMark_run {t : Bytes} {s : RS} (h : markAt K s.n t = true) (hf : s.full = false) : wantMark K t s = .ok () { s with n := s.n + 1 } := by
  have e : hasMark K t s = .ok true { s with n := s.n + 1 } := by
    unfold hasMark
    rw [bind_run (ask_run _ s), if_pos h]
    have : takeM K s = .ok (tx K s.n) { s with n := s.n + 1 } := by unfold takeM; rw [if_neg (by rw [hf]; decide)]
    rw [bind_run this]
    rfl
  unfold wantMark
  rw [bind_run e]
  rfl

/-- A thing and a mark behind it, moved: they reach to the tokens' end at most. -/
theorem Good.dot {α : Type} {f : Toks → M α} (hf : Good f) (t : Bytes) {K K' : Toks} {d : Nat} (hA : Agree K K' d K.length) {s u v : RS} {a : α} {x : Unit}
    (h : f K s = .ok a u) (h2 : wantMark K t u = .ok x v) : f K' (s.sh d) = .ok a (u.sh d) ∧ wantMark K' t (u.sh d) = .ok x (v.sh d) ∧ v.n ≤ K.length := by
  obtain ⟨hm, hfu, rfl⟩ := wantMark_inv K h2
  have hlt := mark_inside K hm
  refine ⟨hf.mv K K' d K.length hA s a u h hlt, ?_, hlt⟩
  have e := wantMark_run K' (t := t) (s := u.sh d) (by rw [q_mark (hA.at' _ hlt)]; exact hm) hfu
  rw [e]
  show Out.ok () _ = Out.ok x _
  unfold RS.sh
  simp only [Nat.add_right_comm]

theorem items_more : ∀ (f g : Nat) (S S' : StatM) (s t : RS), f ≤ g → itemsM F K f S s = .ok S' t → itemsM F K g S s = .ok S' t
  | 0, _, _, _, _, _, _, h => by cases h
  | f + 1, 0, _, _, _, _, hfg, _ => by omega
  | f + 1, g + 1, S, S', s, t, hfg, h => by
    unfold itemsM at h ⊢
    rw [bind_run (ask_run _ s)] at h ⊢
    split at h
    · next hc =>
      rw [if_pos hc]
      obtain ⟨T, u, h1, h2⟩ := bind_ok.1 h
      obtain ⟨x, v, h3, h4⟩ := bind_ok.1 h2
      rw [bind_run h1, bind_run h3]
      exact items_more f g _ _ _ _ (by omega) h4
    · next hc =>
      rw [if_neg hc]
      exact h

/-- The first text's items, with more tokens behind. -/
theorem items_one {K' : Toks} (hA : Agree K K' 0 K.length) : ∀ (f : Nat) (S S' : StatM) (s t : RS), itemsM F K f S s = .ok S' t → s.n ≤ K.length →
    t.n = K.length ∧ t.full = s.full ∧ ∃ k, k < f ∧ ∀ g, itemsM F K' (g + k) S s = itemsM F K' g S' t
  | 0, _, _, _, _, h, _ => by cases h
  | f + 1, S, S', s, t, h, hn => by
    unfold itemsM at h
    rw [bind_run (ask_run _ s)] at h
    split at h
    · next hc =>
      obtain ⟨T, u, h1, h2⟩ := bind_ok.1 h
      obtain ⟨x, v, h3, h4⟩ := bind_ok.1 h2
      obtain ⟨e1, e2, hv⟩ := (good_item F S).dot [46] hA h1 h3
      obtain ⟨r1, r2, k, hk, r3⟩ := items_one hA f T S' v t h4 hv
      have hfull : v.full = s.full := ((kf_wantMark K _) _ _ _ h3).trans (kf_item F K S _ _ _ h1)
      refine ⟨r1, r2.trans hfull, k + 1, by omega, fun g => ?_⟩
      rw [← r3 g]
      show itemsM F K' ((g + k) + 1) S s = _
      conv => lhs; unfold itemsM
      have hc' : decide (s.n < K'.length) = true := by
        have := hA.len
        simp only [decide_eq_true_eq] at hc ⊢
        omega
      rw [bind_run (ask_run _ s), if_pos hc', bind_run (show itemM F K' S s = .ok T u from e1), bind_run (show wantMark K' [46] u = .ok x v from e2)]
    · next hc =>
      cases h
      simp only [decide_eq_true_eq] at hc
      exact ⟨by omega, rfl, 0, by omega, fun g => rfl⟩

theorem items_less : ∀ (f : Nat) (S S' : StatM) (s t : RS), itemsM F K f S s = .ok S' t → Less S S'
  | 0, _, _, _, _, h => by cases h
  | f + 1, S, S', s, t, h => by
    unfold itemsM at h
    rw [bind_run (ask_run _ s)] at h
    split at h
    · obtain ⟨T, u, h1, h2⟩ := bind_ok.1 h
      obtain ⟨x, v, h3, h4⟩ := bind_ok.1 h2
      exact (item_less F K h1).trans (items_less f T S' v t h4)
    · cases h; exact .refl _

/-- The second text's items, behind other tokens and other things. -/
theorem items_two {K' : Toks} {d : Nat} (hA : Agree K K' d K.length) (hd : K'.length = K.length + d) (P : StatM) : ∀ (f : Nat) (S S' : StatM) (s t : RS), itemsM F K f S s = .ok S' t → Fits (joinS P S') →
    ∀ m, ∃ m', itemsM F K' f (joinS P S) { s.sh d with minus := m } = .ok (joinS P S') { t.sh d with minus := m' }
  | 0, _, _, _, _, h, _, _ => by cases h
  | f + 1, S, S', s, t, h, hf, m => by
    unfold itemsM at h
    rw [bind_run (ask_run _ s)] at h
    split at h
    · next hc =>
      obtain ⟨T, u, h1, h2⟩ := bind_ok.1 h
      obtain ⟨x, v, h3, h4⟩ := bind_ok.1 h2
      have hT : Fits (joinS P T) := hf.less (items_less F K f T S' v t h4)
      have h1' := item_head F K h1 hT
      obtain ⟨e1, e2, hv⟩ := (good_item F (joinS P S)).dot [46] hA h1' h3
      obtain ⟨m1, e1'⟩ := ign_item F K' (joinS P S) _ _ _ m e1
      obtain ⟨m2, e2'⟩ := ign_wantMark K' [46] _ _ _ m1 e2
      obtain ⟨m3, e3⟩ := items_two hA hd P f T S' v t h4 hf m2
      refine ⟨m3, ?_⟩
      conv => lhs; unfold itemsM
      have hc' : decide (({ s.sh d with minus := m } : RS).n < K'.length) = true := by
        simp only [decide_eq_true_eq] at hc ⊢
        show s.n + d < _
        omega
      rw [bind_run (ask_run _ _), if_pos hc', bind_run e1', bind_run e2', e3]
    · next hc =>
      cases h
      refine ⟨m, ?_⟩
      unfold itemsM
      have hc' : ¬ decide (({ s.sh d with minus := m } : RS).n < K'.length) = true := by
        simp only [decide_eq_true_eq] at hc ⊢
        show ¬ s.n + d < _
        omega
      rw [bind_run (ask_run _ _), if_neg hc']
      rfl
end

theorem agree_left (A B : Toks) : Agree A (A ++ B) 0 A.length := ⟨by simp, fun i hi => by rw [Nat.add_zero, List.getElem?_append_left hi]⟩
theorem agree_right (A B : Toks) : Agree B (A ++ B) A.length B.length := ⟨by simp, fun i hi => by rw [List.getElem?_append_right (by omega), Nat.add_sub_cancel]⟩

theorem word_left (A B : Toks) (t : Bytes) (h : wordAt B 0 t = false) : wordAt (A ++ B) 0 t = wordAt A 0 t := by
  cases A with
  | nil => rw [List.nil_append, h]; rfl
  | cons x l => rfl

theorem hasWord_at (K : Toks) {t : Bytes} {s : RS} (hf : s.full = false) : hasWord K t s = if wordAt K s.n t = true then .ok true { s with n := s.n + 1 } else .ok false s := by
  unfold hasWord
  rw [bind_run (ask_run _ s)]
  split
  · have : takeM K s = .ok (tx K s.n) { s with n := s.n + 1 } := by unfold takeM; rw [if_neg (by rw [hf]; decide)]
    rw [bind_run this]
    rfl
  · rfl

/-- The title of the first text. -/
theorem title_left {A B : Toks} (hB : wordAt B 0 [115, 116, 97, 116, 117, 116, 101] = false) {x : Bytes} {t : RS} (h : titleM A ⟨0, false, false⟩ = .ok x t) :
    titleM (A ++ B) ⟨0, false, false⟩ = .ok x t ∧ t.n ≤ A.length ∧ t.full = false := by
  unfold titleM at h ⊢
  obtain ⟨b, u, h1, h2⟩ := bind_ok.1 h
  have hu : u.full = false := kf_hasWord A _ _ _ _ h1
  have h1' : hasWord (A ++ B) [115, 116, 97, 116, 117, 116, 101] ⟨0, false, false⟩ = .ok b u := by
    rw [← h1, hasWord_at _ rfl, hasWord_at _ rfl, word_left A B _ hB]
  rw [bind_run h1']
  cases b with
  | false =>
    simp only [Bool.false_eq_true, if_false] at h2 ⊢
    cases h2
    rw [hasWord_at A rfl] at h1
    split at h1
    · cases h1
    · cases h1; exact ⟨rfl, Nat.zero_le _, rfl⟩
  | true =>
    simp only [if_true] at h2 ⊢
    obtain ⟨q, v, h3, h4⟩ := bind_ok.1 h2
    obtain ⟨y, w, h5, h6⟩ := bind_ok.1 h4
    cases h6
    obtain ⟨e1, e2, hv⟩ := good_quote.dot [46] (agree_left A B) h3 h5
    refine ⟨?_, hv, ?_⟩
    · rw [bind_run (show quoteM (A ++ B) u = .ok x v from e1), bind_run (show wantMark (A ++ B) [46] v = .ok y t from e2)]
      rfl
    · obtain ⟨_, hf, rfl⟩ := wantMark_inv A h5
      exact hf

theorem title_right {B : Toks} (hB : wordAt B 0 [115, 116, 97, 116, 117, 116, 101] = false) : titleM B ⟨0, false, false⟩ = .ok [] ⟨0, false, false⟩ := by
  unfold titleM
  rw [bind_run (show hasWord B [115, 116, 97, 116, 117, 116, 101] ⟨0, false, false⟩ = .ok false ⟨0, false, false⟩ by rw [hasWord_at B rfl, if_neg (by rw [hB]; decide)])]
  rfl

theorem joinS_none (P : StatM) : joinS P { StatM.none with title := [] } = P := by
  unfold joinS StatM.none
  simp only [List.append_nil]

/-- Two texts' tokens. -/
theorem text_joined (F : Fns) {A B : Toks} {S T : StatM} {s t : RS} (hB : wordAt B 0 [115, 116, 97, 116, 117, 116, 101] = false)
    (hS : textM F A ⟨0, false, false⟩ = .ok S s) (hT : textM F B ⟨0, false, false⟩ = .ok T t) (hf : Fits (joinS S T)) :
    ∃ m, textM F (A ++ B) ⟨0, false, false⟩ = .ok (joinS S T) ⟨t.n + A.length, t.full, m⟩ := by
  unfold textM at hS hT ⊢
  obtain ⟨x, u, h1, h2⟩ := bind_ok.1 hS
  obtain ⟨e1, hn, hfull⟩ := title_left hB h1
  rw [bind_run (title_right hB)] at hT
  rw [bind_run e1]
  obtain ⟨r1, r2, k, hk, r3⟩ := items_one F A (agree_left A B) _ _ _ _ _ h2 hn
  obtain ⟨m, e2⟩ := items_two F B (agree_right A B) (by simp [Nat.add_comm]) S _ _ _ _ _ hT hf s.minus
  rw [joinS_none] at e2
  refine ⟨m, ?_⟩
  have hlen : (A ++ B).length + 1 = ((A ++ B).length + 1 - k) + k := by simp; omega
  rw [hlen, r3]
  refine items_more F (A ++ B) (B.length + 1) _ _ _ _ _ (by simp; omega) ?_
  have es : s = { RS.sh A.length ⟨0, false, false⟩ with minus := s.minus } := by
    cases s with
    | mk n f mi =>
      simp only [RS.sh, RS.mk.injEq, and_true]
      exact ⟨by simpa using r1, r2.trans hfull⟩
  rw [es]
  exact e2
end Go.Proofs.YthnjmfkiohgkkaaGreatDoor.Sy
