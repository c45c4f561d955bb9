/- What a reader of the grammar does hangs on the tokens that it goes over alone: it may be moved, and more tokens may stand behind. -/
import Derived.Test.YthnjmfkiohgkkaaGreatDoorGrammar
namespace Go.Proofs.YthnjmfkiohgkkaaGreatDoor.Sy

def RS.sh (d : Nat) (s : RS) : RS := { s with n := s.n + d }

/-- The tokens ahead of B of the one stand in the other, d on. -/
structure Agree (K K' : Toks) (d B : Nat) : Prop where
  len : K.length ≤ K'.length
  at' : ∀ i, i < B → K[i]? = K'[i + d]?

structure Good {α : Type} (f : Toks → M α) : Prop where
  le : ∀ K s a t, f K s = .ok a t → s.n ≤ t.n
  mv : ∀ K K' d B, Agree K K' d B → ∀ s a t, f K s = .ok a t → t.n < B → f K' (s.sh d) = .ok a (t.sh d)

/-- It goes on by a token at least. -/
def Eats {α : Type} (f : Toks → M α) : Prop := ∀ K s a t, f K s = .ok a t → s.n < t.n

theorem bind_ok {α β : Type} {x : M α} {f : α → M β} {s : RS} {b : β} {t : RS} : (x >>= f) s = .ok b t ↔ ∃ a u, x s = .ok a u ∧ f a u = .ok b t := by
  show (match x s with | .ok a t => f a t | .bad e n => .bad e n) = _ ↔ _
  cases h : x s with
  | ok a u => exact ⟨fun h => ⟨a, u, rfl, h⟩, fun ⟨a', u', h1, h2⟩ => by cases h1; exact h2⟩
  | bad e n => simp

theorem bind_run {α β : Type} {x : M α} {f : α → M β} {s u : RS} {a : α} (h : x s = .ok a u) : (x >>= f) s = f a u := by
  show (match x s with | .ok a t => f a t | .bad e n => .bad e n) = _
  rw [h]

theorem bind_bad {α β : Type} {x : M α} {f : α → M β} {s : RS} {e : Int} {n : Nat} (h : x s = .bad e n) : (x >>= f) s = .bad e n := by
  show (match x s with | .ok a t => f a t | .bad e n => .bad e n) = _
  rw [h]

theorem pure_run {α : Type} (a : α) (s : RS) : (pure a : M α) s = .ok a s := rfl
theorem ask_run {α : Type} (q : RS → α) (s : RS) : askM q s = .ok (q s) s := rfl
theorem set_run (q : RS → RS) (s : RS) : setM q s = .ok () (q s) := rfl
theorem Good.pure {α : Type} (a : α) : Good (fun _ => (Pure.pure a : M α)) where
  le := by intro K s a t h; rw [pure_run] at h; cases h; exact Nat.le_refl _
  mv := by intro K K' d B _ s a t h _; rw [pure_run] at h; cases h; rfl

theorem Good.fail {α : Type} (e : Int) : Good (fun _ => (failM e : M α)) where
  le := by intro K s a t h; cases h
  mv := by intro K K' d B _ s a t h _; cases h

theorem Good.bind {α β : Type} {f : Toks → M α} {g : α → Toks → M β} (hf : Good f) (hg : ∀ a, Good (g a)) : Good (fun K => f K >>= fun a => g a K) where
  le := by
    intro K s b t h
    obtain ⟨a, u, h1, h2⟩ := bind_ok.1 h
    exact Nat.le_trans (hf.le _ _ _ _ h1) ((hg a).le _ _ _ _ h2)
  mv := by
    intro K K' d B hA s b t h hB
    obtain ⟨a, u, h1, h2⟩ := bind_ok.1 h
    have hl := (hg a).le _ _ _ _ h2
    rw [bind_run (hf.mv K K' d B hA s a u h1 (by omega))]
    exact (hg a).mv K K' d B hA u b t h2 hB

theorem Good.ite {α : Type} {f g : Toks → M α} (c : Bool) (hf : Good f) (hg : Good g) : Good (fun K => if c = true then f K else g K) := by
  cases c
  · simpa using hg
  · simpa using hf

theorem Good.set (q : RS → RS) (h : ∀ s, (q s).n = s.n) (hs : ∀ d s, q (s.sh d) = (q s).sh d) : Good (fun _ => setM q) where
  le := by intro K s a t e; rw [set_run] at e; cases e; rw [h]; exact Nat.le_refl _
  mv := by intro K K' d B _ s a t e _; rw [set_run] at e; cases e; rw [set_run, hs]

/-- What is asked of the next token. -/
theorem Good.ask {α : Type} (q : Toks → RS → α) (hq : ∀ K K' s d, K[s.n]? = K'[s.n + d]? → q K' (s.sh d) = q K s) : Good (fun K => askM (q K)) where
  le := by intro K s a t e; rw [ask_run] at e; cases e; exact Nat.le_refl _
  mv := by
    intro K K' d B hA s a t e hB
    rw [ask_run] at e
    cases e
    rw [ask_run, hq K K' s d (hA.at' s.n hB)]

theorem Good.take : Good takeM where
  le := by
    intro K s a t h
    unfold takeM at h
    split at h
    · cases h
    · cases h; exact Nat.le_succ _
  mv := by
    intro K K' d B hA s a t h hB
    unfold takeM at h ⊢
    split at h
    · cases h
    · next hf =>
      cases h
      have hat := hA.at' s.n (by simp at hB; omega)
      rw [if_neg (show ¬ (s.sh d).full = true from hf)]
      unfold RS.sh tx
      simp only [Nat.add_right_comm]
      rw [← hat]

theorem eats_take : Eats takeM := by
  intro K s a t h
  unfold takeM at h
  split at h
  · cases h
  · cases h; exact Nat.lt_succ_self _

/-- What is asked of the token behind the next one, where the next one is taken behind it. -/
theorem Good.ask2 {α : Type} {g : Bool → Toks → M α} (q : Toks → RS → Bool) (hq : ∀ K K' s d, K[s.n]? = K'[s.n + d]? → K[s.n + 1]? = K'[s.n + 1 + d]? → q K' (s.sh d) = q K s)
    (hg : ∀ b, Good (g b)) (he : ∀ b, Eats (g b)) : Good (fun K => askM (q K) >>= fun b => g b K) where
  le := by
    intro K s a t h
    rw [bind_run (ask_run _ s)] at h
    exact (hg _).le _ _ _ _ h
  mv := by
    intro K K' d B hA s a t h hB
    rw [bind_run (ask_run _ s)] at h
    have hl := he _ _ _ _ _ h
    rw [bind_run (ask_run _ _), hq K K' s d (hA.at' _ (by omega)) (hA.at' _ (by omega))]
    exact (hg _).mv K K' d B hA s a t h hB

theorem Eats.bind {α β : Type} {f : Toks → M α} {g : α → Toks → M β} (hf : Eats f) (hg : ∀ a, Good (g a)) : Eats (fun K => f K >>= fun a => g a K) := by
  intro K s b t h
  obtain ⟨a, u, h1, h2⟩ := bind_ok.1 h
  exact Nat.lt_of_lt_of_le (hf _ _ _ _ h1) ((hg a).le _ _ _ _ h2)
theorem Eats.bind' {α β : Type} {f : Toks → M α} {g : α → Toks → M β} (hf : Good f) (hg : ∀ a, Eats (g a)) : Eats (fun K => f K >>= fun a => g a K) := by
  intro K s b t h
  obtain ⟨a, u, h1, h2⟩ := bind_ok.1 h
  exact Nat.lt_of_le_of_lt (hf.le _ _ _ _ h1) (hg a _ _ _ _ h2)
theorem Eats.ask {α β : Type} {q : Toks → RS → α} {g : α → Toks → M β} (hg : ∀ a, Eats (g a)) : Eats (fun K => askM (q K) >>= fun a => g a K) := by
  intro K s b t h
  have h : (askM (q K) >>= fun a => g a K) s = .ok b t := h
  rw [bind_run (ask_run _ s)] at h
  exact hg _ _ _ _ _ h
theorem Eats.ite {α : Type} {f g : Toks → M α} (c : Bool) (hf : Eats f) (hg : Eats g) : Eats (fun K => if c = true then f K else g K) := by
  cases c
  · simpa using hg
  · simpa using hf
theorem Eats.fail {α : Type} (e : Int) : Eats (fun _ => (failM e : M α)) := by intro K s a t h; cases h

theorem sh_n (d : Nat) (s : RS) : (s.sh d).n = s.n + d := rfl

theorem q_eq {K K' : Toks} {s : RS} {d : Nat} (h : K[s.n]? = K'[s.n + d]?) : kd K' (s.sh d).n = kd K s.n ∧ tx K' (s.sh d).n = tx K s.n := by
  unfold kd tx
  rw [sh_n, ← h]
  exact ⟨rfl, rfl⟩
theorem q_mark {K K' : Toks} {s : RS} {d : Nat} (h : K[s.n]? = K'[s.n + d]?) (t : Bytes) : markAt K' (s.sh d).n t = markAt K s.n t := by
  unfold markAt
  rw [(q_eq h).1, (q_eq h).2]
theorem q_mark2 {K K' : Toks} {s : RS} {d : Nat} (h : K[s.n + 1]? = K'[s.n + 1 + d]?) (t : Bytes) : markAt K' ((s.sh d).n + 1) t = markAt K (s.n + 1) t := by
  unfold markAt kd tx
  rw [sh_n, Nat.add_right_comm, ← h]
theorem q_word {K K' : Toks} {s : RS} {d : Nat} (h : K[s.n]? = K'[s.n + d]?) (t : Bytes) : wordAt K' (s.sh d).n t = wordAt K s.n t := by
  unfold wordAt
  rw [(q_eq h).1, (q_eq h).2]

theorem good_hasMark (t : Bytes) : Good (fun K => hasMark K t) :=
  .bind (.ask _ fun _ _ _ _ h => q_mark h t) fun b => .ite b (.bind .take fun _ => .pure _) (.pure _)
theorem good_hasWord (t : Bytes) : Good (fun K => hasWord K t) :=
  .bind (.ask _ fun _ _ _ _ h => q_word h t) fun b => .ite b (.bind .take fun _ => .pure _) (.pure _)
theorem good_wantMark (t : Bytes) : Good (fun K => wantMark K t) := .bind (good_hasMark t) fun b => .ite b (.pure _) (.fail _)
theorem good_wantWord (t : Bytes) : Good (fun K => wantWord K t) := .bind (good_hasWord t) fun b => .ite b (.pure _) (.fail _)
theorem good_comma : Good commaM := good_hasMark _

theorem hasMark_eats {K : Toks} {t : Bytes} {s u : RS} (h : hasMark K t s = .ok true u) : s.n < u.n := by
  unfold hasMark at h
  rw [bind_run (ask_run _ s)] at h
  split at h
  · obtain ⟨x, v, h1, h2⟩ := bind_ok.1 h
    rw [pure_run] at h2
    cases h2
    exact eats_take _ _ _ _ h1
  · cases h
theorem eats_wantMark (t : Bytes) : Eats (fun K => wantMark K t) := by
  intro K s a u h
  obtain ⟨b, v, h1, h2⟩ := bind_ok.1 h
  cases b
  · cases h2
  · cases h2; exact hasMark_eats h1
theorem good_add {α : Type} (k : Nat) (most : Int) {read : Toks → M α} (hr : Good read) : Good (fun K => addM k most (read K)) :=
  .bind (.set _ (fun _ => rfl) fun _ _ => rfl) fun _ => hr
theorem eats_add {α : Type} (k : Nat) (most : Int) {read : Toks → M α} (hr : Eats read) : Eats (fun K => addM k most (read K)) :=
  .bind' (.set _ (fun _ => rfl) fun _ _ => rfl) fun _ => hr

theorem good_loop {α : Type} (most : Int) {read : Toks → M α} {more : Toks → M Bool} (hr : Good read) (hm : Good more) : ∀ (f : Nat) (acc : List α), Good (fun K => loopM most (read K) (more K) f acc)
  | 0, _ => ⟨(by intro K s a t h; cases h), (by intro K K' d B _ s a t h; cases h)⟩
  | f + 1, acc => .bind hm fun b => .ite b (.bind (good_add _ _ hr) fun x => good_loop most hr hm f (acc ++ [x])) (.pure _)

theorem loop_more {α : Type} {most : Int} {read : M α} {more : M Bool} : ∀ (f g : Nat) (acc : List α) (s t : RS) (l : List α), f ≤ g → loopM most read more f acc s = .ok l t → loopM most read more g acc s = .ok l t
  | 0, _, _, _, _, _, _, h => by cases h
  | f + 1, 0, _, _, _, _, hfg, _ => by omega
  | f + 1, g + 1, acc, s, t, l, hfg, h => by
    unfold loopM at h ⊢
    obtain ⟨b, u, h1, h2⟩ := bind_ok.1 h
    rw [bind_run h1]
    cases b
    · exact h2
    · simp only [if_true] at h2 ⊢
      obtain ⟨x, v, h3, h4⟩ := bind_ok.1 h2
      rw [bind_run h3]
      exact loop_more f g _ _ _ _ (by omega) h4

theorem good_list {α : Type} (most : Int) {read : Toks → M α} {more : Toks → M Bool} (hr : Good read) (hm : Good more) : Good (fun K => listM K most (read K) (more K)) where
  le := by
    intro K s a t h
    obtain ⟨x, u, h1, h2⟩ := bind_ok.1 h
    exact Nat.le_trans ((good_add _ _ hr).le _ _ _ _ h1) ((good_loop most hr hm _ _).le _ _ _ _ h2)
  mv := by
    intro K K' d B hA s a t h hB
    obtain ⟨x, u, h1, h2⟩ := bind_ok.1 h
    have hl := (good_loop most hr hm _ _).le _ _ _ _ h2
    show (addM 0 most (read K') >>= fun x => loopM most (read K') (more K') (K'.length + 1) [x]) (s.sh d) = _
    rw [bind_run ((good_add 0 most hr).mv K K' d B hA s x u h1 (by omega))]
    exact loop_more _ _ _ _ _ _ (by have := hA.len; omega) ((good_loop most hr hm (K.length + 1) [x]).mv K K' d B hA u a t h2 hB)
theorem eats_list {α : Type} (most : Int) {read : Toks → M α} {more : Toks → M Bool} (hr : Eats read) (hr' : Good read) (hm : Good more) : Eats (fun K => listM K most (read K) (more K)) := by
  intro K s a t h
  obtain ⟨x, u, h1, h2⟩ := bind_ok.1 h
  exact Nat.lt_of_lt_of_le (eats_add _ _ hr _ _ _ _ h1) ((good_loop most hr' hm _ _).le _ _ _ _ h2)

theorem good_name : Good nameM :=
  .bind (.ask _ fun _ _ _ _ h => by rw [(q_eq h).1, (q_eq h).2]) fun b => .ite b .take (.fail _)
theorem eats_name : Eats nameM := .ask fun b => .ite b eats_take (.fail _)
theorem good_arg : Good argM :=
  .bind (.ask _ fun _ _ _ _ h => by rw [(q_eq h).1]) fun b => .ite b .take good_name
theorem eats_arg : Eats argM := .ask fun b => .ite b eats_take eats_name
theorem good_quote : Good quoteM :=
  .bind (.ask _ fun _ _ _ _ h => by rw [(q_eq h).1]) fun b => .ite b .take (.fail _)

section
variable (F : Fns)
theorem good_date : Good (dateM F) :=
  .bind (.ask _ fun _ _ _ _ h => by rw [(q_eq h).1, (q_eq h).2]) fun b => .ite b (.bind (.ask _ fun _ _ _ _ h => by rw [(q_eq h).2]) fun _ => .bind .take fun _ => .pure _) (.fail _)
theorem good_int (a b : Int) : Good (fun K => intM F K a b) :=
  .bind (.ask _ fun _ _ _ _ h => by rw [(q_eq h).1, (q_eq h).2]) fun b => .ite b
    (.bind (.ask _ fun _ _ _ _ h => by rw [(q_eq h).2]) fun b => .ite b (.bind (.ask _ fun _ _ _ _ h => by rw [(q_eq h).2]) fun _ => .bind .take fun _ => .pure _) (.fail _)) (.fail _)
theorem eats_int (a b : Int) : Eats (fun K => intM F K a b) :=
  .ask fun b => .ite b (.ask fun b => .ite b (.ask fun _ => .bind eats_take fun _ => .pure _) (.fail _)) (.fail _)
theorem good_amount (sign : Bytes) : Good (fun K => amountM F K sign) :=
  .bind (.ask _ fun _ _ _ _ h => by rw [(q_eq h).1]) fun b => .ite b
    (.bind (.ask _ fun _ _ _ _ h => by rw [(q_eq h).2]) fun _ => .ite _ (.bind .take fun _ => .pure _) (.fail _)) (.fail _)
theorem eats_amount (sign : Bytes) : Eats (fun K => amountM F K sign) :=
  .ask fun b => .ite b (.ask fun _ => .ite _ (.bind eats_take fun _ => .pure _) (.fail _)) (.fail _)
theorem good_money : Good (moneyM F) := .bind (good_hasMark _) fun b => .ite b (good_amount F _) (good_amount F _)
theorem eats_money : Eats (moneyM F) := .bind' (good_hasMark _) fun b => .ite b (eats_amount F _) (eats_amount F _)
theorem good_brackets {read : Toks → M Bytes} (hr : Good read) : Good (fun K => bracketsM K (read K)) :=
  .bind (good_hasMark _) fun b => .ite b (.bind (good_list 4 hr good_comma) fun _ => .bind (good_wantMark _) fun _ => .pure _) (.pure _)
theorem good_literal : Good (literalM F) :=
  .bind (good_hasMark _) fun _ => .bind good_name fun _ => .bind (good_brackets good_arg) fun _ => .bind (good_hasMark _) fun b => .ite b (.bind (good_money F) fun _ => .pure _) (.pure _)
theorem eats_literal : Eats (literalM F) :=
  .bind' (good_hasMark _) fun _ => .bind eats_name fun _ => .bind (good_brackets good_arg) fun _ => .bind (good_hasMark _) fun b => .ite b (.bind (good_money F) fun _ => .pure _) (.pure _)
theorem good_plainTerm : Good (plainTermM F) :=
  .bind (.ask _ fun _ _ _ _ h => by rw [(q_eq h).1]) fun b => .ite b
    (.ask2 _ (fun _ _ _ _ _ h => q_mark2 h _)
      (fun b => .ite b (.bind (good_int F _ _) fun _ => .bind (good_wantMark _) fun _ => .bind good_name fun _ => .bind (good_brackets good_arg) fun _ => .pure _) (.bind (good_money F) fun _ => .pure _))
      (fun b => .ite b (.bind (eats_int F _ _) fun _ => .bind (good_wantMark _) fun _ => .bind good_name fun _ => .bind (good_brackets good_arg) fun _ => .pure _) (.bind (eats_money F) fun _ => .pure _)))
    (.bind (.ask _ fun _ _ _ _ h => q_mark h _) fun b => .ite b (.bind (good_money F) fun _ => .pure _) (.bind good_name fun _ => .bind (good_brackets good_arg) fun _ => .pure _))
theorem eats_plainTerm : Eats (plainTermM F) :=
  .ask fun b => .ite b
    (.ask fun b => .ite b (.bind (eats_int F _ _) fun _ => .bind (good_wantMark _) fun _ => .bind good_name fun _ => .bind (good_brackets good_arg) fun _ => .pure _) (.bind (eats_money F) fun _ => .pure _))
    (.ask fun b => .ite b (.bind (eats_money F) fun _ => .pure _) (.bind eats_name fun _ => .bind (good_brackets good_arg) fun _ => .pure _))
theorem good_term : Good (termM F) :=
  .bind (good_plainTerm F) fun _ => .bind (.ask _ fun _ _ _ _ _ => rfl) fun b => .ite b (.pure _) (.pure _)
theorem eats_term : Eats (termM F) :=
  .bind (eats_plainTerm F) fun _ => .bind (.ask _ fun _ _ _ _ _ => rfl) fun b => .ite b (.pure _) (.pure _)
theorem good_sign : Good signM :=
  .bind (good_hasMark _) fun m => .bind (.set _ (fun _ => rfl) fun _ _ => rfl) fun _ => .ite m (.pure _) (good_hasMark _)
theorem good_side : Good (sideM F) :=
  .bind (.set _ (fun _ => rfl) fun _ _ => rfl) fun _ => good_list 8 (good_term F) good_sign
theorem q_op {K K' : Toks} {s : RS} {d : Nat} (h : K[s.n]? = K'[s.n + d]?) : opAt K' (s.sh d).n = opAt K s.n := by
  unfold opAt
  simp only [q_mark h]
theorem q_arrow {K K' : Toks} {s : RS} {d : Nat} (h : K[s.n]? = K'[s.n + d]?) : arrowAt K' (s.sh d).n = arrowAt K s.n := by
  unfold arrowAt
  simp only [q_mark h]
theorem good_op : Good opM :=
  .bind (.ask _ fun _ _ _ _ h => q_op h) fun _ => .ite _ (.fail _) (.bind .take fun _ => .pure _)
theorem good_arrow : Good arrowM :=
  .bind (.ask _ fun _ _ _ _ h => q_arrow h) fun _ => .ite _ (.fail _) (.bind .take fun _ => .pure _)
theorem good_guard : Good (guardM F) :=
  .bind (good_wantMark _) fun _ => .bind (good_side F) fun _ => .bind good_op fun _ => .bind (good_side F) fun _ => .bind (good_wantMark _) fun _ => .pure _
theorem eats_guard : Eats (guardM F) :=
  .bind (eats_wantMark _) fun _ => .bind (good_side F) fun _ => .bind good_op fun _ => .bind (good_side F) fun _ => .bind (good_wantMark _) fun _ => .pure _
theorem good_unlike : Good unlikeM :=
  .bind good_arg fun _ => .bind (good_wantMark _) fun _ => .bind good_arg fun _ => .pure _
theorem eats_unlike : Eats unlikeM :=
  .bind eats_arg fun _ => .bind (good_wantMark _) fun _ => .bind good_arg fun _ => .pure _
theorem good_premise : Good (premiseM F) :=
  .ask2 _ (fun _ _ _ _ h h2 => by rw [(q_eq h).1, q_mark2 h2])
    (fun b => .ite b good_unlike (.bind (.ask _ fun _ _ _ _ h => q_mark h _) fun b => .ite b (.bind (good_guard F) fun _ => .pure _) (.bind (good_literal F) fun _ => .pure _)))
    (fun b => .ite b eats_unlike (.ask fun b => .ite b (.bind (eats_guard F) fun _ => .pure _) (.bind (eats_literal F) fun _ => .pure _)))
theorem good_body : Good (bodyM F) :=
  .bind (.ask _ fun _ _ _ _ h => by rw [q_arrow h]) fun b => .ite b (good_list 16 (good_premise F) good_comma) (.pure _)
theorem good_until : Good (untilM F) := .bind (good_hasWord _) fun b => .ite b (good_date F) (.pure _)
theorem good_rule : Good (ruleM F) :=
  .bind good_name fun _ => .bind (good_wantWord _) fun _ => .bind good_name fun _ => .bind (good_wantWord _) fun _ => .bind (good_date F) fun _ => .bind (good_until F) fun _ =>
    .bind (good_wantMark _) fun _ => .bind (good_body F) fun _ => .bind good_arrow fun _ => .bind (good_literal F) fun _ => .pure _
theorem good_members (most : Int) : Good (fun K => membersM K most) :=
  .bind (good_list most good_name good_comma) fun _ => .bind (good_wantMark _) fun _ => .bind good_name fun _ => .pure _
theorem good_pred (sort : Nat) : Good (fun K => predM K sort) := .bind good_name fun _ => .bind (good_brackets good_name) fun _ => .pure _
theorem good_amountPred : Good (amountPredM F) :=
  .bind (good_pred 3) fun _ => .bind (good_wantMark _) fun _ => .bind (good_list 64 (good_money F) good_comma) fun _ => .pure _
theorem good_class : Good classM := .bind (good_list 16 good_name good_comma) fun _ => .ite _ (.fail _) (.pure _)
theorem good_source : Good (sourceM F) := .bind good_name fun _ => .bind (good_wantWord _) fun _ => .bind (good_int F _ _) fun _ => .pure _
theorem good_exception : Good exceptionM := .bind good_name fun _ => .bind (good_wantWord _) fun _ => .bind good_name fun _ => .pure _
theorem good_total : Good (totalM F) :=
  .bind good_name fun _ => .bind (good_wantMark _) fun _ => .bind good_name fun _ => .bind (good_wantMark _) fun _ => .bind (good_wantMark _) fun _ =>
    .bind (good_list 16 good_name good_comma) fun _ => .bind (good_hasWord _) fun b => .ite b (.bind (good_money F) fun _ => .pure _) (.pure _)
end
end Go.Proofs.YthnjmfkiohgkkaaGreatDoor.Sy
