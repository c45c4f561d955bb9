/- A walk, deep first, in memory. -/
import Derived.Test.YtdmnoeooljofcaaFix
import Derived.Test.YtdmnoeooljofcaaLast
namespace Go.Proofs.Ytdmnoeooljofcaa
open Go.RowKit

/-! The pure side. -/
/-- How many were not come to yet. -/
def unv (l : List Int) : Nat := (l.filter fun z => decide (z = 0)).length
theorem unv_set {l : List Int} {i : Nat} {z : Int} (hi : i < l.length) (h0 : l.getD i 0 = 0) (hz : z ≠ 0) : unv (l.set i z) + 1 = unv l := by
  induction l generalizing i with
  | nil => simp at hi
  | cons x r ih =>
    cases i with
    | zero =>
      have hx : x = 0 := by simpa using h0
      subst hx
      simp [unv, hz]
    | succ i =>
      have := ih (i := i) (by simpa using hi) (by simpa using h0)
      unfold unv at this ⊢
      by_cases hx : x = 0
      · simp [hx] at this ⊢; omega
      · simp [hx] at this ⊢; omega
structure OkW (n : Nat) (s : Wk) : Prop where
  lc : s.came.length = n
  lb : s.back.length = n
  ls : s.shut.length = n
  c0 : 0 ≤ s.clock
  c1 : s.clock + unv s.came ≤ n
  op : ∀ z ∈ s.opn, 0 ≤ z ∧ z < n
  ol : (s.opn.length : Int) ≤ s.clock
  kl : (s.knots.length : Int) + s.opn.length ≤ s.clock
  kn : ∀ k ∈ s.knots, 1 ≤ k.length ∧ k.length ≤ n ∧ ∀ z ∈ k, 0 ≤ z ∧ z < n
theorem pop_spec {f : Int} : ∀ {l : List Int}, f ∈ l → l = (popM f l).1 ++ (popM f l).2 ∧ (∃ pre, (popM f l).1 = pre ++ [f] ∧ f ∉ pre)
  | [], h => by simp at h
  | x :: r, h => by
    unfold popM
    by_cases e : x = f
    · rw [if_pos e]
      exact ⟨rfl, [], by simp [e], by simp⟩
    · rw [if_neg e]
      obtain ⟨h1, pre, h2, h3⟩ := pop_spec (show f ∈ r by rcases List.mem_cons.1 h with h | h; exact absurd h.symm e; exact h)
      refine ⟨by simp only [List.cons_append]; rw [← h1], x :: pre, by simp only [h2]; rfl, ?_⟩
      simp only [List.mem_cons, not_or]
      exact ⟨fun h => e h.symm, h3⟩
theorem pop_prefix {f : Int} {a b : List Int} (h : f ∈ b) : ∃ r, (popM f (b ++ a)).2 = r ++ a := by
  induction b with
  | nil => simp at h
  | cons x r ih =>
    show ∃ q, (popM f (x :: (r ++ a))).2 = q ++ a
    unfold popM
    by_cases e : x = f
    · rw [if_pos e]; exact ⟨r, rfl⟩
    · rw [if_neg e]
      exact ih (by rcases List.mem_cons.1 h with h | h; exact absurd h.symm e; exact h)
theorem shutAll_len : ∀ {k : List Int} {sh : List Bool}, (shutAll sh k).length = sh.length
  | [], sh => rfl
  | x :: r, sh => by unfold shutAll; rw [shutAll_len]; simp
theorem shutAll_app : ∀ {a b : List Int} {sh : List Bool}, shutAll sh (a ++ b) = shutAll (shutAll sh a) b
  | [], b, sh => rfl
  | x :: r, b, sh => by show shutAll (sh.set x.toNat true) (r ++ b) = _; rw [shutAll_app]; rfl
section
variable {n : Nat} {s : Wk} {p o : Int}
theorem OkW.come (h : OkW n s) (hp : 0 ≤ p ∧ p < n) (h0 : s.came.getD p.toNat 0 = 0) : OkW n (comeM p s) ∧ unv (comeM p s).came + 1 = unv s.came := by
  have hc := h.c0
  have hu := unv_set (i := p.toNat) (z := s.clock + 1) (by rw [h.lc]; omega) h0 (by omega)
  have h1 := h.c1
  have h2 := h.ol
  have h3 := h.kl
  refine ⟨⟨?_, ?_, h.ls, ?_, ?_, ?_, ?_, ?_, h.kn⟩, hu⟩
  · show (s.came.set p.toNat (s.clock + 1)).length = n; rw [List.length_set]; exact h.lc
  · show (s.back.set p.toNat (s.clock + 1)).length = n; rw [List.length_set]; exact h.lb
  · show 0 ≤ s.clock + 1; omega
  · show s.clock + 1 + (unv (s.came.set p.toNat (s.clock + 1)) : Int) ≤ n; omega
  · intro z hz
    rcases List.mem_append.1 hz with hz | hz
    · exact h.op z hz
    · simp at hz; subst hz; exact hp
  · show ((s.opn ++ [p]).length : Int) ≤ s.clock + 1; simp; omega
  · show (s.knots.length : Int) + ((s.opn ++ [p]).length : Int) ≤ s.clock + 1; simp; omega
theorem OkW.lower (h : OkW n s) : OkW n (lowerM p o s) := by
  unfold lowerM
  split
  · exact h
  · exact ⟨h.lc, by rw [List.length_set]; exact h.lb, h.ls, h.c0, h.c1, h.op, h.ol, h.kl, h.kn⟩
theorem lower_came : (lowerM p o s).came = s.came ∧ (lowerM p o s).opn = s.opn := by
  unfold lowerM
  split <;> exact ⟨rfl, rfl⟩
theorem OkW.shutK (h : OkW n s) (hp : p ∈ s.opn) : OkW n (shutM p s) := by
  obtain ⟨h1, pre, h2, h3⟩ := pop_spec (f := p) (l := s.opn.reverse) (by simpa using hp)
  have hl := congrArg List.length h1
  rw [List.length_append, List.length_reverse] at hl
  have hl1 : 1 ≤ (popM p s.opn.reverse).1.length := by rw [h2]; simp
  have hmem : ∀ z, z ∈ (popM p s.opn.reverse).1 ∨ z ∈ (popM p s.opn.reverse).2 → z ∈ s.opn := fun z hz => by
    have : z ∈ s.opn.reverse := by rw [h1]; exact List.mem_append.2 hz
    simpa using this
  have q1 := h.ol
  have q2 := h.kl
  have q3 := h.c1
  refine ⟨h.lc, h.lb, ?_, h.c0, h.c1, fun z hz => ?_, ?_, ?_, fun k hk => ?_⟩
  · show (shutAll s.shut _).length = n; rw [shutAll_len]; exact h.ls
  · exact h.op z (hmem z (.inr (by simpa [shutM] using hz)))
  · show (((popM p s.opn.reverse).2.reverse).length : Int) ≤ s.clock; rw [List.length_reverse]; omega
  · show ((s.knots ++ [(popM p s.opn.reverse).1]).length : Int) + (((popM p s.opn.reverse).2.reverse).length : Int) ≤ s.clock
    rw [List.length_append, List.length_reverse]; simp; omega
  · rcases List.mem_append.1 (show k ∈ s.knots ++ [(popM p s.opn.reverse).1] from hk) with hk | hk
    · exact h.kn k hk
    · simp at hk
      subst hk
      exact ⟨hl1, by omega, fun z hz => h.op z (hmem z (.inl hz))⟩
theorem shut_pre {q : List Int} (hp : ∃ ex, s.opn = q ++ [p] ++ ex) : ∃ ex, (shutM p s).opn = q ++ ex := by
  obtain ⟨ex, e⟩ := hp
  obtain ⟨r, hr⟩ := pop_prefix (f := p) (a := q.reverse) (b := ex.reverse ++ [p]) (by simp)
  refine ⟨r.reverse, ?_⟩
  show ((popM p s.opn.reverse).2).reverse = _
  have : s.opn.reverse = (ex.reverse ++ [p]) ++ q.reverse := by rw [e]; simp
  rw [this, hr]
  simp
end
/-- What a visit keeps. -/
theorem visit_ok {next : List (List Int)} {n : Nat} (hn : ∀ (i : Nat) l, next[i]? = some l → ∀ z ∈ l, 0 ≤ z ∧ z < (n : Int)) :
    ∀ f p s, OkW n s → 0 ≤ p ∧ p < (n : Int) → s.came.getD p.toNat 0 = 0 → OkW n (visitM next f p s) ∧ unv (visitM next f p s).came ≤ unv s.came ∧ ∃ ex, (visitM next f p s).opn = s.opn ++ ex := by
  intro f
  induction f with
  | zero => intro p s h _ _; exact ⟨h, Nat.le_refl _, [], by simp [visitM]⟩
  | succ f ih =>
    intro p s h hp h0
    obtain ⟨hc, hu⟩ := h.come hp h0
    have key : ∀ (l : List Int) (t : Wk), (∀ z ∈ l, 0 ≤ z ∧ z < (n : Int)) → OkW n t → OkW n (othersM (visitM next f) p l t) ∧ unv (othersM (visitM next f) p l t).came ≤ unv t.came ∧ ∃ ex, (othersM (visitM next f) p l t).opn = t.opn ++ ex := by
      intro l
      induction l with
      | nil => intro t _ ht; exact ⟨ht, Nat.le_refl _, [], by simp [othersM]⟩
      | cons o r ihl =>
        intro t hl ht
        unfold othersM
        by_cases hz : t.came.getD o.toNat 0 = 0
        · rw [if_pos hz]
          obtain ⟨a1, a2, ex, a3⟩ := ih o t ht (hl o (by simp)) hz
          obtain ⟨b1, b2, ex2, b3⟩ := ihl (lowerM p o (visitM next f o t)) (fun z hz => hl z (by simp [hz])) a1.lower
          refine ⟨b1, by rw [lower_came.1] at b2; omega, ex ++ ex2, ?_⟩
          rw [b3, lower_came.2, a3]
          simp
        · rw [if_neg hz]
          obtain ⟨b1, b2, ex2, b3⟩ := ihl (lowerM p o t) (fun z hz => hl z (by simp [hz])) ht.lower
          exact ⟨b1, by rw [lower_came.1] at b2; omega, ex2, by rw [b3, lower_came.2]⟩
    have hrow : ∀ z ∈ row next p, 0 ≤ z ∧ z < (n : Int) := by
      intro z hz
      unfold row at hz
      rw [List.getD_eq_getElem?_getD] at hz
      cases hg : next[p.toNat]? with
      | none => rw [hg] at hz; simp at hz
      | some l => rw [hg] at hz; exact hn _ l hg z hz
    obtain ⟨k1, k2, ex, k3⟩ := key (row next p) (comeM p s) hrow hc
    have k3' : (othersM (visitM next f) p (row next p) (comeM p s)).opn = s.opn ++ [p] ++ ex := k3
    show OkW n (endM p _) ∧ unv (endM p _).came ≤ _ ∧ _
    unfold visitM endM
    split
    · refine ⟨k1.shutK (by rw [k3']; simp), ?_, ?_⟩
      · show unv (othersM (visitM next f) p (row next p) (comeM p s)).came ≤ _; omega
      · exact shut_pre ⟨ex, k3'⟩
    · exact ⟨k1, by omega, [p] ++ ex, by rw [k3']; simp⟩

/-! In memory. -/
theorem fx_ne {g g' T T' : Nat} {vs vs' : List Value} {w : World} (h : Fx g T vs w) (h' : Fx g' T' vs' w) (hT : T ≠ T') : g ≠ g' := by
  intro e
  subst e
  rw [Fx] at h h'
  rw [h] at h'
  cases h'
  exact hT rfl
theorem own_fx {w : World} {b g T e : Nat} {v : Value} {n : Nat} {xs vs : List Value} (h : w.ownsRow b e 1 v n xs) (hg : Fx g T vs w) (hT : e ≠ T) : v.ownBlock ≠ some g := own_ne (owns_down h (Nat.zero_le _)) hg hT
abbrev sl (g n : Nat) : Value := .slice (some ⟨g, 0, none⟩) n n
abbrev wkv (nv : Value) (n cb bb sb : Nat) (ov kv : Value) (clock : Int) : List Value := [nv, sl cb n, sl bb n, .int .i64 clock, ov, sl sb n, kv]
structure Wi (B W : Nat) (nv : Value) (next : List (List Int)) (n cb bb sb : Nat) (ov kv : Value) (Z : Nat → Prop) (s : Wk) (w : World) : Prop where
  bx : Fx W 113 (wkv nv n cb bb sb ov kv s.clock) w
  nx : Lists B w next nv
  lo : B ≤ W ∧ B ≤ cb ∧ B ≤ bb ∧ B ≤ sb
  fc : Fx cb 3 (ints s.came) w
  fb : Fx bb 3 (ints s.back) w
  fs : Fx sb 4 (bools s.shut) w
  ro : w.ownsRow B 3 1 ov s.opn.length (ints s.opn)
  ne : cb ≠ bb ∧ ov.ownBlock ≠ some cb ∧ ov.ownBlock ≠ some bb
  rk : ∃ xs, w.ownsRow B 38 1 kv s.knots.length xs ∧ ∀ (i : Nat) k, s.knots[i]? = some k → ∃ v, xs[i]? = some v ∧ RZ Z 1 cI w k v
  z : ∀ g, Z g → B ≤ g ∧ g ≠ cb ∧ g ≠ bb ∧ ov.ownBlock ≠ some g ∧ ∃ vs, Fx g 3 vs w
section
variable {B W : Nat} {nv : Value} {next : List (List Int)} {n cb bb sb : Nat} {ov kv : Value} {Z : Nat → Prop} {s : Wk} {w w' : World}
theorem RZ.rep {α : Type} {k : Nat} {c : World → α → List Value → Prop} {l : List α} {v : Value} (h : RZ Z k c w l v) (hb : ∀ g, Z g → w'.heap[g]? = w.heap[g]?) (hc : ∀ a xs, c w a xs → c w' a xs) : RZ Z k c w' l v := RZ.keep h (fun g hg => ⟨hg, hb g hg⟩) hc
theorem knots_keep {ks : List (List Int)} (h : ∃ xs, w.ownsRow B 38 1 kv ks.length xs ∧ ∀ (i : Nat) k, ks[i]? = some k → ∃ v, xs[i]? = some v ∧ RZ Z 1 cI w k v) (hk : ∀ g, kv.ownBlock = some g → w'.heap[g]? = w.heap[g]?) (hb : ∀ g, Z g → w'.heap[g]? = w.heap[g]?) :
    ∃ xs, w'.ownsRow B 38 1 kv ks.length xs ∧ ∀ (i : Nat) k, ks[i]? = some k → ∃ v, xs[i]? = some v ∧ RZ Z 1 cI w' k v := by
  obtain ⟨xs, h1, h2⟩ := h
  refine ⟨xs, owns_keep h1 hk, fun i k hi => ?_⟩
  obtain ⟨v, h3, h4⟩ := h2 i k hi
  exact ⟨v, h3, h4.rep hb fun _ _ h => h⟩
theorem z_keep (h : ∀ g, Z g → B ≤ g ∧ g ≠ cb ∧ g ≠ bb ∧ ov.ownBlock ≠ some g ∧ ∃ vs, Fx g 3 vs w) (hb : ∀ g, Z g → w'.heap[g]? = w.heap[g]?) : ∀ g, Z g → B ≤ g ∧ g ≠ cb ∧ g ≠ bb ∧ ov.ownBlock ≠ some g ∧ ∃ vs, Fx g 3 vs w' := fun g hg => by
  obtain ⟨h1, h2, h3, h4, vs, h5⟩ := h g hg
  exact ⟨h1, h2, h3, h4, vs, h5.keep (hb g hg)⟩
/-- New blocks alone. -/
theorem Wi.call (h : Wi B W nv next n cb bb sb ov kv Z s w) (hb : Below w.heap.size w w') (hB : B ≤ w.heap.size) : Wi B W nv next n cb bb sb ov kv Z s w' := by
  have hz : ∀ g, Z g → w'.heap[g]? = w.heap[g]? := fun g hg => by obtain ⟨_, _, _, _, vs, h5⟩ := h.z g hg; exact hb.block g h5.lt
  obtain ⟨xs, k1, _⟩ := h.rk
  exact ⟨h.bx.keep (hb.block _ h.bx.lt), h.nx.keep fun g hg => hb.block g (by omega), h.lo, h.fc.keep (hb.block _ h.fc.lt), h.fb.keep (hb.block _ h.fb.lt), h.fs.keep (hb.block _ h.fs.lt), owns_keep h.ro fun g hg => hb.block g (owns_lt h.ro hg), h.ne, knots_keep h.rk (fun g hg => hb.block g (owns_lt k1 hg)) hz, z_keep h.z hz⟩
/-- A cell of one block is written: what stays. -/
theorem Wi.hz (h : Wi B W nv next n cb bb sb ov kv Z s w) {q : Nat} (hq : q = W ∨ q = cb ∨ q = bb ∨ q = sb) : ∀ g, Z g → g ≠ q := fun g hg => by
  obtain ⟨_, h2, h3, _, vs, h5⟩ := h.z g hg
  rcases hq with rfl | rfl | rfl | rfl
  · exact fx_ne h5 h.bx (by decide)
  · exact h2
  · exact h3
  · exact fx_ne h5 h.fs (by decide)
theorem Wi.set (h : Wi B W nv next n cb bb sb ov kv Z s w) {q i : Nat} {u : Value} (hq : q = W ∨ q = cb ∨ q = bb ∨ q = sb) {s' : Wk} (e1 : s'.opn = s.opn) (e2 : s'.knots = s.knots)
    (bx : Fx W 113 (wkv nv n cb bb sb ov kv s'.clock) (w.setCell ⟨q, i, none⟩ u)) (fc : Fx cb 3 (ints s'.came) (w.setCell ⟨q, i, none⟩ u)) (fb : Fx bb 3 (ints s'.back) (w.setCell ⟨q, i, none⟩ u)) (fs : Fx sb 4 (bools s'.shut) (w.setCell ⟨q, i, none⟩ u)) :
    Wi B W nv next n cb bb sb ov kv Z s' (w.setCell ⟨q, i, none⟩ u) := by
  obtain ⟨l1, l2, l3, l4⟩ := h.lo
  have hBq : B ≤ q := by rcases hq with rfl | rfl | rfl | rfl <;> assumption
  have hz := h.hz hq
  have hoq : ov.ownBlock ≠ some q := by
    rcases hq with rfl | rfl | rfl | rfl
    · exact own_fx h.ro h.bx (by decide)
    · exact h.ne.2.1
    · exact h.ne.2.2
    · exact own_fx h.ro h.fs (by decide)
  obtain ⟨xs, k1, _⟩ := h.rk
  have hkq : kv.ownBlock ≠ some q := by
    rcases hq with rfl | rfl | rfl | rfl
    · exact own_fx k1 h.bx (by decide)
    · exact own_fx k1 h.fc (by decide)
    · exact own_fx k1 h.fb (by decide)
    · exact own_fx k1 h.fs (by decide)
  refine ⟨bx, h.nx.keep fun g hg => other_set (by omega), h.lo, fc, fb, fs, ?_, h.ne, ?_, z_keep h.z fun g hg => other_set (hz g hg)⟩
  · rw [e1]
    exact owns_keep h.ro fun g hg => other_set fun e => hoq (e ▸ hg)
  · rw [e2]
    exact knots_keep h.rk (fun g hg => other_set fun e => hkq (e ▸ hg)) fun g hg => other_set (hz g hg)
theorem Wi.clock (h : Wi B W nv next n cb bb sb ov kv Z s w) (z : Int) : Wi B W nv next n cb bb sb ov kv Z { s with clock := z } (w.setCell ⟨W, 3, none⟩ (.int .i64 z)) :=
  h.set (.inl rfl) rfl rfl (h.bx.set 3 _) (h.fc.keep (other_set (fx_ne h.fc h.bx (by decide)))) (h.fb.keep (other_set (fx_ne h.fb h.bx (by decide)))) (h.fs.keep (other_set (fx_ne h.fs h.bx (by decide))))
theorem Wi.came (h : Wi B W nv next n cb bb sb ov kv Z s w) (i : Nat) (z : Int) : Wi B W nv next n cb bb sb ov kv Z { s with came := s.came.set i z } (w.setCell ⟨cb, i, none⟩ (.int .i64 z)) :=
  h.set (.inr (.inl rfl)) rfl rfl (h.bx.keep (other_set (fx_ne h.bx h.fc (by decide)))) (by show Fx _ _ (ints (s.came.set i z)) _; rw [← ints_set]; exact h.fc.set i _) (h.fb.keep (other_set (fun e => h.ne.1 e.symm))) (h.fs.keep (other_set (fx_ne h.fs h.fc (by decide))))
theorem Wi.back (h : Wi B W nv next n cb bb sb ov kv Z s w) (i : Nat) (z : Int) : Wi B W nv next n cb bb sb ov kv Z { s with back := s.back.set i z } (w.setCell ⟨bb, i, none⟩ (.int .i64 z)) :=
  h.set (.inr (.inr (.inl rfl))) rfl rfl (h.bx.keep (other_set (fx_ne h.bx h.fb (by decide)))) (h.fc.keep (other_set h.ne.1)) (by show Fx _ _ (ints (s.back.set i z)) _; rw [← ints_set]; exact h.fb.set i _) (h.fs.keep (other_set (fx_ne h.fs h.fb (by decide))))
theorem Wi.shut (h : Wi B W nv next n cb bb sb ov kv Z s w) (i : Nat) : Wi B W nv next n cb bb sb ov kv Z { s with shut := s.shut.set i true } (w.setCell ⟨sb, i, none⟩ (.bool true)) :=
  h.set (.inr (.inr (.inr rfl))) rfl rfl (h.bx.keep (other_set (fx_ne h.bx h.fs (by decide)))) (h.fc.keep (other_set (fx_ne h.fc h.fs (by decide)))) (h.fb.keep (other_set (fx_ne h.fb h.fs (by decide)))) (by show Fx _ _ (bools (s.shut.set i true)) _; rw [← bools_set]; exact h.fs.set i _)
end
end Go.Proofs.Ytdmnoeooljofcaa
/- shutKnot. -/
namespace Go.Proofs.Ytdmnoeooljofcaa
open Go.RowKit

theorem pop_split {f : Int} : ∀ {pre r : List Int}, f ∉ pre → popM f (pre ++ f :: r) = (pre ++ [f], r)
  | [], r, _ => by show popM f (f :: r) = _; unfold popM; rw [if_pos rfl]; rfl
  | x :: pre, r, h => by
    show popM f (x :: (pre ++ f :: r)) = _
    unfold popM
    rw [if_neg (fun e => h (by simp [e])), pop_split (fun hm => h (by simp [hm]))]
    rfl
theorem owns_take {w : World} {B e k : Nat} {a : Option Addr} {n c : Nat} {xs : List Value} (h : w.ownsRow B e k (.slice a n c) n xs) {m : Nat} (hm : m ≤ n) (ha : a ≠ none) : w.ownsRow B e k (.slice a m c) m (xs.take (m * k)) := by
  obtain ⟨h1, h2⟩ := h
  rcases h2 with ⟨e1, _⟩ | ⟨g, cap, cur, e1, h3, h4, h5, h6, h7, h8⟩
  · cases e1; exact absurd rfl ha
  · cases e1
    have hmk : m * k ≤ n * k := Nat.mul_le_mul_right k hm
    refine ⟨by rw [List.length_take, h1]; omega, .inr ⟨g, c, cur, rfl, h3, h4, by omega, h6, h7, ?_⟩⟩
    rw [← h8, List.take_take, Nat.min_eq_left hmk]
/-- A knot that is being made. -/
structure Mv (B cb bb : Nat) (ov : Value) (Z : Nat → Prop) (mv : Value) (kn : List Int) (w : World) : Prop where
  row : w.ownsRow B 3 1 mv kn.length (ints kn)
  ne : ∀ g, mv.ownBlock = some g → g ≠ cb ∧ g ≠ bb ∧ ov.ownBlock ≠ some g ∧ ¬ Z g
section
variable {B W : Nat} {nv : Value} {next : List (List Int)} {n cb bb sb : Nat} {ov kv mv : Value} {Z : Nat → Prop} {s : Wk} {w w' : World} {kn : List Int}
/-- The knot's row alone is written, or new blocks. -/
theorem Wi.grown (h : Wi B W nv next n cb bb sb ov kv Z s w) (hm : Mv B cb bb ov Z mv kn w) (hB : B ≤ w.heap.size) (hb : ∀ k, k < w.heap.size → mv.ownBlock ≠ some k → w'.heap[k]? = w.heap[k]?) : Wi B W nv next n cb bb sb ov kv Z s w' := by
  have hz : ∀ g, Z g → w'.heap[g]? = w.heap[g]? := fun g hg => by obtain ⟨_, _, _, _, vs, h5⟩ := h.z g hg; exact hb g h5.lt fun e => (hm.ne g e).2.2.2 hg
  obtain ⟨xs, k1, _⟩ := h.rk
  refine ⟨h.bx.keep (hb _ h.bx.lt (own_fx hm.row h.bx (by decide))), h.nx.keep fun g hg => hb g (by omega) fun e => by have := (hm.row.lt g e).1; omega, h.lo, h.fc.keep (hb _ h.fc.lt fun e => (hm.ne _ e).1 rfl), h.fb.keep (hb _ h.fb.lt fun e => (hm.ne _ e).2.1 rfl), h.fs.keep (hb _ h.fs.lt (own_fx hm.row h.fs (by decide))), owns_keep h.ro fun g hg => hb g (owns_lt h.ro hg) fun e => (hm.ne g e).2.2.1 hg, h.ne, knots_keep h.rk (fun g hg => hb g (owns_lt k1 hg) ?_) hz, z_keep h.z hz⟩
  exact own_ne2 (owns_down hm.row (Nat.zero_le _)) (owns_down k1 (Nat.zero_le _)) (by decide) hg
theorem Mv.nil : Mv B cb bb ov Z (.slice none 0 0) [] w := ⟨⟨rfl, .inl ⟨rfl, rfl⟩⟩, fun g e => by cases e⟩
theorem Mv.grow (h : Wi B W nv next n cb bb sb ov kv Z s w) (hm : Mv B cb bb ov Z mv kn w) {x : Int} {g4 cap4 : Nat} {ob : Obj} (hown : w'.ownsRow B 3 1 (.slice (some ⟨g4, 0, none⟩) (kn.length + 1) cap4) (kn.length + 1) (ints kn ++ [.int .i64 x]))
    (hg : (mv.ownBlock = some g4 ∧ (w.alloc ob).grownBy w' (some g4)) ∨ (g4 = w.heap.size + 1 ∧ (w.alloc ob).grownBy w' none)) : Mv B cb bb ov Z (.slice (some ⟨g4, 0, none⟩) (kn.length + 1) cap4) (kn ++ [x]) w' := by
  refine ⟨by rw [List.length_append, ints_snoc]; exact hown, fun g e => ?_⟩
  have e' : g4 = g := by simpa [Value.ownBlock] using e
  subst e'
  clear e
  rcases hg with ⟨h1, _⟩ | ⟨rfl, _⟩
  · exact hm.ne g4 h1
  · refine ⟨fun e => ?_, fun e => ?_, fun e => ?_, fun e => ?_⟩
    · have := h.fc.lt; omega
    · have := h.fb.lt; omega
    · have := owns_lt h.ro e; omega
    · obtain ⟨_, _, _, _, vs, h5⟩ := h.z _ e; have := h5.lt; omega
theorem Mv.set (h : Wi B W nv next n cb bb sb ov kv Z s w) (hm : Mv B cb bb ov Z mv kn w) {q i : Nat} {u : Value} (hq : q = W ∨ q = sb) {ov' : Value} (ho : ov'.ownBlock = ov.ownBlock) : Mv B cb bb ov' Z mv kn (w.setCell ⟨q, i, none⟩ u) := by
  refine ⟨owns_keep hm.row fun g hg => other_set fun e => ?_, fun g e => by obtain ⟨h1, h2, h3, h4⟩ := hm.ne g e; exact ⟨h1, h2, by rw [ho]; exact h3, h4⟩⟩
  subst e
  rcases hq with rfl | rfl
  · exact own_fx hm.row h.bx (by decide) hg
  · exact own_fx hm.row h.fs (by decide) hg
/-- The open ones, one less. -/
theorem Wi.pop (h : Wi B W nv next n cb bb sb ov kv Z s w) {q : List Int} {x : Int} (hq : s.opn = q ++ [x]) {g0 m c : Nat} (ho : ov = .slice (some ⟨g0, 0, none⟩) m c) : Wi B W nv next n cb bb sb (.slice (some ⟨g0, 0, none⟩) q.length c) kv Z { s with opn := q } (w.setCell ⟨W, 4, none⟩ (.slice (some ⟨g0, 0, none⟩) q.length c)) := by
  subst ho
  have hro := h.ro
  have hl : s.opn.length = q.length + 1 := by rw [hq]; simp
  have hm : m = q.length + 1 := by
    rcases hro.2 with ⟨e, h0⟩ | ⟨g, cap, cur, e, _⟩
    · omega
    · simp only [Value.slice.injEq] at e; omega
  subst hm
  rw [hl] at hro
  have hr2 := owns_take (m := q.length) hro (by omega) (by simp)
  have e1 : (ints s.opn).take (q.length * 1) = ints q := by rw [hq, ints_snoc, Nat.mul_one, ← ints_len (l := q), List.take_left]
  rw [e1] at hr2
  have hz := h.hz (.inl rfl)
  obtain ⟨l1, l2, l3, l4⟩ := h.lo
  obtain ⟨xs, k1, _⟩ := h.rk
  have hoW0 : (Value.slice (some ⟨g0, 0, none⟩) (q.length + 1) c).ownBlock ≠ some W := own_fx h.ro h.bx (by decide)
  have hoW : (Value.slice (some ⟨g0, 0, none⟩) q.length c).ownBlock ≠ some W := hoW0
  have hne : cb ≠ bb ∧ (Value.slice (some ⟨g0, 0, none⟩) q.length c).ownBlock ≠ some cb ∧ (Value.slice (some ⟨g0, 0, none⟩) q.length c).ownBlock ≠ some bb := h.ne
  have hzz : ∀ g, Z g → B ≤ g ∧ g ≠ cb ∧ g ≠ bb ∧ (Value.slice (some ⟨g0, 0, none⟩) q.length c).ownBlock ≠ some g ∧ ∃ vs, Fx g 3 vs w := h.z
  refine ⟨h.bx.set 4 _, h.nx.keep fun g hg => other_set (by omega), h.lo, h.fc.keep (other_set (fx_ne h.fc h.bx (by decide))), h.fb.keep (other_set (fx_ne h.fb h.bx (by decide))), h.fs.keep (other_set (fx_ne h.fs h.bx (by decide))), ?_, hne, knots_keep h.rk (fun g hg => other_set fun e => own_fx k1 h.bx (by decide) (e ▸ hg)) fun g hg => other_set (hz g hg), z_keep hzz fun g hg => other_set (hz g hg)⟩
  exact owns_keep hr2 fun g hg => other_set fun e => hoW (e ▸ hg)
/-- One knot more. -/
theorem Wi.knot (h : Wi B W nv next n cb bb sb ov kv Z s w) (hm : Mv B cb bb ov Z mv kn w) (hB : B ≤ w.heap.size) (hkl : kn.length ≤ 4096) {xs : List Value} (hx : w.ownsRow B 38 1 kv s.knots.length xs) (hxs : ∀ (i : Nat) k, s.knots[i]? = some k → ∃ v, xs[i]? = some v ∧ RZ Z 1 cI w k v) {g4 cap4 : Nat} {ob : Obj} (hown : w'.ownsRow B 38 1 (.slice (some ⟨g4, 0, none⟩) (s.knots.length + 1) cap4) (s.knots.length + 1) (xs ++ [mv]))
    (hg : (kv.ownBlock = some g4 ∧ (w.alloc ob).grownBy w' (some g4)) ∨ (g4 = w.heap.size + 1 ∧ (w.alloc ob).grownBy w' none)) :
    Wi B W nv next n cb bb sb ov (.slice (some ⟨g4, 0, none⟩) (s.knots.length + 1) cap4) (fun g => Z g ∨ mv.ownBlock = some g) { s with knots := s.knots ++ [kn] } (w'.setCell ⟨W, 6, none⟩ (.slice (some ⟨g4, 0, none⟩) (s.knots.length + 1) cap4)) := by
  have ho : ∀ k, k < w.heap.size → kv.ownBlock ≠ some k → w'.heap[k]? = w.heap[k]? := fun k hk hn => grown_old rfl hg hk hn
  have hkW : kv.ownBlock ≠ some W := own_fx hx h.bx (by decide)
  have hbx := h.bx.keep (ho _ h.bx.lt hkW)
  have hfc := h.fc.keep (ho _ h.fc.lt (own_fx hx h.fc (by decide)))
  have hfb := h.fb.keep (ho _ h.fb.lt (own_fx hx h.fb (by decide)))
  have hfs := h.fs.keep (ho _ h.fs.lt (own_fx hx h.fs (by decide)))
  have hzk : ∀ g, Z g → w'.heap[g]? = w.heap[g]? := fun g hg => by
    obtain ⟨_, _, _, _, vs, h5⟩ := h.z g hg
    exact ho g h5.lt (own_fx hx h5 (by decide))
  have hmk : ∀ g, mv.ownBlock = some g → w'.heap[g]? = w.heap[g]? := fun g e => ho g (owns_lt hm.row e) (own_ne2 (owns_down hx (Nat.zero_le _)) (owns_down hm.row (Nat.zero_le _)) (by decide) e)
  obtain ⟨l1, l2, l3, l4⟩ := h.lo
  have hmf : ∀ g, mv.ownBlock = some g → ∃ vs, Fx g 3 vs w := fun g e => by
    rcases hm.row.2 with ⟨e2, _⟩ | ⟨g', cap, cur, e2, _, h4, _⟩
    · rw [e2] at e; cases e
    · rw [e2] at e; cases e; exact ⟨cur.toList, by unfold Fx; rw [Array.toArray_toList]; exact h4⟩
  have hZW : ∀ g, (Z g ∨ mv.ownBlock = some g) → g ≠ W := fun g hg => by
    rcases hg with hg | hg
    · exact h.hz (.inl rfl) g hg
    · obtain ⟨vs, hv⟩ := hmf g hg; exact fx_ne hv h.bx (by decide)
  have hZ : ∀ g, (Z g ∨ mv.ownBlock = some g) → (w'.setCell ⟨W, 6, none⟩ (.slice (some ⟨g4, 0, none⟩) (s.knots.length + 1) cap4)).heap[g]? = w.heap[g]? := fun g hg => by
    rw [other_set (hZW g hg)]
    rcases hg with hg | hg
    · exact hzk g hg
    · exact hmk g hg
  refine ⟨hbx.set 6 _, h.nx.keep fun g hg => ?_, h.lo, hfc.keep (other_set (fx_ne hfc hbx (by decide))), hfb.keep (other_set (fx_ne hfb hbx (by decide))), hfs.keep (other_set (fx_ne hfs hbx (by decide))), owns_keep h.ro fun g hg => ?_, h.ne, ?_, fun g hg => ?_⟩
  · rw [other_set (by omega)]
    exact ho g (by omega) fun e => by have := (hx.lt g e).1; omega
  · rw [other_set fun (e : g = W) => own_fx h.ro h.bx (by decide) (e ▸ hg)]
    exact ho g (owns_lt h.ro hg) (own_ne2 (owns_down hx (Nat.zero_le _)) (owns_down h.ro (Nat.zero_le _)) (by decide) hg)
  · refine ⟨xs ++ [mv], by show World.ownsRow _ _ _ _ _ (s.knots ++ [kn]).length _; rw [List.length_append]; exact owns_keep hown fun g e => other_set fun e2 => own_fx hown hbx (by decide) (e2 ▸ e), fun i k hi => ?_⟩
    have hxl : xs.length = s.knots.length := by have := hx.1; omega
    by_cases hil : i < s.knots.length
    · rw [List.getElem?_append_left hil] at hi
      obtain ⟨v, h3, h4⟩ := hxs i k hi
      exact ⟨v, by rw [List.getElem?_append_left (by omega)]; exact h3, RZ.keep h4 (fun g hg => ⟨.inl hg, hZ g (.inl hg)⟩) fun _ _ h => h⟩
    · have hi2 : i = s.knots.length := by
        have := (List.getElem?_eq_some_iff.1 hi).1
        simp at this
        omega
      subst hi2
      rw [List.getElem?_append_right (Nat.le_refl _), Nat.sub_self] at hi
      simp at hi
      subst hi
      refine ⟨mv, by rw [← hxl, List.getElem?_append_right (Nat.le_refl _), Nat.sub_self]; rfl, ?_⟩
      have hrz : RZ (fun g => Z g ∨ mv.ownBlock = some g) 1 cI w kn mv := RZ.of_owns hm.row (fun g e => .inr e) (by omega) fun i x hi => by
        unfold cI ints
        rw [Nat.mul_one, ← List.map_drop, drop_at hi]
        rfl
      exact RZ.keep hrz (fun g hg => ⟨hg, hZ g hg⟩) fun _ _ h => h
  · rcases hg with hg' | hg'
    · obtain ⟨h1, h2, h3, h4, vs, h5⟩ := h.z g hg'
      exact ⟨h1, h2, h3, h4, vs, h5.keep (hZ g (.inl hg'))⟩
    · obtain ⟨h1, h2, h3, h4⟩ := hm.ne g hg'
      obtain ⟨vs, hv⟩ := hmf g hg'
      exact ⟨(hm.row.lt g hg').1, h1, h2, h3, vs, hv.keep (hZ g (.inr hg'))⟩
/-- A walk in memory. -/
def WI (B W : Nat) (nv : Value) (next : List (List Int)) (n cb bb sb : Nat) (s : Wk) (w : World) : Prop := ∃ ov kv Z, Wi B W nv next n cb bb sb ov kv Z s w
theorem Wi.cells (h : Wi B W nv next n cb bb sb ov kv Z s w) : w.cell? ⟨W, 0, none⟩ = some nv ∧ w.cell? ⟨W, 1, none⟩ = some (sl cb n) ∧ w.cell? ⟨W, 2, none⟩ = some (sl bb n) ∧ w.cell? ⟨W, 3, none⟩ = some (.int .i64 s.clock) ∧ w.cell? ⟨W, 4, none⟩ = some ov ∧ w.cell? ⟨W, 5, none⟩ = some (sl sb n) ∧ w.cell? ⟨W, 6, none⟩ = some kv :=
  ⟨h.bx.get rfl, h.bx.get rfl, h.bx.get rfl, h.bx.get rfl, h.bx.get rfl, h.bx.get rfl, h.bx.get rfl⟩
theorem ov_last (h : Wi B W nv next n cb bb sb ov kv Z s w) {q : List Int} {x : Int} (hq : s.opn = q ++ [x]) : ∃ g c, ov = .slice (some ⟨g, 0, none⟩) (q.length + 1) c ∧ q.length + 1 ≤ c ∧ w.cell? ⟨g, q.length, none⟩ = some (.int .i64 x) := by
  have hr := h.ro
  have hl : s.opn.length = q.length + 1 := by rw [hq]; simp
  have hi : (ints s.opn)[q.length]? = some (.int .i64 x) := by rw [hq, ints_snoc, ← ints_len (l := q), List.getElem?_append_right (Nat.le_refl _), Nat.sub_self]; rfl
  obtain ⟨g, c, e, h1, _, _⟩ := owns_at (owns_down hr (Nat.zero_le _)) hi
  refine ⟨g, c, by rw [e, hl], ?_, h1⟩
  rcases hr.2 with ⟨e2, h0⟩ | ⟨g', cap, cur, e2, _, _, h5, _⟩
  · omega
  · rw [e] at e2; simp only [Value.slice.injEq] at e2; omega
end
theorem shut_fin {B W : Nat} {nv : Value} {next : List (List Int)} {n cb bb sb : Nat} {ov kv mv : Value} {Z : Nat → Prop} {s : Wk} {w w' : World} {kn : List Int} (h : Wi B W nv next n cb bb sb ov kv Z s w) (hm : Mv B cb bb ov Z mv kn w) (hB : B ≤ w.heap.size) (hkl : kn.length ≤ 4096) {xs : List Value} (hx : w.ownsRow B 38 1 kv s.knots.length xs) (hxs : ∀ (i : Nat) k, s.knots[i]? = some k → ∃ v, xs[i]? = some v ∧ RZ Z 1 cI w k v)
    {K kc : Nat} {ka : Option Addr} (hK : s.knots.length = K) (hkv : kv = .slice ka s.knots.length kc) {g4 cap4 : Nat} {ob : Obj} (hown : w'.ownsRow B 38 1 (.slice (some ⟨g4, 0, none⟩) (K + 1) cap4) (K + 1) (xs ++ [mv]))
    (hg : (Value.ownBlock (.slice ka K kc) = some g4 ∧ (w.alloc ob).grownBy w' (some g4)) ∨ (g4 = w.heap.size + 1 ∧ (w.alloc ob).grownBy w' none)) :
    w'.cell? ⟨W, 6, none⟩ = some (.slice ka K kc) ∧ w'.frozen? ⟨W, 6, none⟩ = false ∧ Wi B W nv next n cb bb sb ov (.slice (some ⟨g4, 0, none⟩) (K + 1) cap4) (fun g => Z g ∨ mv.ownBlock = some g) { s with knots := s.knots ++ [kn] } (w'.setCell ⟨W, 6, none⟩ (.slice (some ⟨g4, 0, none⟩) (K + 1) cap4)) ∧ Below B w (w'.setCell ⟨W, 6, none⟩ (.slice (some ⟨g4, 0, none⟩) (K + 1) cap4)) := by
  subst hK
  rw [← hkv] at hg ⊢
  have hkW : kv.ownBlock ≠ some W := own_fx hx h.bx (by decide)
  have hbx := h.bx.keep (grown_old rfl hg h.bx.lt hkW)
  refine ⟨hbx.get rfl, hbx.frz 6, h.knot hm hB hkl hx hxs hown hg, ?_⟩
  exact ((grown_fr (Z := fun k => B ≤ k) rfl hg fun g e => (hx.lt g e).1).below fun k hk => ⟨by omega, by omega⟩).setCell (p := ⟨W, 6, none⟩) h.lo.1 _
set_option maxRecDepth 100000 in
set_option maxHeartbeats 12800000 in
theorem shutKnot_any {B W : Nat} {nv : Value} {next : List (List Int)} {n cb bb sb : Nat} {s : Wk} {w : World} (h : WI B W nv next n cb bb sb s w) (hB : B ≤ w.heap.size) (ho : OkW n s) (hn : n ≤ 4096) {first : Int} (hf : first ∈ s.opn) :
    Calls Try.prog 78 #[ptr W, .int .i64 first] w fun e w' => e = .returned (.tuple #[]) ∧ WI B W nv next n cb bb sb (shutM first s) w' ∧ Below B w w' := by
  obtain ⟨iI, hiI, zI0, zI1, zI2⟩ := info_parts infoI
  obtain ⟨iL, hiL, zL0, zL1, zL2⟩ := info_parts infoL
  obtain ⟨ov, kv, Z, hw⟩ := h
  obtain ⟨st, hst⟩ : ∃ st, s.opn.reverse = st := ⟨_, rfl⟩
  have hsl : st.length ≤ 4096 := by have h1 := ho.ol; have h2 := ho.c1; rw [← hst, List.length_reverse]; omega
  have hkl : s.knots.length ≤ 4096 := by have h1 := ho.kl; have h2 := ho.c1; omega
  have hop : ∀ z ∈ st, 0 ≤ z ∧ z < (n : Int) := fun z hz => ho.op z (by rw [← hst] at hz; simpa using hz)
  have HOP := hide hop
  have HST := hide hst
  have hfs : first ∈ st := by rw [← hst]; simpa using hf
  have H0 : Hid (∃ ov kv Z, Wi B W nv next n cb bb sb ov kv Z { s with opn := st.reverse, shut := shutAll s.shut [] } w ∧ Mv B cb bb ov Z (.slice none 0 0) [] w) := hide ⟨ov, kv, Z, by rw [← hst, List.reverse_reverse]; exact hw, Mv.nil⟩
  have HLs := hide ho.ls
  have HF := hide hfs
  clear hw hop hst hf hfs
  go_enter Try.func78, Try.ntmps78
  go_wp2_with fail
  go_loopw [4] (fun mv wr => ∃ (kn r : List Int) (ma : Option Addr) (mc : Nat), mv = .slice ma kn.length mc ∧ kn.length ≤ st.length ∧ Hid (st = kn ++ r) ∧ Hid (first ∉ kn ∧ first ∈ r ∨ ∃ pre, kn = pre ++ [first] ∧ first ∉ pre) ∧ Hid (∃ ov kv Z, Wi B W nv next n cb bb sb ov kv Z { s with opn := r.reverse, shut := shutAll s.shut kn } wr ∧ Mv B cb bb ov Z (.slice ma kn.length mc) kn wr) ∧ Hid (Below B w wr)) (fun mv _ => st.length - (match mv with | .slice _ k _ => k | _ => 0))
  case atStart => exact ⟨[], st, none, 0, rfl, by simp, hide (by simp), hide (.inl ⟨by simp, HF.out⟩), H0, hide (Below.refl _ _)⟩
  case round =>
    clear H0 HF
    obtain ⟨kn, r, ma, mc, rfl, hkn, HS, HC, HWI, HB⟩ := hrel
    obtain ⟨ov, kv, Z, hwi, hmv⟩ := HWI.out
    clear HWI
    have hBr : B ≤ wr.heap.size := Nat.le_trans hB HB.out.size
    rcases HC.out with ⟨hc1, hc2⟩ | ⟨pre, hc1, hc2⟩
    · obtain ⟨x, r2, hr2⟩ : ∃ x r2, r = x :: r2 := by
        cases r with
        | nil => simp at hc2
        | cons x r2 => exact ⟨x, r2, rfl⟩
      subst hr2
      have hxs : x ∈ st := by rw [HS.out]; simp
      obtain ⟨hx0, hx1⟩ := HOP.out x hxs
      obtain ⟨xm, rfl⟩ := Int.eq_ofNat_of_zero_le hx0
      have hxn : xm < n := by omega
      have hkl2 : kn.length + 1 ≤ st.length := by rw [HS.out]; simp
      have hopn : (xm :: r2 : List Int).reverse = r2.reverse ++ [(xm : Int)] := by simp
      obtain ⟨g, c, eov, hcq, hcell⟩ := ov_last hwi (q := r2.reverse) (x := xm) (by simp)
      obtain ⟨c0, c1, c2, c3, c4, c5, c6⟩ := hwi.cells
      rw [eov] at c4
      obtain ⟨m, hm⟩ : ∃ m, r2.reverse.length = m := ⟨_, rfl⟩
      have hm4 : m + 1 ≤ 4096 := by rw [← hm, List.length_reverse]; have := congrArg List.length HS.out; simp at this; omega
      rw [hm] at c4 hcq hcell
      have HWi := hide hwi
      have HMv := hide hmv
      have HEov := hide eov
      have HM := hide hm
      have hA := below_new wr (.cells #[.int .i64 xm] 3)
      have HROW := hide (owns_keep hmv.row fun g hg => hA.block g (owns_lt hmv.row hg))
      have HNext : Hid (first ∉ kn ++ [(xm : Int)] ∧ first ∈ r2 ∨ ∃ pre, kn ++ [(xm : Int)] = pre ++ [first] ∧ first ∉ pre) := hide (by
        by_cases e : (xm : Int) = first
        · exact .inr ⟨kn, by rw [e], hc1⟩
        · refine .inl ⟨?_, ?_⟩
          · simp only [List.mem_append, List.mem_singleton, not_or]
            exact ⟨hc1, fun h => e h.symm⟩
          · rcases List.mem_cons.1 hc2 with h | h
            · exact absurd h.symm e
            · exact h)
      have hsub : kn = [] ∨ ∃ pre y, kn = pre ++ [y] ∧ y ≠ first := by
        rcases List.eq_nil_or_concat kn with h | ⟨pre, y, h⟩
        · exact .inl h
        · rw [List.concat_eq_append] at h
          exact .inr ⟨pre, y, h, fun e => hc1 (by rw [h, e]; simp)⟩
      obtain ⟨kl, hkl3⟩ : ∃ kl, kn.length = kl := ⟨_, rfl⟩
      have HKL := hide hkl3
      have hcond : (kl = 0 ∧ kn = []) ∨ ∃ (pl gm : Nat) (y : Int), kl = pl + 1 ∧ ma = some ⟨gm, 0, none⟩ ∧ wr.cell? ⟨gm, pl, none⟩ = some (.int .i64 y) ∧ (y != first) = true := by
        rcases hsub with h | ⟨pre, y, h, hy⟩
        · exact .inl ⟨by rw [← hkl3, h]; rfl, h⟩
        · have hi : (ints kn)[pre.length]? = some (.int .i64 y) := by rw [h, ints_snoc, ← ints_len (l := pre), List.getElem?_append_right (Nat.le_refl _), Nat.sub_self]; rfl
          obtain ⟨gm, cm, e, h1, _, _⟩ := owns_at (owns_down hmv.row (Nat.zero_le _)) hi
          simp only [Value.slice.injEq] at e
          exact .inr ⟨pre.length, gm, y, by rw [← hkl3, h]; simp, e.1, h1, by simpa using hy⟩
      clear hwi hmv eov hm hA hc1 hc2 hsub hxs hx0 hx1 HC hopn
      rw [hkl3] at HROW hkn hkl2 ⊢
      clear hkl3
      rcases hcond with ⟨rfl, -⟩ | ⟨pl, gm, y, rfl, rfl, hyc, hyn⟩
      · go_upto_region 3 with fail
        go_upto_region 4 with (at_builtin; go_must (refine wpList_append_two _ rfl _ _ 38 rfl B 3 iI _ 1 8 Try.underlying38 hiI zI0 zI1 zI2 rfl (by decide) _ _ (ints kn) rfl HROW.out ⟨wr.heap.size, 0, none⟩ 1 [.int .i64 xm] rfl rfl (cell_one_new _ _ _) (by intro u hu; simp at hu; subst hu; rfl) (by unfold maxLen; omega) (by omega) (by simp; omega) ?_); intro g4 cap4 w4 hown4 hg4)
        have hg5 : (Value.ownBlock (.slice (ma) 0 mc) = some g4 ∧ (wr.alloc (.cells #[.int .i64 xm] 3)).grownBy w4 (some g4)) ∨ (g4 = wr.heap.size + 1 ∧ (wr.alloc (.cells #[.int .i64 xm] 3)).grownBy w4 none) := by
          rcases hg4 with h | ⟨h1, h2⟩
          · exact .inl h
          · exact .inr ⟨by simpa using h1, h2⟩
        have hb4 : ∀ k, k < wr.heap.size → Value.ownBlock (.slice (ma) 0 mc) ≠ some k → w4.heap[k]? = wr.heap[k]? := fun k hk hn => grown_old rfl hg5 hk hn
        have hmv := HMv.out
        rw [HKL.out] at hmv
        have W4 := hide (HWi.out.grown hmv hBr hb4)
        have M4 := hide (Mv.grow HWi.out HMv.out (by rw [HKL.out]; exact hown4) (by rw [HKL.out]; exact hg5))
        have hs4 : wr.heap.size ≤ w4.heap.size := (grown_fr (Z := fun _ => True) rfl hg5 (fun _ _ => trivial)).size
        have HB4 : Hid (Below B w w4) := hide (HB.out.trans ((grown_fr (Z := fun k => B ≤ k) rfl hg5 fun g e => (hmv.row.lt g e).1).below fun k hk => ⟨by omega, by omega⟩))
        rw [HKL.out] at M4
        clear hg4 hg5 hb4 hmv hown4 HROW HWi HMv c0 c1 c2 c3 c4 c5 c6 hcell
        obtain ⟨c0, c1, c2, c3, c4, c5, c6⟩ := W4.out.cells
        obtain ⟨g', c', eov', -, hcell⟩ := ov_last W4.out (q := r2.reverse) (x := xm) (by simp)
        rw [HEov.out] at eov' c4
        rw [HM.out] at hcell
        simp only [HM.out, Value.slice.injEq, Option.some.injEq, Addr.mk.injEq, and_true, true_and] at eov'
        obtain ⟨rfl, rfl⟩ := eov'
        rw [HM.out] at c4
        refine region_last (by kernel_rfl) (by kernel_rfl) (by kernel_rfl) (by kernel_rfl) (by kernel_rfl) ?_
        dsimp only [List.dropLast, List.getLast, List.cons_append, List.nil_append]
        repeat (go_big_quiet_step (fail))
        refine wpQuiet_nil ?_
        rintro _ ⟨nq, rfl⟩
        have W5 := hide (W4.out.call (below_drewN w4 nq) (by omega))
        have M5 : Hid (Mv B cb bb ov Z (.slice (some ⟨g4, 0, none⟩) (0 + 1) cap4) (kn ++ [(xm : Int)]) (w4.drewN nq)) := hide ⟨owns_keep M4.out.row fun g hg => (below_drewN w4 nq).block g (owns_lt M4.out.row hg), M4.out.ne⟩
        have HB5 := hide (HB4.out.trans ((below_drewN w4 nq).mono (by omega)))
        have hs5 : w4.heap.size ≤ (w4.drewN nq).heap.size := (below_drewN w4 nq).size
        clear W4 M4 HB4 c0 c1 c2 c3 c4 c5 c6 hcell
        generalize w4.drewN nq = w5 at *
        have hsl5 : xm < (shutAll s.shut kn).length := by rw [shutAll_len, HLs.out]; exact hxn
        have kcell := W5.out.fs.get (bools_at hsl5)
        have kfr := W5.out.fs.frz xm
        go_upto_region 5 with fail
        have W6 := hide (W5.out.shut xm)
        have M6 := hide (Mv.set W5.out M5.out (q := sb) (i := xm) (u := .bool true) (.inr rfl) (ov' := ov) rfl)
        have HB6 := hide (HB5.out.setCell (p := ⟨sb, xm, none⟩) W5.out.lo.2.2.2 (.bool true))
        have hs6 : (w5.setCell ⟨sb, xm, none⟩ (.bool true)).heap.size = w5.heap.size := by simp
        clear kcell kfr hsl5 W5 M5 HB5
        generalize w5.setCell ⟨sb, xm, none⟩ (.bool true) = w6 at *
        obtain ⟨c0, c1, c2, c3, c4, c5, c6⟩ := W6.out.cells
        rw [HEov.out, HM.out] at c4
        have kfr := W6.out.bx.frz 4
        have W7 := hide (W6.out.pop (q := r2.reverse) (x := xm) (by simp) (by rw [HEov.out]))
        rw [HM.out] at W7
        have M7 := hide (Mv.set W6.out M6.out (q := W) (i := 4) (u := .slice (some ⟨g, 0, none⟩) m c) (.inl rfl) (ov' := .slice (some ⟨g, 0, none⟩) m c) (by rw [HEov.out]; rfl))
        have HB7 := hide (HB6.out.setCell (p := ⟨W, 4, none⟩) W6.out.lo.1 (.slice (some ⟨g, 0, none⟩) m c))
        clear W6 M6 HB6
        go_wp2_with fail
        go_roundw
        case rel => exact ⟨kn ++ [(xm : Int)], r2, some ⟨g4, 0, none⟩, cap4, by rw [List.length_append, HKL.out]; rfl, by rw [List.length_append, HKL.out]; exact hkl2, hide (by rw [HS.out]; simp), HNext, hide ⟨_, kv, Z, by rw [shutAll_app]; exact W7.out, by rw [List.length_append, HKL.out]; exact M7.out⟩, HB7⟩
        case measure => simp; omega
      · go_upto_region 3 with fail
        go_upto_region 4 with (at_builtin; go_must (refine wpList_append_two _ rfl _ _ 38 rfl B 3 iI _ 1 8 Try.underlying38 hiI zI0 zI1 zI2 rfl (by decide) _ _ (ints kn) rfl HROW.out ⟨wr.heap.size, 0, none⟩ 1 [.int .i64 xm] rfl rfl (cell_one_new _ _ _) (by intro u hu; simp at hu; subst hu; rfl) (by unfold maxLen; omega) (by omega) (by simp; omega) ?_); intro g4 cap4 w4 hown4 hg4)
        have hg5 : (Value.ownBlock (.slice (some ⟨gm, 0, none⟩) (pl + 1) mc) = some g4 ∧ (wr.alloc (.cells #[.int .i64 xm] 3)).grownBy w4 (some g4)) ∨ (g4 = wr.heap.size + 1 ∧ (wr.alloc (.cells #[.int .i64 xm] 3)).grownBy w4 none) := by
          rcases hg4 with h | ⟨h1, h2⟩
          · exact .inl h
          · exact .inr ⟨by simpa using h1, h2⟩
        have hb4 : ∀ k, k < wr.heap.size → Value.ownBlock (.slice (some ⟨gm, 0, none⟩) (pl + 1) mc) ≠ some k → w4.heap[k]? = wr.heap[k]? := fun k hk hn => grown_old rfl hg5 hk hn
        have hmv := HMv.out
        rw [HKL.out] at hmv
        have W4 := hide (HWi.out.grown hmv hBr hb4)
        have M4 := hide (Mv.grow HWi.out HMv.out (by rw [HKL.out]; exact hown4) (by rw [HKL.out]; exact hg5))
        have hs4 : wr.heap.size ≤ w4.heap.size := (grown_fr (Z := fun _ => True) rfl hg5 (fun _ _ => trivial)).size
        have HB4 : Hid (Below B w w4) := hide (HB.out.trans ((grown_fr (Z := fun k => B ≤ k) rfl hg5 fun g e => (hmv.row.lt g e).1).below fun k hk => ⟨by omega, by omega⟩))
        rw [HKL.out] at M4
        clear hg4 hg5 hb4 hmv hown4 HROW HWi HMv c0 c1 c2 c3 c4 c5 c6 hcell
        obtain ⟨c0, c1, c2, c3, c4, c5, c6⟩ := W4.out.cells
        obtain ⟨g', c', eov', -, hcell⟩ := ov_last W4.out (q := r2.reverse) (x := xm) (by simp)
        rw [HEov.out] at eov' c4
        rw [HM.out] at hcell
        simp only [HM.out, Value.slice.injEq, Option.some.injEq, Addr.mk.injEq, and_true, true_and] at eov'
        obtain ⟨rfl, rfl⟩ := eov'
        rw [HM.out] at c4
        refine region_last (by kernel_rfl) (by kernel_rfl) (by kernel_rfl) (by kernel_rfl) (by kernel_rfl) ?_
        dsimp only [List.dropLast, List.getLast, List.cons_append, List.nil_append]
        repeat (go_big_quiet_step (fail))
        refine wpQuiet_nil ?_
        rintro _ ⟨nq, rfl⟩
        have W5 := hide (W4.out.call (below_drewN w4 nq) (by omega))
        have M5 : Hid (Mv B cb bb ov Z (.slice (some ⟨g4, 0, none⟩) ((pl + 1) + 1) cap4) (kn ++ [(xm : Int)]) (w4.drewN nq)) := hide ⟨owns_keep M4.out.row fun g hg => (below_drewN w4 nq).block g (owns_lt M4.out.row hg), M4.out.ne⟩
        have HB5 := hide (HB4.out.trans ((below_drewN w4 nq).mono (by omega)))
        have hs5 : w4.heap.size ≤ (w4.drewN nq).heap.size := (below_drewN w4 nq).size
        clear W4 M4 HB4 c0 c1 c2 c3 c4 c5 c6 hcell
        generalize w4.drewN nq = w5 at *
        have hsl5 : xm < (shutAll s.shut kn).length := by rw [shutAll_len, HLs.out]; exact hxn
        have kcell := W5.out.fs.get (bools_at hsl5)
        have kfr := W5.out.fs.frz xm
        go_upto_region 5 with fail
        have W6 := hide (W5.out.shut xm)
        have M6 := hide (Mv.set W5.out M5.out (q := sb) (i := xm) (u := .bool true) (.inr rfl) (ov' := ov) rfl)
        have HB6 := hide (HB5.out.setCell (p := ⟨sb, xm, none⟩) W5.out.lo.2.2.2 (.bool true))
        have hs6 : (w5.setCell ⟨sb, xm, none⟩ (.bool true)).heap.size = w5.heap.size := by simp
        clear kcell kfr hsl5 W5 M5 HB5
        generalize w5.setCell ⟨sb, xm, none⟩ (.bool true) = w6 at *
        obtain ⟨c0, c1, c2, c3, c4, c5, c6⟩ := W6.out.cells
        rw [HEov.out, HM.out] at c4
        have kfr := W6.out.bx.frz 4
        have W7 := hide (W6.out.pop (q := r2.reverse) (x := xm) (by simp) (by rw [HEov.out]))
        rw [HM.out] at W7
        have M7 := hide (Mv.set W6.out M6.out (q := W) (i := 4) (u := .slice (some ⟨g, 0, none⟩) m c) (.inl rfl) (ov' := .slice (some ⟨g, 0, none⟩) m c) (by rw [HEov.out]; rfl))
        have HB7 := hide (HB6.out.setCell (p := ⟨W, 4, none⟩) W6.out.lo.1 (.slice (some ⟨g, 0, none⟩) m c))
        clear W6 M6 HB6
        go_wp2_with fail
        go_roundw
        case rel => exact ⟨kn ++ [(xm : Int)], r2, some ⟨g4, 0, none⟩, cap4, by rw [List.length_append, HKL.out]; rfl, by rw [List.length_append, HKL.out]; exact hkl2, hide (by rw [HS.out]; simp), HNext, hide ⟨_, kv, Z, by rw [shutAll_app]; exact W7.out, by rw [List.length_append, HKL.out]; exact M7.out⟩, HB7⟩
        case measure => simp; omega
    · have hkl2 : kn.length = pre.length + 1 := by rw [hc1]; simp
      have hi : (ints kn)[pre.length]? = some (.int .i64 first) := by rw [hc1, ints_snoc, ← ints_len (l := pre), List.getElem?_append_right (Nat.le_refl _), Nat.sub_self]; rfl
      obtain ⟨gm, cm, e, hyc, _, _⟩ := owns_at (owns_down hmv.row (Nat.zero_le _)) hi
      simp only [Value.slice.injEq] at e
      obtain ⟨rfl, -, rfl⟩ := e
      have hpop : popM first s.opn.reverse = (kn, r) := by rw [HST.out, HS.out, hc1, List.append_assoc]; exact pop_split hc2
      have HP := hide hpop
      obtain ⟨c0, c1, c2, c3, c4, c5, c6⟩ := hwi.cells
      obtain ⟨xs, hx1, hx2⟩ := hwi.rk
      obtain ⟨ka, kc, ekv⟩ := owns_slice hx1
      obtain ⟨K, hK⟩ : ∃ K, s.knots.length = K := ⟨_, rfl⟩
      have hA := below_new wr (.cells #[.slice (some ⟨gm, 0, none⟩) (pre.length + 1) mc] 38)
      have HROW := hide (owns_keep hx1 fun g hg => hA.block g (owns_lt hx1 hg))
      have HWi := hide hwi
      have HMv := hide hmv
      have HX1 := hide hx1
      have HX2 := hide hx2
      have HKK := hide hK
      have HKL := hide hkl2
      have HEkv := hide ekv
      simp only [] at ekv HROW
      rw [hK] at ekv HROW hkl
      rw [hkl2]
      rw [ekv] at c6 HROW
      clear hwi hmv hx1 hx2 hA hi hpop hK hc1 hc2 HC hkl2 HS ekv
      go_upto_region 6 with fail
      go_wp2_with (at_builtin; go_must (refine wpList_append_two _ rfl _ _ 24 rfl B 38 iL _ 1 24 Try.underlying24 hiL zL0 zL1 zL2 rfl (by decide) _ _ xs rfl HROW.out ⟨wr.heap.size, 0, none⟩ 1 [.slice (some ⟨gm, 0, none⟩) (pre.length + 1) mc] rfl rfl (cell_one_new _ _ _) (by intro u hu; simp at hu; subst hu; rfl) (by unfold maxLen; omega) (by omega) (by simp; omega) ?_); intro g4 cap4 w4 hown4 hg4; have HFin := hide (shut_fin HWi.out (by rw [← HKL.out]; exact HMv.out) hBr (by omega) HX1.out HX2.out HKK.out HEkv.out hown4 (by rcases hg4 with h | ⟨h1, h2⟩; exact .inl h; exact .inr ⟨by simpa using h1, h2⟩)); clear hown4 hg4; obtain ⟨hFa, hFb, hFc, hFd⟩ := HFin.out; have HFc := hide hFc; have HFd := hide hFd; clear hFc hFd HFin)
      go_end0
      refine ⟨rfl, ?_, HB.out.trans HFd.out⟩
      unfold shutM
      rw [HP.out]
      exact ⟨ov, _, _, HFc.out⟩
end Go.Proofs.Ytdmnoeooljofcaa
