/- A walk, deep first, in memory. -/
import Derived.Test.YthifoamnmhlghaaFix
namespace Go.Proofs.Ythifoamnmhlghaa
open Go.RowKit

/-! The pure side. -/
/-- How many were not come to yet. -/
def unv (l : List Int) : Nat := (l.filter fun z => decide (z = 0)).length
theorem unv_set {l : List Int} {i : Nat} {z : Int} (hi : i < l.length) (h0 : l.getD i 0 = 0) (hz : z ≠ 0) : unv (l.set i z) + 1 = unv l := by
  induction l generalizing i with
  | nil => simp at hi
  | cons x r ih =>
    cases i with
    | zero =>
      have hx : x = 0 := by simpa using h0
      subst hx
      simp [unv, hz]
    | succ i =>
      have := ih (i := i) (by simpa using hi) (by simpa using h0)
      unfold unv at this ⊢
      by_cases hx : x = 0
      · simp [hx] at this ⊢; omega
      · simp [hx] at this ⊢; omega
structure OkW (n : Nat) (s : Wk) : Prop where
  lc : s.came.length = n
  lb : s.back.length = n
  ls : s.shut.length = n
  c0 : 0 ≤ s.clock
  c1 : s.clock + unv s.came ≤ n
  op : ∀ z ∈ s.opn, 0 ≤ z ∧ z < n
  ol : (s.opn.length : Int) ≤ s.clock
  kl : (s.knots.length : Int) + s.opn.length ≤ s.clock
  kn : ∀ k ∈ s.knots, 1 ≤ k.length ∧ k.length ≤ n ∧ ∀ z ∈ k, 0 ≤ z ∧ z < n
theorem pop_spec {f : Int} : ∀ {l : List Int}, f ∈ l → l = (popM f l).1 ++ (popM f l).2 ∧ (∃ pre, (popM f l).1 = pre ++ [f] ∧ f ∉ pre)
  | [], h => by simp at h
  | x :: r, h => by
    unfold popM
    by_cases e : x = f
    · rw [if_pos e]
      exact ⟨rfl, [], by simp [e], by simp⟩
    · rw [if_neg e]
      obtain ⟨h1, pre, h2, h3⟩ := pop_spec (show f ∈ r by rcases List.mem_cons.1 h with h | h; exact absurd h.symm e; exact h)
      refine ⟨by simp only [List.cons_append]; rw [← h1], x :: pre, by simp only [h2]; rfl, ?_⟩
      simp only [List.mem_cons, not_or]
      exact ⟨fun h => e h.symm, h3⟩
theorem pop_prefix {f : Int} {a b : List Int} (h : f ∈ b) : ∃ r, (popM f (b ++ a)).2 = r ++ a := by
  induction b with
  | nil => simp at h
  | cons x r ih =>
    show ∃ q, (popM f (x :: (r ++ a))).2 = q ++ a
    unfold popM
    by_cases e : x = f
    · rw [if_pos e]; exact ⟨r, rfl⟩
    · rw [if_neg e]
      exact ih (by rcases List.mem_cons.1 h with h | h; exact absurd h.symm e; exact h)
theorem shutAll_len : ∀ {k : List Int} {sh : List Bool}, (shutAll sh k).length = sh.length
  | [], sh => rfl
  | x :: r, sh => by unfold shutAll; rw [shutAll_len]; simp
theorem shutAll_app : ∀ {a b : List Int} {sh : List Bool}, shutAll sh (a ++ b) = shutAll (shutAll sh a) b
  | [], b, sh => rfl
  | x :: r, b, sh => by show shutAll (sh.set x.toNat true) (r ++ b) = _; rw [shutAll_app]; rfl
section
variable {n : Nat} {s : Wk} {p o : Int}
theorem OkW.come (h : OkW n s) (hp : 0 ≤ p ∧ p < n) (h0 : s.came.getD p.toNat 0 = 0) : OkW n (comeM p s) ∧ unv (comeM p s).came + 1 = unv s.came := by
  have hc := h.c0
  have hu := unv_set (i := p.toNat) (z := s.clock + 1) (by rw [h.lc]; omega) h0 (by omega)
  have h1 := h.c1
  have h2 := h.ol
  have h3 := h.kl
  refine ⟨⟨?_, ?_, h.ls, ?_, ?_, ?_, ?_, ?_, h.kn⟩, hu⟩
  · show (s.came.set p.toNat (s.clock + 1)).length = n; rw [List.length_set]; exact h.lc
  · show (s.back.set p.toNat (s.clock + 1)).length = n; rw [List.length_set]; exact h.lb
  · show 0 ≤ s.clock + 1; omega
  · show s.clock + 1 + (unv (s.came.set p.toNat (s.clock + 1)) : Int) ≤ n; omega
  · intro z hz
    rcases List.mem_append.1 hz with hz | hz
    · exact h.op z hz
    · simp at hz; subst hz; exact hp
  · show ((s.opn ++ [p]).length : Int) ≤ s.clock + 1; simp; omega
  · show (s.knots.length : Int) + ((s.opn ++ [p]).length : Int) ≤ s.clock + 1; simp; omega
theorem OkW.lower (h : OkW n s) : OkW n (lowerM p o s) := by
  unfold lowerM
  split
  · exact h
  · exact ⟨h.lc, by rw [List.length_set]; exact h.lb, h.ls, h.c0, h.c1, h.op, h.ol, h.kl, h.kn⟩
theorem lower_came : (lowerM p o s).came = s.came ∧ (lowerM p o s).opn = s.opn := by
  unfold lowerM
  split <;> exact ⟨rfl, rfl⟩
theorem OkW.shutK (h : OkW n s) (hp : p ∈ s.opn) : OkW n (shutM p s) := by
  obtain ⟨h1, pre, h2, h3⟩ := pop_spec (f := p) (l := s.opn.reverse) (by simpa using hp)
  have hl := congrArg List.length h1
  rw [List.length_append, List.length_reverse] at hl
  have hl1 : 1 ≤ (popM p s.opn.reverse).1.length := by rw [h2]; simp
  have hmem : ∀ z, z ∈ (popM p s.opn.reverse).1 ∨ z ∈ (popM p s.opn.reverse).2 → z ∈ s.opn := fun z hz => by
    have : z ∈ s.opn.reverse := by rw [h1]; exact List.mem_append.2 hz
    simpa using this
  have q1 := h.ol
  have q2 := h.kl
  have q3 := h.c1
  refine ⟨h.lc, h.lb, ?_, h.c0, h.c1, fun z hz => ?_, ?_, ?_, fun k hk => ?_⟩
  · show (shutAll s.shut _).length = n; rw [shutAll_len]; exact h.ls
  · exact h.op z (hmem z (.inr (by simpa [shutM] using hz)))
  · show (((popM p s.opn.reverse).2.reverse).length : Int) ≤ s.clock; rw [List.length_reverse]; omega
  · show ((s.knots ++ [(popM p s.opn.reverse).1]).length : Int) + (((popM p s.opn.reverse).2.reverse).length : Int) ≤ s.clock
    rw [List.length_append, List.length_reverse]; simp; omega
  · rcases List.mem_append.1 (show k ∈ s.knots ++ [(popM p s.opn.reverse).1] from hk) with hk | hk
    · exact h.kn k hk
    · simp at hk
      subst hk
      exact ⟨hl1, by omega, fun z hz => h.op z (hmem z (.inl hz))⟩
theorem shut_pre {q : List Int} (hp : ∃ ex, s.opn = q ++ [p] ++ ex) : ∃ ex, (shutM p s).opn = q ++ ex := by
  obtain ⟨ex, e⟩ := hp
  obtain ⟨r, hr⟩ := pop_prefix (f := p) (a := q.reverse) (b := ex.reverse ++ [p]) (by simp)
  refine ⟨r.reverse, ?_⟩
  show ((popM p s.opn.reverse).2).reverse = _
  have : s.opn.reverse = (ex.reverse ++ [p]) ++ q.reverse := by rw [e]; simp
  rw [this, hr]
  simp
end
/-- What a visit keeps. -/
theorem visit_ok {next : List (List Int)} {n : Nat} (hn : ∀ (i : Nat) l, next[i]? = some l → ∀ z ∈ l, 0 ≤ z ∧ z < (n : Int)) :
    ∀ f p s, OkW n s → 0 ≤ p ∧ p < (n : Int) → s.came.getD p.toNat 0 = 0 → OkW n (visitM next f p s) ∧ unv (visitM next f p s).came ≤ unv s.came ∧ ∃ ex, (visitM next f p s).opn = s.opn ++ ex := by
  intro f
  induction f with
  | zero => intro p s h _ _; exact ⟨h, Nat.le_refl _, [], by simp [visitM]⟩
  | succ f ih =>
    intro p s h hp h0
    obtain ⟨hc, hu⟩ := h.come hp h0
    have key : ∀ (l : List Int) (t : Wk), (∀ z ∈ l, 0 ≤ z ∧ z < (n : Int)) → OkW n t → OkW n (othersM (visitM next f) p l t) ∧ unv (othersM (visitM next f) p l t).came ≤ unv t.came ∧ ∃ ex, (othersM (visitM next f) p l t).opn = t.opn ++ ex := by
      intro l
      induction l with
      | nil => intro t _ ht; exact ⟨ht, Nat.le_refl _, [], by simp [othersM]⟩
      | cons o r ihl =>
        intro t hl ht
        unfold othersM
        by_cases hz : t.came.getD o.toNat 0 = 0
        · rw [if_pos hz]
          obtain ⟨a1, a2, ex, a3⟩ := ih o t ht (hl o (by simp)) hz
          obtain ⟨b1, b2, ex2, b3⟩ := ihl (lowerM p o (visitM next f o t)) (fun z hz => hl z (by simp [hz])) a1.lower
          refine ⟨b1, by rw [lower_came.1] at b2; omega, ex ++ ex2, ?_⟩
          rw [b3, lower_came.2, a3]
          simp
        · rw [if_neg hz]
          obtain ⟨b1, b2, ex2, b3⟩ := ihl (lowerM p o t) (fun z hz => hl z (by simp [hz])) ht.lower
          exact ⟨b1, by rw [lower_came.1] at b2; omega, ex2, by rw [b3, lower_came.2]⟩
    have hrow : ∀ z ∈ row next p, 0 ≤ z ∧ z < (n : Int) := by
      intro z hz
      unfold row at hz
      rw [List.getD_eq_getElem?_getD] at hz
      cases hg : next[p.toNat]? with
      | none => rw [hg] at hz; simp at hz
      | some l => rw [hg] at hz; exact hn _ l hg z hz
    obtain ⟨k1, k2, ex, k3⟩ := key (row next p) (comeM p s) hrow hc
    have k3' : (othersM (visitM next f) p (row next p) (comeM p s)).opn = s.opn ++ [p] ++ ex := k3
    show OkW n (endM p _) ∧ unv (endM p _).came ≤ _ ∧ _
    unfold visitM endM
    split
    · refine ⟨k1.shutK (by rw [k3']; simp), ?_, ?_⟩
      · show unv (othersM (visitM next f) p (row next p) (comeM p s)).came ≤ _; omega
      · exact shut_pre ⟨ex, k3'⟩
    · exact ⟨k1, by omega, [p] ++ ex, by rw [k3']; simp⟩

/-! In memory. -/
theorem fx_ne {g g' T T' : Nat} {vs vs' : List Value} {w : World} (h : Fx g T vs w) (h' : Fx g' T' vs' w) (hT : T ≠ T') : g ≠ g' := by
  intro e
  subst e
  rw [Fx] at h h'
  rw [h] at h'
  cases h'
  exact hT rfl
theorem own_fx {w : World} {b g T e : Nat} {v : Value} {n : Nat} {xs vs : List Value} (h : w.ownsRow b e 1 v n xs) (hg : Fx g T vs w) (hT : e ≠ T) : v.ownBlock ≠ some g := own_ne (owns_down h (Nat.zero_le _)) hg hT
abbrev sl (g n : Nat) : Value := .slice (some ⟨g, 0, none⟩) n n
abbrev wkv (nv : Value) (n cb bb sb : Nat) (ov kv : Value) (clock : Int) : List Value := [nv, sl cb n, sl bb n, .int .i64 clock, ov, sl sb n, kv]
structure Wi (B W : Nat) (nv : Value) (next : List (List Int)) (n cb bb sb : Nat) (ov kv : Value) (Z : Nat → Prop) (s : Wk) (w : World) : Prop where
  bx : Fx W 113 (wkv nv n cb bb sb ov kv s.clock) w
  nx : Lists B w next nv
  lo : B ≤ W ∧ B ≤ cb ∧ B ≤ bb ∧ B ≤ sb
  fc : Fx cb 3 (ints s.came) w
  fb : Fx bb 3 (ints s.back) w
  fs : Fx sb 4 (bools s.shut) w
  ro : w.ownsRow B 3 1 ov s.opn.length (ints s.opn)
  ne : cb ≠ bb ∧ ov.ownBlock ≠ some cb ∧ ov.ownBlock ≠ some bb
  rk : ∃ xs, w.ownsRow B 26 1 kv s.knots.length xs ∧ ∀ (i : Nat) k, s.knots[i]? = some k → ∃ v, xs[i]? = some v ∧ RZ Z 1 cI w k v
  z : ∀ g, Z g → B ≤ g ∧ g ≠ cb ∧ g ≠ bb ∧ ov.ownBlock ≠ some g ∧ ∃ vs, Fx g 3 vs w
section
variable {B W : Nat} {nv : Value} {next : List (List Int)} {n cb bb sb : Nat} {ov kv : Value} {Z : Nat → Prop} {s : Wk} {w w' : World}
theorem RZ.rep {α : Type} {k : Nat} {c : World → α → List Value → Prop} {l : List α} {v : Value} (h : RZ Z k c w l v) (hb : ∀ g, Z g → w'.heap[g]? = w.heap[g]?) (hc : ∀ a xs, c w a xs → c w' a xs) : RZ Z k c w' l v := RZ.keep h (fun g hg => ⟨hg, hb g hg⟩) hc
theorem knots_keep {ks : List (List Int)} (h : ∃ xs, w.ownsRow B 26 1 kv ks.length xs ∧ ∀ (i : Nat) k, ks[i]? = some k → ∃ v, xs[i]? = some v ∧ RZ Z 1 cI w k v) (hk : ∀ g, kv.ownBlock = some g → w'.heap[g]? = w.heap[g]?) (hb : ∀ g, Z g → w'.heap[g]? = w.heap[g]?) :
    ∃ xs, w'.ownsRow B 26 1 kv ks.length xs ∧ ∀ (i : Nat) k, ks[i]? = some k → ∃ v, xs[i]? = some v ∧ RZ Z 1 cI w' k v := by
  obtain ⟨xs, h1, h2⟩ := h
  refine ⟨xs, owns_keep h1 hk, fun i k hi => ?_⟩
  obtain ⟨v, h3, h4⟩ := h2 i k hi
  exact ⟨v, h3, h4.rep hb fun _ _ h => h⟩
theorem z_keep (h : ∀ g, Z g → B ≤ g ∧ g ≠ cb ∧ g ≠ bb ∧ ov.ownBlock ≠ some g ∧ ∃ vs, Fx g 3 vs w) (hb : ∀ g, Z g → w'.heap[g]? = w.heap[g]?) : ∀ g, Z g → B ≤ g ∧ g ≠ cb ∧ g ≠ bb ∧ ov.ownBlock ≠ some g ∧ ∃ vs, Fx g 3 vs w' := fun g hg => by
  obtain ⟨h1, h2, h3, h4, vs, h5⟩ := h g hg
  exact ⟨h1, h2, h3, h4, vs, h5.keep (hb g hg)⟩
/-- New blocks alone. -/
theorem Wi.call (h : Wi B W nv next n cb bb sb ov kv Z s w) (hb : Below w.heap.size w w') (hB : B ≤ w.heap.size) : Wi B W nv next n cb bb sb ov kv Z s w' := by
  have hz : ∀ g, Z g → w'.heap[g]? = w.heap[g]? := fun g hg => by obtain ⟨_, _, _, _, vs, h5⟩ := h.z g hg; exact hb.block g h5.lt
  obtain ⟨xs, k1, _⟩ := h.rk
  exact ⟨h.bx.keep (hb.block _ h.bx.lt), h.nx.keep fun g hg => hb.block g (by omega), h.lo, h.fc.keep (hb.block _ h.fc.lt), h.fb.keep (hb.block _ h.fb.lt), h.fs.keep (hb.block _ h.fs.lt), owns_keep h.ro fun g hg => hb.block g (owns_lt h.ro hg), h.ne, knots_keep h.rk (fun g hg => hb.block g (owns_lt k1 hg)) hz, z_keep h.z hz⟩
/-- A cell of one block is written: what stays. -/
theorem Wi.hz (h : Wi B W nv next n cb bb sb ov kv Z s w) {q : Nat} (hq : q = W ∨ q = cb ∨ q = bb ∨ q = sb) : ∀ g, Z g → g ≠ q := fun g hg => by
  obtain ⟨_, h2, h3, _, vs, h5⟩ := h.z g hg
  rcases hq with rfl | rfl | rfl | rfl
  · exact fx_ne h5 h.bx (by decide)
  · exact h2
  · exact h3
  · exact fx_ne h5 h.fs (by decide)
theorem Wi.set (h : Wi B W nv next n cb bb sb ov kv Z s w) {q i : Nat} {u : Value} (hq : q = W ∨ q = cb ∨ q = bb ∨ q = sb) {s' : Wk} (e1 : s'.opn = s.opn) (e2 : s'.knots = s.knots)
    (bx : Fx W 113 (wkv nv n cb bb sb ov kv s'.clock) (w.setCell ⟨q, i, none⟩ u)) (fc : Fx cb 3 (ints s'.came) (w.setCell ⟨q, i, none⟩ u)) (fb : Fx bb 3 (ints s'.back) (w.setCell ⟨q, i, none⟩ u)) (fs : Fx sb 4 (bools s'.shut) (w.setCell ⟨q, i, none⟩ u)) :
    Wi B W nv next n cb bb sb ov kv Z s' (w.setCell ⟨q, i, none⟩ u) := by
  obtain ⟨l1, l2, l3, l4⟩ := h.lo
  have hBq : B ≤ q := by rcases hq with rfl | rfl | rfl | rfl <;> assumption
  have hz := h.hz hq
  have hoq : ov.ownBlock ≠ some q := by
    rcases hq with rfl | rfl | rfl | rfl
    · exact own_fx h.ro h.bx (by decide)
    · exact h.ne.2.1
    · exact h.ne.2.2
    · exact own_fx h.ro h.fs (by decide)
  obtain ⟨xs, k1, _⟩ := h.rk
  have hkq : kv.ownBlock ≠ some q := by
    rcases hq with rfl | rfl | rfl | rfl
    · exact own_fx k1 h.bx (by decide)
    · exact own_fx k1 h.fc (by decide)
    · exact own_fx k1 h.fb (by decide)
    · exact own_fx k1 h.fs (by decide)
  refine ⟨bx, h.nx.keep fun g hg => other_set (by omega), h.lo, fc, fb, fs, ?_, h.ne, ?_, z_keep h.z fun g hg => other_set (hz g hg)⟩
  · rw [e1]
    exact owns_keep h.ro fun g hg => other_set fun e => hoq (e ▸ hg)
  · rw [e2]
    exact knots_keep h.rk (fun g hg => other_set fun e => hkq (e ▸ hg)) fun g hg => other_set (hz g hg)
theorem Wi.clock (h : Wi B W nv next n cb bb sb ov kv Z s w) (z : Int) : Wi B W nv next n cb bb sb ov kv Z { s with clock := z } (w.setCell ⟨W, 3, none⟩ (.int .i64 z)) :=
  h.set (.inl rfl) rfl rfl (h.bx.set 3 _) (h.fc.keep (other_set (fx_ne h.fc h.bx (by decide)))) (h.fb.keep (other_set (fx_ne h.fb h.bx (by decide)))) (h.fs.keep (other_set (fx_ne h.fs h.bx (by decide))))
theorem Wi.came (h : Wi B W nv next n cb bb sb ov kv Z s w) (i : Nat) (z : Int) : Wi B W nv next n cb bb sb ov kv Z { s with came := s.came.set i z } (w.setCell ⟨cb, i, none⟩ (.int .i64 z)) :=
  h.set (.inr (.inl rfl)) rfl rfl (h.bx.keep (other_set (fx_ne h.bx h.fc (by decide)))) (by show Fx _ _ (ints (s.came.set i z)) _; rw [← ints_set]; exact h.fc.set i _) (h.fb.keep (other_set (fun e => h.ne.1 e.symm))) (h.fs.keep (other_set (fx_ne h.fs h.fc (by decide))))
theorem Wi.back (h : Wi B W nv next n cb bb sb ov kv Z s w) (i : Nat) (z : Int) : Wi B W nv next n cb bb sb ov kv Z { s with back := s.back.set i z } (w.setCell ⟨bb, i, none⟩ (.int .i64 z)) :=
  h.set (.inr (.inr (.inl rfl))) rfl rfl (h.bx.keep (other_set (fx_ne h.bx h.fb (by decide)))) (h.fc.keep (other_set h.ne.1)) (by show Fx _ _ (ints (s.back.set i z)) _; rw [← ints_set]; exact h.fb.set i _) (h.fs.keep (other_set (fx_ne h.fs h.fb (by decide))))
theorem Wi.shut (h : Wi B W nv next n cb bb sb ov kv Z s w) (i : Nat) : Wi B W nv next n cb bb sb ov kv Z { s with shut := s.shut.set i true } (w.setCell ⟨sb, i, none⟩ (.bool true)) :=
  h.set (.inr (.inr (.inr rfl))) rfl rfl (h.bx.keep (other_set (fx_ne h.bx h.fs (by decide)))) (h.fc.keep (other_set (fx_ne h.fc h.fs (by decide)))) (h.fb.keep (other_set (fx_ne h.fb h.fs (by decide)))) (by show Fx _ _ (bools (s.shut.set i true)) _; rw [← bools_set]; exact h.fs.set i _)
end
end Go.Proofs.Ythifoamnmhlghaa
