import Derived.Test.YthifoamnmhlghaaGreatFix
namespace Go.Proofs.YthifoamnmhlghaaGreat
open Go.RowKit
def dT (l : List Int) : Nat := (l.filter fun z => decide (z = 0)).length
theorem oK {l : List Int} {i : Nat} {z : Int} (hi : i < l.length) (h0 : l.getD i 0 = 0) (hz : z ≠ 0) : dT (l.set i z) + 1 = dT l := by
 induction l generalizing i with
 | nil => simp at hi
 | cons x r ih =>
  cases i with
  | zero =>
   have hx : x = 0 := by simpa using h0
   subst hx
   simp [dT, hz]
  | succ i =>
   have := ih (i := i) (by simpa using hi) (by simpa using h0)
   unfold dT at this ⊢
   by_cases hx : x = 0
   · simp [hx] at this ⊢; omega
   · simp [hx] at this ⊢; omega
structure OkW (n : Nat) (s : Wk) : Prop where
 lc : s.came.length = n
 lb : s.back.length = n
 ls : s.shut.length = n
 c0 : 0 ≤ s.clock
 c1 : s.clock + dT s.came ≤ n
 op : ∀ z ∈ s.opn, 0 ≤ z ∧ z < n
 ol : (s.opn.length : Int) ≤ s.clock
 kl : (s.knots.length : Int) + s.opn.length ≤ s.clock
 kn : ∀ k ∈ s.knots, 1 ≤ k.length ∧ k.length ≤ n ∧ ∀ z ∈ k, 0 ≤ z ∧ z < n
theorem nL {f : Int} : ∀ {l : List Int}, f ∈ l → l = (cA f l).1 ++ (cA f l).2 ∧ (∃ pre, (cA f l).1 = pre ++ [f] ∧ f ∉ pre)
 | [], h => by simp at h
 | x :: r, h => by
  unfold cA
  by_cases e : x = f
  · rw [if_pos e]
    exact ⟨rfl, [], by simp [e], by simp⟩
  · rw [if_neg e]
    obtain ⟨h1, pre, h2, h3⟩ := nL (show f ∈ r by rcases List.mem_cons.1 h with h | h; exact absurd h.symm e; exact h)
    refine ⟨by simp only [List.cons_append]; rw [← h1], x :: pre, by simp only [h2]; rfl, ?_⟩
    simp only [List.mem_cons, not_or]
    exact ⟨fun h => e h.symm, h3⟩
theorem pm {f : Int} {a b : List Int} (h : f ∈ b) : ∃ r, (cA f (b ++ a)).2 = r ++ a := by
 induction b with
 | nil => simp at h
 | cons x r ih =>
  show ∃ q, (cA f (x :: (r ++ a))).2 = q ++ a
  unfold cA
  by_cases e : x = f
  · rw [if_pos e]; exact ⟨r, rfl⟩
  · rw [if_neg e]
    exact ih (by rcases List.mem_cons.1 h with h | h; exact absurd h.symm e; exact h)
theorem fP : ∀ {k : List Int} {sh : List Bool}, (cZ sh k).length = sh.length
 | [], sh => rfl
 | x :: r, sh => by unfold cZ; rw [fP]; simp
theorem iq : ∀ {a b : List Int} {sh : List Bool}, cZ sh (a ++ b) = cZ (cZ sh a) b
 | [], b, sh => rfl
 | x :: r, b, sh => by show cZ (sh.set x.toNat true) (r ++ b) = _; rw [iq]; rfl
section
variable {n : Nat} {s : Wk} {p o : Int}
theorem OkW.come (h : OkW n s) (hp : 0 ≤ p ∧ p < n) (h0 : s.came.getD p.toNat 0 = 0) : OkW n (eZ p s) ∧ dT (eZ p s).came + 1 = dT s.came := by
 have hc := h.c0
 have hu := oK (i := p.toNat) (z := s.clock + 1) (by rw [h.lc]; omega) h0 (by omega)
 have h1 := h.c1
 have h2 := h.ol
 have h3 := h.kl
 refine ⟨⟨?_, ?_, h.ls, ?_, ?_, ?_, ?_, ?_, h.kn⟩, hu⟩
 · show (s.came.set p.toNat (s.clock + 1)).length = n; rw [List.length_set]; exact h.lc
 · show (s.back.set p.toNat (s.clock + 1)).length = n; rw [List.length_set]; exact h.lb
 · show 0 ≤ s.clock + 1; omega
 · show s.clock + 1 + (dT (s.came.set p.toNat (s.clock + 1)) : Int) ≤ n; omega
 · intro z hz
   rcases List.mem_append.1 hz with hz | hz
   · exact h.op z hz
   · simp at hz; subst hz; exact hp
 · show ((s.opn ++ [p]).length : Int) ≤ s.clock + 1; simp; omega
 · show (s.knots.length : Int) + ((s.opn ++ [p]).length : Int) ≤ s.clock + 1; simp; omega
theorem OkW.lower (h : OkW n s) : OkW n (dD p o s) := by
 unfold dD
 split
 · exact h
 · exact ⟨h.lc, by rw [List.length_set]; exact h.lb, h.ls, h.c0, h.c1, h.op, h.ol, h.kl, h.kn⟩
theorem gk : (dD p o s).came = s.came ∧ (dD p o s).opn = s.opn := by
 unfold dD
 split <;> exact ⟨rfl, rfl⟩
theorem OkW.shutK (h : OkW n s) (hp : p ∈ s.opn) : OkW n (gY p s) := by
 obtain ⟨h1, pre, h2, h3⟩ := nL (f := p) (l := s.opn.reverse) (by simpa using hp)
 have hl := congrArg List.length h1
 rw [List.length_append, List.length_reverse] at hl
 have hl1 : 1 ≤ (cA p s.opn.reverse).1.length := by rw [h2]; simp
 have hmem : ∀ z, z ∈ (cA p s.opn.reverse).1 ∨ z ∈ (cA p s.opn.reverse).2 → z ∈ s.opn := fun z hz => by
  have : z ∈ s.opn.reverse := by rw [h1]; exact List.mem_append.2 hz
  simpa using this
 have q1 := h.ol
 have q2 := h.kl
 have q3 := h.c1
 refine ⟨h.lc, h.lb, ?_, h.c0, h.c1, fun z hz => ?_, ?_, ?_, fun k hk => ?_⟩
 · show (cZ s.shut _).length = n; rw [fP]; exact h.ls
 · exact h.op z (hmem z (.inr (by simpa [gY] using hz)))
 · show (((cA p s.opn.reverse).2.reverse).length : Int) ≤ s.clock; rw [List.length_reverse]; omega
 · show ((s.knots ++ [(cA p s.opn.reverse).1]).length : Int) + (((cA p s.opn.reverse).2.reverse).length : Int) ≤ s.clock
   rw [List.length_append, List.length_reverse]; simp; omega
 · rcases List.mem_append.1 (show k ∈ s.knots ++ [(cA p s.opn.reverse).1] from hk) with hk | hk
   · exact h.kn k hk
   · simp at hk
     subst hk
     exact ⟨hl1, by omega, fun z hz => h.op z (hmem z (.inl hz))⟩
theorem rh {q : List Int} (hp : ∃ ex, s.opn = q ++ [p] ++ ex) : ∃ ex, (gY p s).opn = q ++ ex := by
 obtain ⟨ex, e⟩ := hp
 obtain ⟨r, hr⟩ := pm (f := p) (a := q.reverse) (b := ex.reverse ++ [p]) (by simp)
 refine ⟨r.reverse, ?_⟩
 show ((cA p s.opn.reverse).2).reverse = _
 have : s.opn.reverse = (ex.reverse ++ [p]) ++ q.reverse := by rw [e]; simp
 rw [this, hr]
 simp
end
theorem jZ {next : List (List Int)} {n : Nat} (hn : ∀ (i : Nat) l, next[i]? = some l → ∀ z ∈ l, 0 ≤ z ∧ z < (n : Int)) :
    ∀ f p s, OkW n s → 0 ≤ p ∧ p < (n : Int) → s.came.getD p.toNat 0 = 0 → OkW n (aW next f p s) ∧ dT (aW next f p s).came ≤ dT s.came ∧ ∃ ex, (aW next f p s).opn = s.opn ++ ex := by
 intro f
 induction f with
 | zero => intro p s h _ _; exact ⟨h, Nat.le_refl _, [], by simp [aW]⟩
 | succ f ih =>
  intro p s h hp h0
  obtain ⟨hc, hu⟩ := h.come hp h0
  have key : ∀ (l : List Int) (t : Wk), (∀ z ∈ l, 0 ≤ z ∧ z < (n : Int)) → OkW n t → OkW n (bJ (aW next f) p l t) ∧ dT (bJ (aW next f) p l t).came ≤ dT t.came ∧ ∃ ex, (bJ (aW next f) p l t).opn = t.opn ++ ex := by
   intro l
   induction l with
   | nil => intro t _ ht; exact ⟨ht, Nat.le_refl _, [], by simp [bJ]⟩
   | cons o r ihl =>
    intro t hl ht
    unfold bJ
    by_cases hz : t.came.getD o.toNat 0 = 0
    · rw [if_pos hz]
      obtain ⟨a1, a2, ex, a3⟩ := ih o t ht (hl o (by simp)) hz
      obtain ⟨b1, b2, ex2, b3⟩ := ihl (dD p o (aW next f o t)) (fun z hz => hl z (by simp [hz])) a1.lower
      refine ⟨b1, by rw [gk.1] at b2; omega, ex ++ ex2, ?_⟩
      rw [b3, gk.2, a3]
      simp
    · rw [if_neg hz]
      obtain ⟨b1, b2, ex2, b3⟩ := ihl (dD p o t) (fun z hz => hl z (by simp [hz])) ht.lower
      exact ⟨b1, by rw [gk.1] at b2; omega, ex2, by rw [b3, gk.2]⟩
  have hrow : ∀ z ∈ row next p, 0 ≤ z ∧ z < (n : Int) := by
   intro z hz
   unfold row at hz
   rw [List.getD_eq_getElem?_getD] at hz
   cases hg : next[p.toNat]? with
   | none => rw [hg] at hz; simp at hz
   | some l => rw [hg] at hz; exact hn _ l hg z hz
  obtain ⟨k1, k2, ex, k3⟩ := key (row next p) (eZ p s) hrow hc
  have k3' : (bJ (aW next f) p (row next p) (eZ p s)).opn = s.opn ++ [p] ++ ex := k3
  show OkW n (kk p _) ∧ dT (kk p _).came ≤ _ ∧ _
  unfold aW kk
  split
  · refine ⟨k1.shutK (by rw [k3']; simp), ?_, ?_⟩
    · show dT (bJ (aW next f) p (row next p) (eZ p s)).came ≤ _; omega
    · exact rh ⟨ex, k3'⟩
  · exact ⟨k1, by omega, [p] ++ ex, by rw [k3']; simp⟩
theorem am {g g' T T' : Nat} {vs vs' : List Value} {w : World} (h : Fx g T vs w) (h' : Fx g' T' vs' w) (hT : T ≠ T') : g ≠ g' := by
 intro e
 subst e
 rw [Fx] at h h'
 rw [h] at h'
 cases h'
 exact hT rfl
theorem ao {w : World} {b g T e : Nat} {v : Value} {n : Nat} {xs vs : List Value} (h : w.ownsRow b e 1 v n xs) (hg : Fx g T vs w) (hT : e ≠ T) : v.ownBlock ≠ some g := qs (aP h (Nat.zero_le _)) hg hT
abbrev sl (g n : Nat) : Value := .slice (some ⟨g, 0, none⟩) n n
abbrev ud (nv : Value) (n cb bb sb : Nat) (ov kv : Value) (clock : Int) : List Value := [nv, sl cb n, sl bb n, .int .i64 clock, ov, sl sb n, kv]
structure Wi (B W : Nat) (nv : Value) (next : List (List Int)) (n cb bb sb : Nat) (ov kv : Value) (Z : Nat → Prop) (s : Wk) (w : World) : Prop where
 bx : Fx W 109 (ud nv n cb bb sb ov kv s.clock) w
 nx : Lists B w next nv
 lo : B ≤ W ∧ B ≤ cb ∧ B ≤ bb ∧ B ≤ sb
 fc : Fx cb 3 (av s.came) w
 fb : Fx bb 3 (av s.back) w
 fs : Fx sb 4 (dY s.shut) w
 ro : w.ownsRow B 3 1 ov s.opn.length (av s.opn)
 ne : cb ≠ bb ∧ ov.ownBlock ≠ some cb ∧ ov.ownBlock ≠ some bb
 rk : ∃ xs, w.ownsRow B 26 1 kv s.knots.length xs ∧ ∀ (i : Nat) k, s.knots[i]? = some k → ∃ v, xs[i]? = some v ∧ RZ Z 1 cI w k v
 z : ∀ g, Z g → B ≤ g ∧ g ≠ cb ∧ g ≠ bb ∧ ov.ownBlock ≠ some g ∧ ∃ vs, Fx g 3 vs w
section
variable {B W : Nat} {nv : Value} {next : List (List Int)} {n cb bb sb : Nat} {ov kv : Value} {Z : Nat → Prop} {s : Wk} {w w' : World}
theorem RZ.rep {α : Type} {k : Nat} {c : World → α → List Value → Prop} {l : List α} {v : Value} (h : RZ Z k c w l v) (hb : ∀ g, Z g → w'.heap[g]? = w.heap[g]?) (hc : ∀ a xs, c w a xs → c w' a xs) : RZ Z k c w' l v := RZ.keep h (fun g hg => ⟨hg, hb g hg⟩) hc
theorem fp {ks : List (List Int)} (h : ∃ xs, w.ownsRow B 26 1 kv ks.length xs ∧ ∀ (i : Nat) k, ks[i]? = some k → ∃ v, xs[i]? = some v ∧ RZ Z 1 cI w k v) (hk : ∀ g, kv.ownBlock = some g → w'.heap[g]? = w.heap[g]?) (hb : ∀ g, Z g → w'.heap[g]? = w.heap[g]?) :
    ∃ xs, w'.ownsRow B 26 1 kv ks.length xs ∧ ∀ (i : Nat) k, ks[i]? = some k → ∃ v, xs[i]? = some v ∧ RZ Z 1 cI w' k v := by
 obtain ⟨xs, h1, h2⟩ := h
 refine ⟨xs, owns_keep h1 hk, fun i k hi => ?_⟩
 obtain ⟨v, h3, h4⟩ := h2 i k hi
 exact ⟨v, h3, h4.rep hb fun _ _ h => h⟩
theorem kZ (h : ∀ g, Z g → B ≤ g ∧ g ≠ cb ∧ g ≠ bb ∧ ov.ownBlock ≠ some g ∧ ∃ vs, Fx g 3 vs w) (hb : ∀ g, Z g → w'.heap[g]? = w.heap[g]?) : ∀ g, Z g → B ≤ g ∧ g ≠ cb ∧ g ≠ bb ∧ ov.ownBlock ≠ some g ∧ ∃ vs, Fx g 3 vs w' := fun g hg => by
 obtain ⟨h1, h2, h3, h4, vs, h5⟩ := h g hg
 exact ⟨h1, h2, h3, h4, vs, h5.keep (hb g hg)⟩
theorem Wi.call (h : Wi B W nv next n cb bb sb ov kv Z s w) (hb : Below w.heap.size w w') (hB : B ≤ w.heap.size) : Wi B W nv next n cb bb sb ov kv Z s w' := by
 have hz : ∀ g, Z g → w'.heap[g]? = w.heap[g]? := fun g hg => by obtain ⟨_, _, _, _, vs, h5⟩ := h.z g hg; exact hb.block g h5.lt
 obtain ⟨xs, k1, _⟩ := h.rk
 exact ⟨h.bx.keep (hb.block _ h.bx.lt), h.nx.keep fun g hg => hb.block g (by omega), h.lo, h.fc.keep (hb.block _ h.fc.lt), h.fb.keep (hb.block _ h.fb.lt), h.fs.keep (hb.block _ h.fs.lt), owns_keep h.ro fun g hg => hb.block g (aA h.ro hg), h.ne, fp h.rk (fun g hg => hb.block g (aA k1 hg)) hz, kZ h.z hz⟩
theorem Wi.hz (h : Wi B W nv next n cb bb sb ov kv Z s w) {q : Nat} (hq : q = W ∨ q = cb ∨ q = bb ∨ q = sb) : ∀ g, Z g → g ≠ q := fun g hg => by
 obtain ⟨_, h2, h3, _, vs, h5⟩ := h.z g hg
 rcases hq with rfl | rfl | rfl | rfl
 · exact am h5 h.bx (by decide)
 · exact h2
 · exact h3
 · exact am h5 h.fs (by decide)
theorem Wi.set (h : Wi B W nv next n cb bb sb ov kv Z s w) {q i : Nat} {u : Value} (hq : q = W ∨ q = cb ∨ q = bb ∨ q = sb) {s' : Wk} (e1 : s'.opn = s.opn) (e2 : s'.knots = s.knots)
    (bx : Fx W 109 (ud nv n cb bb sb ov kv s'.clock) (w.setCell ⟨q, i, none⟩ u)) (fc : Fx cb 3 (av s'.came) (w.setCell ⟨q, i, none⟩ u)) (fb : Fx bb 3 (av s'.back) (w.setCell ⟨q, i, none⟩ u)) (fs : Fx sb 4 (dY s'.shut) (w.setCell ⟨q, i, none⟩ u)) :
    Wi B W nv next n cb bb sb ov kv Z s' (w.setCell ⟨q, i, none⟩ u) := by
 obtain ⟨l1, l2, l3, l4⟩ := h.lo
 have hBq : B ≤ q := by rcases hq with rfl | rfl | rfl | rfl <;> assumption
 have hz := h.hz hq
 have hoq : ov.ownBlock ≠ some q := by
  rcases hq with rfl | rfl | rfl | rfl
  · exact ao h.ro h.bx (by decide)
  · exact h.ne.2.1
  · exact h.ne.2.2
  · exact ao h.ro h.fs (by decide)
 obtain ⟨xs, k1, _⟩ := h.rk
 have hkq : kv.ownBlock ≠ some q := by
  rcases hq with rfl | rfl | rfl | rfl
  · exact ao k1 h.bx (by decide)
  · exact ao k1 h.fc (by decide)
  · exact ao k1 h.fb (by decide)
  · exact ao k1 h.fs (by decide)
 refine ⟨bx, h.nx.keep fun g hg => other_set (by omega), h.lo, fc, fb, fs, ?_, h.ne, ?_, kZ h.z fun g hg => other_set (hz g hg)⟩
 · rw [e1]
   exact owns_keep h.ro fun g hg => other_set fun e => hoq (e ▸ hg)
 · rw [e2]
   exact fp h.rk (fun g hg => other_set fun e => hkq (e ▸ hg)) fun g hg => other_set (hz g hg)
theorem Wi.clock (h : Wi B W nv next n cb bb sb ov kv Z s w) (z : Int) : Wi B W nv next n cb bb sb ov kv Z { s with clock := z } (w.setCell ⟨W, 3, none⟩ (.int .i64 z)) :=
 h.set (.inl rfl) rfl rfl (h.bx.set 3 _) (h.fc.keep (other_set (am h.fc h.bx (by decide)))) (h.fb.keep (other_set (am h.fb h.bx (by decide)))) (h.fs.keep (other_set (am h.fs h.bx (by decide))))
theorem Wi.came (h : Wi B W nv next n cb bb sb ov kv Z s w) (i : Nat) (z : Int) : Wi B W nv next n cb bb sb ov kv Z { s with came := s.came.set i z } (w.setCell ⟨cb, i, none⟩ (.int .i64 z)) :=
 h.set (.inr (.inl rfl)) rfl rfl (h.bx.keep (other_set (am h.bx h.fc (by decide)))) (by show Fx _ _ (av (s.came.set i z)) _; rw [← ke]; exact h.fc.set i _) (h.fb.keep (other_set (fun e => h.ne.1 e.symm))) (h.fs.keep (other_set (am h.fs h.fc (by decide))))
theorem Wi.back (h : Wi B W nv next n cb bb sb ov kv Z s w) (i : Nat) (z : Int) : Wi B W nv next n cb bb sb ov kv Z { s with back := s.back.set i z } (w.setCell ⟨bb, i, none⟩ (.int .i64 z)) :=
 h.set (.inr (.inr (.inl rfl))) rfl rfl (h.bx.keep (other_set (am h.bx h.fb (by decide)))) (h.fc.keep (other_set h.ne.1)) (by show Fx _ _ (av (s.back.set i z)) _; rw [← ke]; exact h.fb.set i _) (h.fs.keep (other_set (am h.fs h.fb (by decide))))
theorem Wi.shut (h : Wi B W nv next n cb bb sb ov kv Z s w) (i : Nat) : Wi B W nv next n cb bb sb ov kv Z { s with shut := s.shut.set i true } (w.setCell ⟨sb, i, none⟩ (.bool true)) :=
 h.set (.inr (.inr (.inr rfl))) rfl rfl (h.bx.keep (other_set (am h.bx h.fs (by decide)))) (h.fc.keep (other_set (am h.fc h.fs (by decide)))) (h.fb.keep (other_set (am h.fb h.fs (by decide)))) (by show Fx _ _ (dY (s.shut.set i true)) _; rw [← mA]; exact h.fs.set i _)
end
end Go.Proofs.YthifoamnmhlghaaGreat
