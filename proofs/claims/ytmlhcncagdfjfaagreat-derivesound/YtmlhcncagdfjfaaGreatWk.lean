import Derived.Test.YtmlhcncagdfjfaaGreatFix
import Derived.Deep.QuietTactic
import Derived.BigQuiet
import Derived.WalkKit
namespace Go.Proofs.YtmlhcncagdfjfaaGreat
open Go.RowKit
def d9 (l : List Int) : Nat := (l.filter fun z => decide (z = 0)).length
theorem si {l : List Int} {i : Nat} {z : Int} (hi : i < l.length) (h0 : l.getD i 0 = 0) (hz : z ≠ 0) : d9 (l.set i z) + 1 = d9 l := by
 induction l generalizing i with
 | nil => simp at hi
 | cons x r ih =>
  cases i with
  | zero =>
   have hx : x = 0 := by simpa using h0
   subst hx
   simp [d9, hz]
  | succ i =>
   have := ih (i := i) (by simpa using hi) (by simpa using h0)
   unfold d9 at this ⊢
   by_cases hx : x = 0
   ·simp [hx] at this ⊢; omega
   simp [hx] at this ⊢; omega
structure OkW (n : Nat) (s : Wk) : Prop where
 lc : s.came.length = n
 lb : s.back.length = n
 ls : s.shut.length = n
 c0 : 0 ≤ s.clock
 c1 : s.clock + d9 s.came ≤ n
 op : ∀ z ∈ s.opn, 0 ≤ z ∧ z < n
 ol : (s.opn.length : Int) ≤ s.clock
 kl : (s.knots.length : Int) + s.opn.length ≤ s.clock
 kn : ∀ k ∈ s.knots, 1 ≤ k.length ∧ k.length ≤ n ∧ ∀ z ∈ k, 0 ≤ z ∧ z < n
theorem qq {f : Int} : ∀ {l : List Int}, f ∈ l → l = (cF f l).1 ++ (cF f l).2 ∧ (∃ pre, (cF f l).1 = pre ++ [f] ∧ f ∉ pre)
 | [], h => by simp at h
 | x :: r, h => by
  unfold cF
  by_cases e : x = f
  ·rw [if_pos e]
   exact ⟨rfl, [], by simp [e], by simp⟩
  rw [if_neg e]
  obtain ⟨h1, pre, h2, h3⟩ := qq (show f ∈ r by rcases List.mem_cons.1 h with h | h; exact absurd h.symm e; exact h)
  refine ⟨by simp only [List.cons_append]; rw [← h1], x :: pre, by simp only [h2]; rfl, ?_⟩
  simp only [List.mem_cons, not_or]
  exact ⟨fun h => e h.symm, h3⟩
theorem sC {f : Int} {a b : List Int} (h : f ∈ b) : ∃ r, (cF f (b ++ a)).2 = r ++ a := by
 induction b with
 | nil => simp at h
 | cons x r ih =>
  show ∃ q, (cF f (x :: (r ++ a))).2 = q ++ a
  unfold cF
  by_cases e : x = f
  ·rw [if_pos e]; exact ⟨r, rfl⟩
  rw [if_neg e]
  exact ih (by rcases List.mem_cons.1 h with h | h; exact absurd h.symm e; exact h)
theorem gE : ∀ {k : List Int} {sh : List Bool}, (da sh k).length = sh.length
 | [], sh => rfl
 | x :: r, sh => by unfold da; rw [gE]; simp
theorem jh : ∀ {a b : List Int} {sh : List Bool}, da sh (a ++ b) = da (da sh a) b
 | [], b, sh => rfl
 | x :: r, b, sh => by show da (sh.set x.toNat true) (r ++ b) = _; rw [jh]; rfl
section
variable {n : Nat} {s : Wk} {p o : Int}
theorem OkW.come (h : OkW n s) (hp : 0 ≤ p ∧ p < n) (h0 : s.came.getD p.toNat 0 = 0) : OkW n (fX p s) ∧ d9 (fX p s).came + 1 = d9 s.came := by
 have hc := h.c0
 have hu := si (i := p.toNat) (z := s.clock + 1) (by rw [h.lc]; omega) h0 (by omega)
 have h1 := h.c1
 have h2 := h.ol
 have h3 := h.kl
 refine ⟨⟨?_, ?_, h.ls, ?_, ?_, ?_, ?_, ?_, h.kn⟩, hu⟩
 ·show (s.came.set p.toNat (s.clock + 1)).length = n; rw [List.length_set]; exact h.lc
 ·show (s.back.set p.toNat (s.clock + 1)).length = n; rw [List.length_set]; exact h.lb
 ·show 0 ≤ s.clock + 1; omega
 ·show s.clock + 1 + (d9 (s.came.set p.toNat (s.clock + 1)) : Int) ≤ n; omega
 ·intro z hz
  rcases List.mem_append.1 hz with hz | hz
  ·exact h.op z hz
  simp at hz; subst hz; exact hp
 ·show ((s.opn ++ [p]).length : Int) ≤ s.clock + 1; simp; omega
 show (s.knots.length : Int) + ((s.opn ++ [p]).length : Int) ≤ s.clock + 1; simp; omega
theorem OkW.lower (h : OkW n s) : OkW n (dR p o s) := by
 unfold dR
 split
 ·exact h
 exact ⟨h.lc, by rw [List.length_set]; exact h.lb, h.ls, h.c0, h.c1, h.op, h.ol, h.kl, h.kn⟩
theorem gU : (dR p o s).came = s.came ∧ (dR p o s).opn = s.opn := by
 unfold dR
 split <;> exact ⟨rfl, rfl⟩
theorem OkW.shutK (h : OkW n s) (hp : p ∈ s.opn) : OkW n (i4 p s) := by
 obtain ⟨h1, Ac, h2, h3⟩ := qq (f := p) (l := s.opn.reverse) (by simpa using hp)
 have hl := congrArg List.length h1
 rw [List.length_append, List.length_reverse] at hl
 have Ab : 1 ≤ (cF p s.opn.reverse).1.length := by rw [h2]; simp
 have Aa : ∀ z, z ∈ (cF p s.opn.reverse).1 ∨ z ∈ (cF p s.opn.reverse).2 → z ∈ s.opn := fun z hz => by
  have : z ∈ s.opn.reverse := by rw [h1]; exact List.mem_append.2 hz
  simpa using this
 have q1 := h.ol
 have q2 := h.kl
 have q3 := h.c1
 refine ⟨h.lc, h.lb, ?_, h.c0, h.c1, fun z hz => ?_, ?_, ?_, fun k hk => ?_⟩
 ·show (da s.shut _).length = n; rw [gE]; exact h.ls
 ·exact h.op z (Aa z (.inr (by simpa [i4] using hz)))
 ·show (((cF p s.opn.reverse).2.reverse).length : Int) ≤ s.clock; rw [List.length_reverse]; omega
 ·show ((s.knots ++ [(cF p s.opn.reverse).1]).length : Int) + (((cF p s.opn.reverse).2.reverse).length : Int) ≤ s.clock
  rw [List.length_append, List.length_reverse]; simp; omega
 rcases List.mem_append.1 (show k ∈ s.knots ++ [(cF p s.opn.reverse).1] from hk) with hk | hk
 ·exact h.kn k hk
 simp at hk
 subst hk
 exact ⟨Ab, by omega, fun z hz => h.op z (Aa z (.inl hz))⟩
theorem uQ {q : List Int} (hp : ∃ ex, s.opn = q ++ [p] ++ ex) : ∃ ex, (i4 p s).opn = q ++ ex := by
 obtain ⟨ex, e⟩ := hp
 obtain ⟨r, hr⟩ := sC (f := p) (a := q.reverse) (b := ex.reverse ++ [p]) (by simp)
 refine ⟨r.reverse, ?_⟩
 show ((cF p s.opn.reverse).2).reverse = _
 have : s.opn.reverse = (ex.reverse ++ [p]) ++ q.reverse := by rw [e]; simp
 rw [this, hr]
 simp
end
theorem mL {next : List (List Int)} {n : Nat} (hn : ∀ (i : Nat) l, next[i]? = some l → ∀ z ∈ l, 0 ≤ z ∧ z < (n : Int)) :
    ∀ f p s, OkW n s → 0 ≤ p ∧ p < (n : Int) → s.came.getD p.toNat 0 = 0 → OkW n (aN next f p s) ∧ d9 (aN next f p s).came ≤ d9 s.came ∧ ∃ ex, (aN next f p s).opn = s.opn ++ ex := by
 intro f
 induction f with
 | zero => intro p s h _ _; exact ⟨h, Nat.le_refl _, [], by simp [aN]⟩
 | succ f ih =>
  intro p s h hp h0
  obtain ⟨hc, hu⟩ := h.come hp h0
  have key : ∀ (l : List Int) (t : Wk), (∀ z ∈ l, 0 ≤ z ∧ z < (n : Int)) → OkW n t → OkW n (bL (aN next f) p l t) ∧ d9 (bL (aN next f) p l t).came ≤ d9 t.came ∧ ∃ ex, (bL (aN next f) p l t).opn = t.opn ++ ex := by
   intro l
   induction l with
   | nil => intro t _ ht; exact ⟨ht, Nat.le_refl _, [], by simp [bL]⟩
   | cons o r ihl =>
    intro t hl ht
    unfold bL
    by_cases hz : t.came.getD o.toNat 0 = 0
    ·rw [if_pos hz]
     obtain ⟨a1, a2, ex, a3⟩ := ih o t ht (hl o (by simp)) hz
     obtain ⟨b1, b2, Aa, b3⟩ := ihl (dR p o (aN next f o t)) (fun z hz => hl z (by simp [hz])) a1.lower
     refine ⟨b1, by rw [gU.1] at b2; omega, ex ++ Aa, ?_⟩
     rw [b3, gU.2, a3]
     simp
    rw [if_neg hz]
    obtain ⟨b1, b2, Aa, b3⟩ := ihl (dR p o t) (fun z hz => hl z (by simp [hz])) ht.lower
    exact ⟨b1, by rw [gU.1] at b2; omega, Aa, by rw [b3, gU.2]⟩
  have Ab : ∀ z ∈ row next p, 0 ≤ z ∧ z < (n : Int) := by
   intro z hz
   unfold row at hz
   rw [List.getD_eq_getElem?_getD] at hz
   cases hg : next[p.toNat]? with
   | none => rw [hg] at hz; simp at hz
   | some l => rw [hg] at hz; exact hn _ l hg z hz
  obtain ⟨k1, k2, ex, k3⟩ := key (row next p) (fX p s) Ab hc
  have k3' : (bL (aN next f) p (row next p) (fX p s)).opn = s.opn ++ [p] ++ ex := k3
  show OkW n (mh p _) ∧ d9 (mh p _).came ≤ _ ∧ _
  unfold aN mh
  split
  ·refine ⟨k1.shutK (by rw [k3']; simp), ?_, ?_⟩
   ·show d9 (bL (aN next f) p (row next p) (fX p s)).came ≤ _; omega
   exact uQ ⟨ex, k3'⟩
  exact ⟨k1, by omega, [p] ++ ex, by rw [k3']; simp⟩
theorem an {g g' T T' : Nat} {vs vs' : List Value} {w : World} (h : Fx g T vs w) (h' : Fx g' T' vs' w) (hT : T ≠ T') : g ≠ g' := by
 intro e
 subst e
 rw [Fx] at h h'
 rw [h] at h'
 cases h'
 exact hT rfl
theorem au {w : World} {b g T e : Nat} {v : Value} {n : Nat} {xs vs : List Value} (h : w.ownsRow b e 1 v n xs) (hg : Fx g T vs w) (hT : e ≠ T) : v.ownBlock ≠ some g := uL (aI h (Nat.zero_le _)) hg hT
abbrev sl (g n : Nat) : Value := .slice (some ⟨g, 0, none⟩) n n
abbrev zR (nv : Value) (n cb bb sb : Nat) (ov kv : Value) (clock : Int) : List Value := [nv, sl cb n, sl bb n, .int .i64 clock, ov, sl sb n, kv]
structure Wi (B W : Nat) (nv : Value) (next : List (List Int)) (n cb bb sb : Nat) (ov kv : Value) (Z : Nat → Prop) (s : Wk) (w : World) : Prop where
 bx : Fx W 198 (zR nv n cb bb sb ov kv s.clock) w
 nx : Lists B w next nv
 lo : B ≤ W ∧ B ≤ cb ∧ B ≤ bb ∧ B ≤ sb
 fc : Fx cb 3 (aq s.came) w
 fb : Fx bb 3 (aq s.back) w
 fs : Fx sb 4 (ew s.shut) w
 ro : w.ownsRow B 3 1 ov s.opn.length (aq s.opn)
 ne : cb ≠ bb ∧ ov.ownBlock ≠ some cb ∧ ov.ownBlock ≠ some bb
 rk : ∃ xs, w.ownsRow B 26 1 kv s.knots.length xs ∧ ∀ (i : Nat) k, s.knots[i]? = some k → ∃ v, xs[i]? = some v ∧ RZ Z 1 cI w k v
 z : ∀ g, Z g → B ≤ g ∧ g ≠ cb ∧ g ≠ bb ∧ ov.ownBlock ≠ some g ∧ ∃ vs, Fx g 3 vs w
section
variable {B W : Nat} {nv : Value} {next : List (List Int)} {n cb bb sb : Nat} {ov kv : Value} {Z : Nat → Prop} {s : Wk} {w w' : World}
theorem RZ.rep {α : Type} {k : Nat} {c : World → α → List Value → Prop} {l : List α} {v : Value} (h : RZ Z k c w l v) (hb : ∀ g, Z g → w'.heap[g]? = w.heap[g]?) (hc : ∀ a xs, c w a xs → c w' a xs) : RZ Z k c w' l v := RZ.keep h (fun g hg => ⟨hg, hb g hg⟩) hc
theorem fW {ks : List (List Int)} (h : ∃ xs, w.ownsRow B 26 1 kv ks.length xs ∧ ∀ (i : Nat) k, ks[i]? = some k → ∃ v, xs[i]? = some v ∧ RZ Z 1 cI w k v) (hk : ∀ g, kv.ownBlock = some g → w'.heap[g]? = w.heap[g]?) (hb : ∀ g, Z g → w'.heap[g]? = w.heap[g]?) :
    ∃ xs, w'.ownsRow B 26 1 kv ks.length xs ∧ ∀ (i : Nat) k, ks[i]? = some k → ∃ v, xs[i]? = some v ∧ RZ Z 1 cI w' k v := by
 obtain ⟨xs, h1, h2⟩ := h
 refine ⟨xs, owns_keep h1 hk, fun i k hi => ?_⟩
 obtain ⟨v, h3, h4⟩ := h2 i k hi
 exact ⟨v, h3, h4.rep hb fun _ _ h => h⟩
theorem m9 (h : ∀ g, Z g → B ≤ g ∧ g ≠ cb ∧ g ≠ bb ∧ ov.ownBlock ≠ some g ∧ ∃ vs, Fx g 3 vs w) (hb : ∀ g, Z g → w'.heap[g]? = w.heap[g]?) : ∀ g, Z g → B ≤ g ∧ g ≠ cb ∧ g ≠ bb ∧ ov.ownBlock ≠ some g ∧ ∃ vs, Fx g 3 vs w' := fun g hg => by
 obtain ⟨h1, h2, h3, h4, vs, h5⟩ := h g hg
 exact ⟨h1, h2, h3, h4, vs, h5.keep (hb g hg)⟩
theorem Wi.call (h : Wi B W nv next n cb bb sb ov kv Z s w) (hb : Below w.heap.size w w') (hB : B ≤ w.heap.size) : Wi B W nv next n cb bb sb ov kv Z s w' := by
 have hz : ∀ g, Z g → w'.heap[g]? = w.heap[g]? := fun g hg => by obtain ⟨_, _, _, _, vs, h5⟩ := h.z g hg; exact hb.block g h5.lt
 obtain ⟨xs, k1, _⟩ := h.rk
 exact ⟨h.bx.keep (hb.block _ h.bx.lt), h.nx.keep fun g hg => hb.block g (by omega), h.lo, h.fc.keep (hb.block _ h.fc.lt), h.fb.keep (hb.block _ h.fb.lt), h.fs.keep (hb.block _ h.fs.lt), owns_keep h.ro fun g hg => hb.block g (ax h.ro hg), h.ne, fW h.rk (fun g hg => hb.block g (ax k1 hg)) hz, m9 h.z hz⟩
theorem Wi.hz (h : Wi B W nv next n cb bb sb ov kv Z s w) {q : Nat} (hq : q = W ∨ q = cb ∨ q = bb ∨ q = sb) : ∀ g, Z g → g ≠ q := fun g hg => by
 obtain ⟨_, h2, h3, _, vs, h5⟩ := h.z g hg
 rcases hq with rfl | rfl | rfl | rfl
 ·exact an h5 h.bx (by decide)
 ·exact h2
 ·exact h3
 exact an h5 h.fs (by decide)
theorem Wi.set (h : Wi B W nv next n cb bb sb ov kv Z s w) {q i : Nat} {u : Value} (hq : q = W ∨ q = cb ∨ q = bb ∨ q = sb) {s' : Wk} (e1 : s'.opn = s.opn) (e2 : s'.knots = s.knots)
    (bx : Fx W 198 (zR nv n cb bb sb ov kv s'.clock) (w.setCell ⟨q, i, none⟩ u)) (fc : Fx cb 3 (aq s'.came) (w.setCell ⟨q, i, none⟩ u)) (fb : Fx bb 3 (aq s'.back) (w.setCell ⟨q, i, none⟩ u)) (fs : Fx sb 4 (ew s'.shut) (w.setCell ⟨q, i, none⟩ u)) :
    Wi B W nv next n cb bb sb ov kv Z s' (w.setCell ⟨q, i, none⟩ u) := by
 obtain ⟨l1, l2, l3, l4⟩ := h.lo
 have Ac : B ≤ q := by rcases hq with rfl | rfl | rfl | rfl <;> assumption
 have hz := h.hz hq
 have Ab : ov.ownBlock ≠ some q := by
  rcases hq with rfl | rfl | rfl | rfl
  ·exact au h.ro h.bx (by decide)
  ·exact h.ne.2.1
  ·exact h.ne.2.2
  exact au h.ro h.fs (by decide)
 obtain ⟨xs, k1, _⟩ := h.rk
 have Aa : kv.ownBlock ≠ some q := by
  rcases hq with rfl | rfl | rfl | rfl
  ·exact au k1 h.bx (by decide)
  ·exact au k1 h.fc (by decide)
  ·exact au k1 h.fb (by decide)
  exact au k1 h.fs (by decide)
 refine ⟨bx, h.nx.keep fun g hg => other_set (by omega), h.lo, fc, fb, fs, ?_, h.ne, ?_, m9 h.z fun g hg => other_set (hz g hg)⟩
 ·rw [e1]
  exact owns_keep h.ro fun g hg => other_set fun e => Ab (e ▸ hg)
 rw [e2]
 exact fW h.rk (fun g hg => other_set fun e => Aa (e ▸ hg)) fun g hg => other_set (hz g hg)
theorem Wi.clock (h : Wi B W nv next n cb bb sb ov kv Z s w) (z : Int) : Wi B W nv next n cb bb sb ov kv Z { s with clock := z } (w.setCell ⟨W, 3, none⟩ (.int .i64 z)) :=
 h.set (.inl rfl) rfl rfl (h.bx.set 3 _) (h.fc.keep (other_set (an h.fc h.bx (by decide)))) (h.fb.keep (other_set (an h.fb h.bx (by decide)))) (h.fs.keep (other_set (an h.fs h.bx (by decide))))
theorem Wi.came (h : Wi B W nv next n cb bb sb ov kv Z s w) (i : Nat) (z : Int) : Wi B W nv next n cb bb sb ov kv Z { s with came := s.came.set i z } (w.setCell ⟨cb, i, none⟩ (.int .i64 z)) :=
 h.set (.inr (.inl rfl)) rfl rfl (h.bx.keep (other_set (an h.bx h.fc (by decide)))) (by show Fx _ _ (aq (s.came.set i z)) _; rw [← mn]; exact h.fc.set i _) (h.fb.keep (other_set (fun e => h.ne.1 e.symm))) (h.fs.keep (other_set (an h.fs h.fc (by decide))))
theorem Wi.back (h : Wi B W nv next n cb bb sb ov kv Z s w) (i : Nat) (z : Int) : Wi B W nv next n cb bb sb ov kv Z { s with back := s.back.set i z } (w.setCell ⟨bb, i, none⟩ (.int .i64 z)) :=
 h.set (.inr (.inr (.inl rfl))) rfl rfl (h.bx.keep (other_set (an h.bx h.fb (by decide)))) (h.fc.keep (other_set h.ne.1)) (by show Fx _ _ (aq (s.back.set i z)) _; rw [← mn]; exact h.fb.set i _) (h.fs.keep (other_set (an h.fs h.fb (by decide))))
theorem Wi.shut (h : Wi B W nv next n cb bb sb ov kv Z s w) (i : Nat) : Wi B W nv next n cb bb sb ov kv Z { s with shut := s.shut.set i true } (w.setCell ⟨sb, i, none⟩ (.bool true)) :=
 h.set (.inr (.inr (.inr rfl))) rfl rfl (h.bx.keep (other_set (an h.bx h.fs (by decide)))) (h.fc.keep (other_set (an h.fc h.fs (by decide)))) (h.fb.keep (other_set (an h.fb h.fs (by decide)))) (by show Fx _ _ (ew (s.shut.set i true)) _; rw [← pj]; exact h.fs.set i _)
end
end Go.Proofs.YtmlhcncagdfjfaaGreat
namespace Go.Proofs.YtmlhcncagdfjfaaGreat
open Go Go.RowKit
section
variable {P : Program} {md : Region.Mode} {C : World → Prop}
def bj (o : Oper) : Oper := { o with op := .move (.const undef), dst := none }
def gO (ops : List Oper) : Bool := (match ops.getLast? with | some o => o.guard.isNone | none => false) && ops.all fun o => match o.guard with
 | none => true
 | some (g, _) => decide (g + 1 < ops.length)
def fP (md : Region.Mode) (ops : Array Oper) : Bool := (List.range (ops.size - 1)).all fun j => (List.range ops.size).any fun k => decide (j < k) && match ops[k]? with
 | some o => o.after.any fun e => decide (e.on = j) && Region.binds md e
 | none => false
def nJ (md : Region.Mode) (ops : Array Oper) (listed : Array Bool) : Prop := ∀ (j : Nat) (o : Oper), ops[j]? = some o → listed.getD j false = true → ∀ e ∈ o.after, Region.binds md e = true → listed.getD e.on false = true
theorem dV {α : Type} (a : Array α) (i : Nat) (v d : α) (h : i < a.size) : (a.setIfInBounds i v).getD i d = v := by simp [h]
theorem cE {α : Type} (a : Array α) (i j : Nat) (v d : α) (h : i ≠ j) : (a.setIfInBounds i v).getD j d = a.getD j d := by
 simp only [Array.getD_eq_getD_getElem?]
 rw [Array.getElem?_setIfInBounds_ne h]
theorem je {a : Array Bool} {i j : Nat} (h : a.getD j false = true) : (a.setIfInBounds i true).getD j false = true := by
 by_cases e : i = j
 ·subst e
  by_cases hl : i < a.size
  ·exact dV _ _ _ _ hl
  simp [hl] at h
 rw [cE _ _ _ _ _ e]; exact h
theorem m7 {ops : Array Oper} {listed : Array Bool} {i : Nat} (h : nJ md ops listed) (hr : i ∈ Region.ready md ops listed) : nJ md ops (listed.setIfInBounds i true) := by
 obtain ⟨_, o, ho, Aa⟩ := mem_ready.1 hr
 intro j oj hj hl e he hb
 by_cases hji : i = j
 ·subst hji
  rw [ho] at hj
  cases hj
  exact je (Aa e he hb)
 rw [cE _ _ _ _ _ hji] at hl
 exact je (h j oj hj hl e he hb)
theorem sG {ops : Array Oper} {listed : Array Bool} (hc : fP md ops = true) (h : nJ md ops listed) (hr : ops.size - 1 ∈ Region.ready md ops listed) : ∀ j, j < ops.size - 1 → listed.getD j false = true := by
 obtain ⟨_, o, ho, Ab⟩ := mem_ready.1 hr
 have key : ∀ n j, ops.size - 1 - j ≤ n → j < ops.size - 1 → listed.getD j false = true := by
  intro n
  induction n with
  | zero => intro j h1 h2; omega
  | succ n ih =>
   intro j h1 h2
   have h3 := List.all_eq_true.1 hc j (List.mem_range.2 h2)
   obtain ⟨k, hk, h4⟩ := List.any_eq_true.1 h3
   have Ac := List.mem_range.1 hk
   simp only [Bool.and_eq_true, decide_eq_true_eq] at h4
   obtain ⟨Ad, h5⟩ := h4
   have Aa : ops[k]? = some ops[k] := by simp [Ac]
   rw [Aa] at h5
   simp only at h5
   obtain ⟨q, hq, h6⟩ := Array.any_eq_true.1 h5
   have he : ops[k].after[q] ∈ ops[k].after := Array.getElem_mem hq
   generalize ops[k].after[q] = e at h6 he
   simp only [Bool.and_eq_true, decide_eq_true_eq] at h6
   by_cases hkl : k = ops.size - 1
   ·subst hkl
    rw [Aa] at ho
    cases ho
    rw [← h6.1]
    exact Ab e he h6.2
   rw [← h6.1]
   exact h k _ Aa (ih k (by omega) (by omega)) e he h6.2
 intro j hj
 exact key _ j (Nat.le_refl _) hj
theorem jK {l : List Oper} {o : Oper} {listed : Array Bool} : Region.ready md (l ++ [bj o]).toArray listed = Region.ready md (l ++ [o]).toArray listed := by
 unfold Region.ready
 simp only [List.size_toArray, List.length_append, List.length_cons, List.length_nil]
 refine List.filter_congr fun j _ => ?_
 by_cases hj : j < l.length
 ·simp [List.getElem?_append_left hj]
 by_cases hj2 : j = l.length
 ·subst hj2; simp [bj]
 simp [List.getElem?_append_right (show l.length ≤ j by omega), List.getElem?_eq_none (show [bj o].length ≤ j - l.length by simp; omega), List.getElem?_eq_none (show [o].length ≤ j - l.length by simp; omega)]
theorem jZ {l : List Oper} {o : Oper} (h : gO (l ++ [o]) = true) : o.guard = none := by
 unfold gO at h
 simp only [Bool.and_eq_true, List.getLast?_append, List.getLast?_singleton, Option.some_or] at h
 simpa using h.1
theorem wy {l : List Oper} {o : Oper} (h : gO (l ++ [o]) = true) {x : Oper} (hx : x ∈ l ++ [o]) : ∀ g b, x.guard = some (g, b) → g < l.length := by
 intro g b hg
 unfold gO at h
 simp only [Bool.and_eq_true] at h
 have := List.all_eq_true.1 h.2 x hx
 rw [hg] at this
 simp at this
 omega
theorem rj {l : List Oper} {o : Oper} {x : Oper} {t : Array Value} (h : ∀ g b, x.guard = some (g, b) → g < l.length) : Region.wanted x (yielded (l ++ [bj o]).toArray t) = Region.wanted x (yielded (l ++ [o]).toArray t) := by
 unfold Region.wanted
 cases hg : x.guard with
 | none => rfl
 | some p =>
  obtain ⟨g, b⟩ := p
  have hl := h g b hg
  show (yielded _ t g == some b) = (yielded _ t g == some b)
  unfold yielded
  simp only [List.getElem?_toArray, List.getElem?_append_left hl]
theorem ft {x : Oper} {y : Nat → Option Bool} (h : x.guard = none) : Region.wanted x y = true := by unfold Region.wanted; rw [h]
def nD (md : Region.Mode) (ops : Array Oper) : Bool := (List.range ops.size).all fun j => match ops[j]? with
 | some o => o.after.all fun e => !(Region.binds md e) || decide (e.on < j)
 | none => true
theorem mX {ops : Array Oper} {listed : Array Bool} (hb : nD md ops = true) (hsz : listed.size = ops.size) : ∀ i, i < ops.size → listed.getD i true = false → Region.ready md ops listed ≠ [] := by
 intro i
 induction i using Nat.strongRecOn with
 | _ i ih =>
  intro hi hl hn
  have ho : ops[i]? = some ops[i] := by simp [hi]
  have h1 := List.all_eq_true.1 hb i (List.mem_range.2 hi)
  rw [ho] at h1
  simp only at h1
  have hr : i ∈ Region.ready md ops listed := mem_ready.2 ⟨hl, ops[i], ho, fun e he hbe => by
   have h2 := Array.all_eq_true_iff_forall_mem.1 h1 e he
   simp only [hbe, Bool.not_true, Bool.false_or, decide_eq_true_eq] at h2
   apply Classical.byContradiction
   intro Ab
   have Aa : e.on < ops.size := by omega
   exact ih e.on h2 Aa (by simp [hsz, Aa] at Ab ⊢; exact Ab) hn⟩
  rw [hn] at hr
  cases hr
theorem nU {ops : Array Oper} {listed : Array Bool} (h : ∀ j, j < ops.size → listed.getD j false = true) : Region.ready md ops listed = [] := by
 refine List.eq_nil_iff_forall_not_mem.2 fun i hi => ?_
 obtain ⟨h1, o, ho, _⟩ := mem_ready.1 hi
 have Aa := (Array.getElem?_eq_some_iff.1 ho).1
 have h2 := h i Aa
 by_cases hs : i < listed.size
 ·simp [hs] at h1 h2
  rw [h1] at h2
  cases h2
 simp [hs] at h1
theorem nm {Q : Exit → Act → World → Prop} {l : List Oper} {o : Oper} (hp : gO (l ++ [o]) = true) (hc : fP md (l ++ [o]).toArray = true) (hk : nD md (l ++ [o]).toArray = true) :
    ∀ (fuel : Nat) (listed : Array Bool) (a : Act) (w : World), C w → listed.size = l.length + 1 → nJ md (l ++ [o]).toArray listed → listed.getD l.length true = false →
     wpAnyQ P md (l ++ [bj o]).toArray C (fun a' => ∀ w', C w' → wpList P #[o] Q [o] a' w') fuel listed a → wpAny P md (l ++ [o]).toArray Q fuel listed a w := by
 have Aa : (l ++ [o]).toArray.size = l.length + 1 := by simp
 have Ac : (l ++ [o]).toArray.size - 1 = l.length := by rw [Aa]; rfl
 intro fuel
 induction fuel with
 | zero =>
  intro listed a w hC hs Ab Ad h
  rw [wpAnyQ, jK] at h
  exact absurd h.1 (mX hk (by rw [hs, Aa]) l.length (by rw [Aa]; omega) Ad)
 | succ fuel ih =>
  intro listed a w hC hs Ab Ad h
  rw [wpAnyQ, jK] at h
  refine ⟨fun h0 => absurd h0 (mX hk (by rw [hs, Aa]) l.length (by rw [Aa]; omega) Ad), fun i hi => ?_⟩
  have hq := h.2 i hi
  obtain ⟨Aj, x, hx, _⟩ := mem_ready.1 hi
  have Ai : i < l.length + 1 := by rw [← Aa]; exact (Array.getElem?_eq_some_iff.1 hx).1
  unfold wpOp
  simp only [hx]
  unfold qOp at hq
  by_cases hiL : i = l.length
  ·subst hiL
   have Ag : x = o := by simpa using hx.symm
   subst Ag
   have hg : x.guard = none := jZ hp
   rw [if_pos (ft hg)]
   have hx' : (l ++ [bj x]).toArray[l.length]? = some (bj x) := by simp
   simp only [hx'] at hq
   rw [if_pos (ft (show (bj x).guard = none from hg))] at hq
   obtain ⟨v, _, hK⟩ := hq
   have ha : a.put (bj x).dst v = a := rfl
   rw [ha] at hK
   have Ae : Region.ready md (l ++ [x]).toArray (listed.setIfInBounds l.length true) = [] := by
    refine nU fun j hj => ?_
    rw [Aa] at hj
    by_cases hjl : j = l.length
    ·subst hjl; exact dV _ _ _ _ (by omega)
    exact je (sG hc Ab (by rw [Ac]; exact hi) j (by rw [Ac]; omega))
   have hQ : ∀ w', C w' → wpList P #[x] Q [x] a w' := by
    cases fuel with
    | zero => exact hK.2
    | succ fuel => exact hK.1 (by rw [jK]; exact Ae)
   have hz := hQ w hC
   unfold wpList at hz
   rw [if_pos (ft hg)] at hz
   refine hz.imp (Oper.wp_mono (fun a'' w'' hn => ?_)) id
   have hn : Q .normal a'' w'' := hn
   cases fuel with
   | zero => exact ⟨Ae, hn⟩
   | succ fuel => exact ⟨fun _ => hn, fun i hi => by rw [Ae] at hi; cases hi⟩
  have Ah : i < l.length := by omega
  have hx' : (l ++ [bj o]).toArray[i]? = some x := by
   simp [List.getElem?_append_left Ah] at hx ⊢
   exact hx
  simp only [hx'] at hq
  have Af := wy hp (x := x) (List.mem_of_getElem? (i := i) (by simpa using hx))
  rw [rj Af] at hq
  have hun' : (listed.setIfInBounds i true).getD l.length true = false := by rw [cE _ _ _ _ _ hiL]; exact Ad
  by_cases hw : Region.wanted x (yielded (l ++ [o]).toArray a.tmps) = true
  ·rw [if_pos hw] at hq ⊢
   exact .inl (Oper.wp_of_quiet hC (fun a' w' hC' hK => ih _ a' w' hC' (by simpa using hs) (m7 Ab hi) hun' hK) hq)
  rw [if_neg hw] at hq ⊢
  exact ih _ _ w hC (by simpa using hs) (m7 Ab hi) hun' hq
theorem oO {id : Nat} {Q : Exit → Act → World → Prop} {a : Act} {w : World} {ops : Array Oper} {l : List Oper} {o : Oper} (hops : ops = (l ++ [o]).toArray) (hm : P.follows .mixedOrders = true) (hp : gO (l ++ [o]) = true) (hc : fP .any (l ++ [o]).toArray = true) (hk : nD .any (l ++ [o]).toArray = true)
    (hB : Region.lexB .any (l ++ [bj o]).toArray = true)
    (h : wpQuiet P (l ++ [bj o]).toArray (fun w' => ∃ n, w' = w.drewN n) (fun a' => ∀ w', (∃ n, w' = w.drewN n) → wpList P #[o] Q [o] a' w') l a) : (Code.region id ops true).wp P Q a w := by
 subst hops
 have Aa := hB
 simp only [Region.lexB, Bool.and_eq_true] at Aa
 have hq : wpQuiet P (l ++ [bj o]).toArray (fun w' => ∃ n, w' = w.drewN n) (fun a' => ∀ w', (∃ n, w' = w.drewN n) → wpList P #[o] Q [o] a' w') (l ++ [bj o]) a := by
  have key : ∀ (k : List Oper) (a : Act), wpQuiet P (l ++ [bj o]).toArray (fun w' => ∃ n, w' = w.drewN n) (fun a' => ∀ w', (∃ n, w' = w.drewN n) → wpList P #[o] Q [o] a' w') k a → wpQuiet P (l ++ [bj o]).toArray (fun w' => ∃ n, w' = w.drewN n) (fun a' => ∀ w', (∃ n, w' = w.drewN n) → wpList P #[o] Q [o] a' w') (k ++ [bj o]) a := by
   intro k
   induction k with
   | nil =>
    intro a hq
    have hg : o.guard = none := jZ hp
    show wpQuiet P _ _ _ (bj o :: []) a
    unfold wpQuiet
    rw [if_pos (ft (show (bj o).guard = none from hg))]
    exact ⟨undef, fun _ _ => ⟨rfl, rfl⟩, hq⟩
   | cons x k ihk =>
    intro a hq
    show wpQuiet P _ _ _ (x :: (k ++ [bj o])) a
    unfold wpQuiet at hq ⊢
    by_cases hw : Region.wanted x (yielded (l ++ [bj o]).toArray a.tmps) = true
    ·rw [if_pos hw] at hq ⊢
     exact Oper.quiet_mono (fun a' h' => ihk a' h') hq
    rw [if_neg hw] at hq ⊢
    exact ihk _ hq
  exact key l a h
 refine wp_region_any hm ?_
 have hQ := wpAnyQ_lex (P := P) (C := fun w' => ∃ n, w' = w.drewN n) (md := .any) Aa.1 (l ++ [bj o]) 0 (Array.replicate (l ++ [bj o]).toArray.size false) a (by simp) (by simpa using Aa.2) hq
 have Ab : (l ++ [o]).toArray.size = l.length + 1 := by simp
 have := nm (Q := Q) hp hc hk (l.length + 1) (Array.replicate (l.length + 1) false) a { w with drawn := w.drawn + 1 } (C := fun w' => ∃ n, w' = w.drewN n) ⟨1, rfl⟩ (by simp) (fun j x hx hl => by
  exfalso
  by_cases hj : j < l.length + 1
  ·simp [hj] at hl
  simp [hj] at hl) (by simp) (by simpa using hQ)
 rw [Ab]
 exact this
theorem aK {id : Nat} {Q : Exit → Act → World → Prop} {a : Act} {w : World} {x : Oper} {L : List Oper} (hm : P.follows .mixedOrders = true) (hp : gO (x :: L) = true) (hc : fP .any (x :: L).toArray = true) (hk : nD .any (x :: L).toArray = true)
    (hB : Region.lexB .any ((x :: L).dropLast ++ [bj ((x :: L).getLast (List.cons_ne_nil _ _))]).toArray = true)
    (h : wpQuiet P ((x :: L).dropLast ++ [bj ((x :: L).getLast (List.cons_ne_nil _ _))]).toArray (fun w' => ∃ n, w' = w.drewN n) (fun a' => ∀ w', (∃ n, w' = w.drewN n) → wpList P #[(x :: L).getLast (List.cons_ne_nil _ _)] Q [(x :: L).getLast (List.cons_ne_nil _ _)] a' w') (x :: L).dropLast a) : (Code.region id (x :: L).toArray true).wp P Q a w := by
 have e := List.dropLast_concat_getLast (List.cons_ne_nil x L)
 refine oO (l := (x :: L).dropLast) (o := (x :: L).getLast (List.cons_ne_nil _ _)) (by rw [e]) hm (by rw [e]; exact hp) (by rw [e]; exact hc) (by rw [e]; exact hk) hB h
end
end Go.Proofs.YtmlhcncagdfjfaaGreat
