/- newWaits: what it makes; plain. -/
import Derived.Test.YtcobmbclhhimjaaGreatNcl
namespace Go.Proofs.YtcobmbclhhimjaaGreat.Fa
open Go.RowKit Rg

/-- Some rows of rows, each row its own. -/
structure HM (m base : Nat) (sb : Nat → Nat) (n : Nat) (H : Nat → List (List Int)) (vs : Nat → List Value) (w : World) : Prop where
  ln : ∀ c, c < m → (H c).length = n
  vl : ∀ c, c < m → (vs c).length = n
  fx : ∀ c, c < m → Fx (sb c) 26 (vs c) w
  lo : ∀ c, c < m → base ≤ sb c
  ne : ∀ c d, c < m → d < m → c ≠ d → sb c ≠ sb d
  own : ∀ c (i : Nat) l v, c < m → (H c)[i]? = some l → (vs c)[i]? = some v → w.ownsRow base 3 1 v l.length (ints l)
  apart : ∀ c d (i j : Nat) v u g, c < m → d < m → (vs c)[i]? = some v → (vs d)[j]? = some u → v.ownBlock = some g → u.ownBlock = some g → c = d ∧ i = j
section
variable {m base n : Nat} {sb : Nat → Nat} {H : Nat → List (List Int)} {vs : Nat → List Value} {w w' : World}
theorem HM.go (h : HM m base sb n H vs w) (hb : Below w.heap.size w w') : HM m base sb n H vs w' :=
  ⟨h.ln, h.vl, fun c hc => (h.fx c hc).keep (hb.block _ (h.fx c hc).lt), h.lo, h.ne, fun c i l v hc h1 h2 => owns_keep (h.own c i l v hc h1 h2) fun g hg => hb.block g (owns_lt (h.own c i l v hc h1 h2) hg), h.apart⟩
theorem HM.set (h : HM m base sb n H vs w) {g T i : Nat} {cs : List Value} {v : Value} (hg : Fx g T cs w) (h1 : T ≠ 26) (h2 : T ≠ 3) : HM m base sb n H vs (w.setCell ⟨g, i, none⟩ v) :=
  ⟨h.ln, h.vl, fun c hc => (h.fx c hc).keep (other_set (fx_ne (h.fx c hc) hg (Ne.symm h1))), h.lo, h.ne, fun c i l v hc a b => owns_keep (h.own c i l v hc a b) fun _ hk => other_set fun e => own_fx (h.own c i l v hc a b) hg (Ne.symm h2) (e ▸ hk), h.apart⟩
theorem HM.at (h : HM m base sb n H vs w) {c i : Nat} (hc : c < m) (hi : i < n) : ∃ l a k, (H c)[i]? = some l ∧ (vs c)[i]? = some (.slice a l.length k) ∧ w.cell? ⟨sb c, i, none⟩ = some (.slice a l.length k) ∧ w.ownsRow base 3 1 (.slice a l.length k) l.length (ints l) := by
  obtain ⟨l, h1⟩ := get_at (l := H c) (i := i) (by rw [h.ln c hc]; exact hi)
  obtain ⟨v, h2⟩ := get_at (l := vs c) (i := i) (by rw [h.vl c hc]; exact hi)
  have ho := h.own c i _ _ hc h1 h2
  obtain ⟨a, k, e⟩ := owns_slice ho
  rw [e] at ho h2
  exact ⟨l, a, k, h1, h2, (h.fx c hc).get h2, ho⟩
theorem HM.add (h : HM m base sb n H vs w) {c i : Nat} (hc : c < m) {l : List Int} {v : Value} (hi : (H c)[i]? = some l) (hv : (vs c)[i]? = some v) {x : Int} {g4 cap4 : Nat} (hnew : w'.ownsRow base 3 1 (.slice (some ⟨g4, 0, none⟩) (l.length + 1) cap4) (l.length + 1) (ints l ++ [.int .i64 x]))
    (hold : ∀ k, k < w.heap.size → v.ownBlock ≠ some k → w'.heap[k]? = w.heap[k]?) (hg : v.ownBlock = some g4 ∨ w.heap.size ≤ g4) :
    HM m base sb n (up H c ((H c).set i (l ++ [x]))) (up vs c ((vs c).set i (.slice (some ⟨g4, 0, none⟩) (l.length + 1) cap4))) (w'.setCell ⟨sb c, i, none⟩ (.slice (some ⟨g4, 0, none⟩) (l.length + 1) cap4)) := by
  have hov := h.own c i l v hc hi hv
  have hil : i < n := by rw [← h.ln c hc]; exact (List.getElem?_eq_some_iff.1 hi).1
  have hfx : ∀ d, d < m → Fx (sb d) 26 (vs d) w' := fun d hd => (h.fx d hd).keep (hold _ (h.fx d hd).lt (own_fx hov (h.fx d hd) (by decide)))
  have key : ∀ (d j : Nat) (u : Value) (q : Nat), d < m → ¬ (d = c ∧ j = i) → (vs d)[j]? = some u → u.ownBlock = some q → q ≠ g4 := by
    intro d j u q hd hne hu hq e
    subst e
    have hm : j < (H d).length := by rw [h.ln d hd, ← h.vl d hd]; exact (List.getElem?_eq_some_iff.1 hu).1
    have ho := h.own d j _ u hd (List.getElem?_eq_getElem hm) hu
    rcases hg with hg | hg
    · exact hne (h.apart d c j i u v _ hd hc hu hv hq hg)
    · have := owns_lt ho hq; omega
  refine ⟨fun d hd => ?_, fun d hd => ?_, fun d hd => ?_, h.lo, h.ne, fun d j l2 u hd h1 h2 => ?_, fun d e j k a b g hd he h1 h2 h3 h4 => ?_⟩
  · by_cases e : d = c
    · subst e; rw [up_at, List.length_set]; exact h.ln d hd
    · rw [up_off e]; exact h.ln d hd
  · by_cases e : d = c
    · subst e; rw [up_at, List.length_set]; exact h.vl d hd
    · rw [up_off e]; exact h.vl d hd
  · by_cases e : d = c
    · subst e; rw [up_at]; exact (hfx d hd).set i _
    · rw [up_off e]; exact (hfx d hd).keep (other_set (h.ne d c hd hc e))
  · have old : ∀ (hne : ¬ (d = c ∧ j = i)), (H d)[j]? = some l2 → (vs d)[j]? = some u → (w'.setCell ⟨sb c, i, none⟩ (.slice (some ⟨g4, 0, none⟩) (l.length + 1) cap4)).ownsRow base 3 1 u l2.length (ints l2) := fun hne a b => by
      have ho := h.own d j l2 u hd a b
      refine owns_keep ho fun g hgu => ?_
      rw [other_set fun (e2 : g = sb c) => own_fx ho (h.fx c hc) (by decide) (e2 ▸ hgu)]
      exact hold g (owns_lt ho hgu) fun e2 => hne (h.apart d c j i u v g hd hc b hv hgu e2)
    by_cases e : d = c
    · subst e
      rw [up_at] at h1 h2
      by_cases e2 : i = j
      · subst e2
        rw [List.getElem?_set_self (by rw [h.ln d hd]; exact hil)] at h1
        rw [List.getElem?_set_self (by rw [h.vl d hd]; exact hil)] at h2
        cases h1
        cases h2
        rw [List.length_append, ints_snoc]
        exact owns_keep hnew fun g e => other_set fun e2 => own_fx hnew (hfx d hd) (by decide) (e2 ▸ e)
      · rw [List.getElem?_set_ne e2] at h1 h2
        exact old (fun x => e2 x.2.symm) h1 h2
    · rw [up_off e] at h1 h2
      exact old (fun x => e x.1) h1 h2
  · have split : ∀ (d j : Nat) (a : Value), (up vs c ((vs c).set i (.slice (some ⟨g4, 0, none⟩) (l.length + 1) cap4)) d)[j]? = some a → (d = c ∧ j = i ∧ a = .slice (some ⟨g4, 0, none⟩) (l.length + 1) cap4) ∨ (¬ (d = c ∧ j = i) ∧ (vs d)[j]? = some a) := by
      intro d j a ha
      by_cases e1 : d = c
      · subst e1
        rw [up_at] at ha
        by_cases e2 : i = j
        · subst e2
          rw [List.getElem?_set_self (by rw [h.vl d hc]; exact hil)] at ha
          exact .inl ⟨rfl, rfl, by cases ha; rfl⟩
        · rw [List.getElem?_set_ne e2] at ha
          exact .inr ⟨fun x => e2 x.2.symm, ha⟩
      · rw [up_off e1] at ha
        exact .inr ⟨fun x => e1 x.1, ha⟩
    rcases split d j a h1 with ⟨a1, a2, a3⟩ | ⟨a1, a2⟩
    · rcases split e k b h2 with ⟨b1, b2, b3⟩ | ⟨b1, b2⟩
      · exact ⟨a1.trans b1.symm, a2.trans b2.symm⟩
      · subst a3
        have : g4 = g := by simpa [Value.ownBlock] using h3
        exact absurd this.symm (key e k b g he b1 b2 h4)
    · rcases split e k b h2 with ⟨b1, b2, b3⟩ | ⟨b1, b2⟩
      · subst b3
        have : g4 = g := by simpa [Value.ownBlock] using h4
        exact absurd this.symm (key d j a g hd a1 a2 h3)
      · exact h.apart d e j k a b g hd he a2 b2 h3 h4
end
/-- As lists that stay. -/
theorem HM.ll {m base n : Nat} {sb : Nat → Nat} {H : Nat → List (List Int)} {vs : Nat → List Value} {w : World} (h : HM m base sb n H vs w) {c : Nat} (hc : c < m) {S : Nat → Prop} {L : Int → List Int} (hL : ∀ z : Nat, z < n → (H c).getD z [] = L z) (hS : ∀ k, base ≤ k → k < w.heap.size → S k) : LL S L n (sb c) w := by
  refine ⟨hS _ (h.lo c hc) (h.fx c hc).lt, vs c, h.fx c hc, h.vl c hc, fun i hi => ?_⟩
  obtain ⟨l, a, k, h1, h2, -, h4⟩ := h.at hc hi
  have e : l = L i := by
    have := hL i hi
    rw [List.getD_eq_getElem?_getD, h1] at this
    exact this
  subst e
  refine ⟨a, k, h2, owns_at1 h4, fun g o e2 _ => ?_⟩
  have hlt := h4.lt g (by rw [e2]; rfl)
  exact hS g hlt.1 hlt.2

abbrev wtL (us ms rr op n R : Nat) : List Value := [sl us n, sl ms R, sl rr R, sl op n]
/-- What newWaits makes. -/
structure Nw (base q us ms rr op n R : Nat) (fm fo : Int → Int) (H : Nat → List (List Int)) (vs : Nat → List Value) (w : World) : Prop where
  bx : Fx q 71 (wtL us ms rr op n R) w
  fm : Fx ms 3 (rowI R fm) w
  fr : Fx rr 4 (rowB R fun _ => false) w
  fo : Fx op 3 (rowI n fo) w
  h3 : HM 1 base (fun _ => us) n H vs w
  lo : base ≤ q ∧ base ≤ ms ∧ base ≤ rr ∧ base ≤ op
  ne : ms ≠ op
  na : ∀ (i : Nat) v, (vs 0)[i]? = some v → v.ownBlock ≠ some ms ∧ v.ownBlock ≠ some op
section
variable {base q us ms rr op n R : Nat} {fm fo : Int → Int} {H : Nat → List (List Int)} {vs : Nat → List Value} {w w' : World}
theorem Nw.go (h : Nw base q us ms rr op n R fm fo H vs w) (hb : Below w.heap.size w w') : Nw base q us ms rr op n R fm fo H vs w' := ⟨h.bx.keep (hb.block _ h.bx.lt), h.fm.keep (hb.block _ h.fm.lt), h.fr.keep (hb.block _ h.fr.lt), h.fo.keep (hb.block _ h.fo.lt), h.h3.go hb, h.lo, h.ne, h.na⟩
theorem HM.setN {m : Nat} {sb : Nat → Nat} (h : HM m base sb n H vs w) {g i t : Nat} {cs : List Value} {v : Value} (hg : Fx g t cs w) (h1 : t ≠ 26) (hn : ∀ (c i : Nat) (u : Value), c < m → (vs c)[i]? = some u → u.ownBlock ≠ some g) : HM m base sb n H vs (w.setCell ⟨g, i, none⟩ v) :=
  ⟨h.ln, h.vl, fun c hc => (h.fx c hc).keep (other_set (fx_ne (h.fx c hc) hg (Ne.symm h1))), h.lo, h.ne, fun c i l v hc a b => owns_keep (h.own c i l v hc a b) fun _ hk => other_set fun e => hn c i v hc b (e ▸ hk), h.apart⟩
theorem Nw.setM (h : Nw base q us ms rr op n R fm fo H vs w) {i : Nat} (hi : i < R) (v : Int) : Nw base q us ms rr op n R (upd fm i v) fo H vs (w.setCell ⟨ms, i, none⟩ (.int .i64 v)) :=
  ⟨h.bx.keep (other_set (fx_ne h.bx h.fm (by decide))), by have := h.fm.set i (.int .i64 v); rw [rowI_set hi] at this; exact this, h.fr.keep (other_set (fx_ne h.fr h.fm (by decide))), h.fo.keep (other_set (Ne.symm h.ne)), h.h3.setN h.fm (by decide) fun c i u hc hu => (h.na i u ((show c = 0 by omega) ▸ hu)).1, h.lo, h.ne, h.na⟩
theorem Nw.setO (h : Nw base q us ms rr op n R fm fo H vs w) {i : Nat} (hi : i < n) (v : Int) : Nw base q us ms rr op n R fm (upd fo i v) H vs (w.setCell ⟨op, i, none⟩ (.int .i64 v)) :=
  ⟨h.bx.keep (other_set (fx_ne h.bx h.fo (by decide))), h.fm.keep (other_set h.ne), h.fr.keep (other_set (fx_ne h.fr h.fo (by decide))), by have := h.fo.set i (.int .i64 v); rw [rowI_set hi] at this; exact this, h.h3.setN h.fo (by decide) fun c i u hc hu => (h.na i u ((show c = 0 by omega) ▸ hu)).2, h.lo, h.ne, h.na⟩
theorem Nw.add (h : Nw base q us ms rr op n R fm fo H vs w) {c i : Nat} (hc : c < 1) {l : List Int} {v : Value} (hi : (H c)[i]? = some l) (hv : (vs c)[i]? = some v) {x : Int} {g4 cap4 : Nat} (hnew : w'.ownsRow base 3 1 (.slice (some ⟨g4, 0, none⟩) (l.length + 1) cap4) (l.length + 1) (ints l ++ [.int .i64 x]))
    (hold : ∀ k, k < w.heap.size → v.ownBlock ≠ some k → w'.heap[k]? = w.heap[k]?) (hg : v.ownBlock = some g4 ∨ w.heap.size ≤ g4) :
    Nw base q us ms rr op n R fm fo (up H c ((H c).set i (l ++ [x]))) (up vs c ((vs c).set i (.slice (some ⟨g4, 0, none⟩) (l.length + 1) cap4))) (w'.setCell ⟨us, i, none⟩ (.slice (some ⟨g4, 0, none⟩) (l.length + 1) cap4)) := by
  have hov := h.h3.own c i l v hc hi hv
  have h0 : c = 0 := by omega
  subst h0
  have hna := h.na i v hv
  have hu := h.h3.fx 0 hc
  refine ⟨(h.bx.keep (hold _ h.bx.lt (own_fx hov h.bx (by decide)))).keep (other_set (fx_ne h.bx hu (by decide))), (h.fm.keep (hold _ h.fm.lt hna.1)).keep (other_set (fx_ne h.fm hu (by decide))), (h.fr.keep (hold _ h.fr.lt (own_fx hov h.fr (by decide)))).keep (other_set (fx_ne h.fr hu (by decide))), (h.fo.keep (hold _ h.fo.lt hna.2)).keep (other_set (fx_ne h.fo hu (by decide))), h.h3.add hc hi hv hnew hold hg, h.lo, h.ne, fun j u hu2 => ?_⟩
  rw [up_at] at hu2
  by_cases e : i = j
  · subst e
    have hlen : i < (vs 0).length := (List.getElem?_eq_some_iff.1 hv).1
    rw [List.getElem?_set_self hlen] at hu2
    cases hu2
    have key : ∀ k, k < w.heap.size → v.ownBlock ≠ some k → Value.ownBlock (.slice (some ⟨g4, 0, none⟩) (l.length + 1) cap4) ≠ some k := fun k hk hn e2 => by
      have e3 : g4 = k := by simpa [Value.ownBlock] using e2
      subst e3
      rcases hg with hg | hg
      · exact hn hg
      · omega
    exact ⟨key _ h.fm.lt hna.1, key _ h.fo.lt hna.2⟩
  · rw [List.getElem?_set_ne e] at hu2
    exact h.na j u hu2
end
theorem Nw.far {base base' q us ms rr op n R : Nat} {fm fo : Int → Int} {H : Nat → List (List Int)} {vs : Nat → List Value} {w w' : World} (h : Nw base q us ms rr op n R fm fo H vs w) (hk : ∀ g, base ≤ g → g < w.heap.size → w'.heap[g]? = w.heap[g]?) (hb : base' ≤ base) : Nw base' q us ms rr op n R fm fo H vs w' :=
  ⟨h.bx.keep (hk _ h.lo.1 h.bx.lt), h.fm.keep (hk _ h.lo.2.1 h.fm.lt), h.fr.keep (hk _ h.lo.2.2.1 h.fr.lt), h.fo.keep (hk _ h.lo.2.2.2 h.fo.lt), ⟨h.h3.ln, h.h3.vl, fun c hc => (h.h3.fx c hc).keep (hk _ (h.h3.lo c hc) (h.h3.fx c hc).lt), fun c hc => Nat.le_trans hb (h.h3.lo c hc), h.h3.ne, fun c i l v hc h1 h2 => owns_down (owns_keep (h.h3.own c i l v hc h1 h2) fun g hg => hk g ((h.h3.own c i l v hc h1 h2).lt g hg).1 ((h.h3.own c i l v hc h1 h2).lt g hg).2) hb, h.h3.apart⟩, ⟨Nat.le_trans hb h.lo.1, Nat.le_trans hb h.lo.2.1, Nat.le_trans hb h.lo.2.2.1, Nat.le_trans hb h.lo.2.2.2⟩, h.ne, h.na⟩
theorem hm_start {base n us : Nat} {w : World} (h1 : Fx us 26 (List.replicate n (.slice none 0 0)) w) (lo : base ≤ us) : HM 1 base (fun _ => us) n (fun _ => List.replicate n []) (fun _ => List.replicate n (.slice none 0 0)) w := by
  refine ⟨fun c _ => by simp, fun c _ => by simp, fun _ _ => h1, fun _ _ => lo, fun c d hc hd hne => absurd (show c = d by omega) hne, fun c i l v _ a b => ?_, fun c d i j v u g _ _ a b e => ?_⟩
  · rw [List.getElem?_replicate] at a b
    split at a
    · rename_i hi
      rw [if_pos hi] at b
      cases a
      cases b
      exact ⟨rfl, .inl ⟨rfl, rfl⟩⟩
    · cases a
  · rw [List.getElem?_replicate] at a
    split at a
    · cases a; cases e
    · cases a
theorem not_mem_take {l : List Int} (h : l.Nodup) {j : Nat} {x : Int} (hx : l[j]? = some x) : ¬ x ∈ l.take j := by
  intro hm
  obtain ⟨i, hi⟩ := List.mem_iff_getElem?.1 hm
  rw [List.getElem?_take] at hi
  split at hi
  · rename_i hij
    have h1 := List.getElem?_eq_some_iff.1 hi
    have h2 := List.getElem?_eq_some_iff.1 hx
    obtain ⟨a1, a2⟩ := h1
    obtain ⟨b1, b2⟩ := h2
    exact List.pairwise_iff_getElem.1 h i j a1 b1 hij (a2.trans b2.symm)
  · cases hi
/-- The counters, rule by rule. -/
def msK (T : Th) (p : RuleM → Bool) (k : Nat) : Int → Int := (List.range k).foldl (fun f (r : Nat) => if kindB T p r then upd f r ((bodyM T r).length : Nat) else f) fun _ => 0
def opK (T : Th) (p : RuleM → Bool) (k : Nat) : Int → Int := (List.range k).foldl (fun f (r : Nat) => if kindB T p r then upd f (headOf T r) (inc (f (headOf T r))) else f) fun _ => 0
def opZ (T : Th) (p : RuleM → Bool) (f : Int → Int) (k : Nat) : Int → Int := (List.range k).foldl (fun f (r : Nat) => if kindB T p r && (bodyM T r).isEmpty then upd f (headOf T r) 0 else f) f
section
variable {T : Th} {p : RuleM → Bool} {k : Nat} {f : Int → Int}
theorem msK_succ : msK T p (k + 1) = if kindB T p k then upd (msK T p k) k ((bodyM T k).length : Nat) else msK T p k := by
  unfold msK
  rw [List.range_succ, List.foldl_append]
  rfl
theorem opK_succ : opK T p (k + 1) = if kindB T p k then upd (opK T p k) (headOf T k) (inc (opK T p k (headOf T k))) else opK T p k := by
  unfold opK
  rw [List.range_succ, List.foldl_append]
  rfl
theorem opZ_succ : opZ T p f (k + 1) = if kindB T p k && (bodyM T k).isEmpty then upd (opZ T p f k) (headOf T k) 0 else opZ T p f k := by
  unfold opZ
  rw [List.range_succ, List.foldl_append]
  rfl
/-- The users, among the first rules and of the next one's body in part. -/
structure Gu (T : Th) (p : RuleM → Bool) (n k j : Nat) (H : Nat → List (List Int)) : Prop where
  u : ∀ z : Nat, z < n → (H 0).getD z [] = useK T p k z ++ if (z : Int) ∈ (bodyM T k).take j then [(k : Int)] else []
  ln : (H 0).length = n
theorem useK_succ {z : Int} : useK T p (k + 1) z = useK T p k z ++ if isUse T p z k then [(k : Int)] else [] := by
  unfold useK
  rw [List.range_succ, List.filter_append, List.map_append]
  congr 1
  by_cases h : isUse T p z k
  · rw [if_pos h, List.filter_cons_of_pos h]; rfl
  · rw [if_neg h, List.filter_cons_of_neg h]; rfl
theorem useK_len {z : Int} : (useK T p k z).length ≤ k := by
  unfold useK
  rw [List.length_map]
  exact Nat.le_trans (List.length_filter_le _ _) (by simp)
variable {n j : Nat} {H : Nat → List (List Int)} {r : RuleM} {l : List Int}
theorem Gu.start : Gu T p n 0 0 fun _ => List.replicate n [] := ⟨fun z _ => by rw [rep_at]; simp [useK], by simp⟩
theorem Gu.none (h : Gu T p n k 0 H) (hr : T.rules[k]? = some r) (hp : p r = false) : Gu T p n (k + 1) 0 H := by
  refine ⟨fun z hz => ?_, h.ln⟩
  rw [h.u z hz, useK_succ]
  have : isUse T p z k = false := by unfold isUse; rw [hr]; simp [hp]
  simp [this]
theorem Gu.next (h : Gu T p n k j H) (hr : T.rules[k]? = some r) (hp : p r = true) (hj : r.body.length ≤ j) : Gu T p n (k + 1) 0 H := by
  refine ⟨fun z hz => ?_, h.ln⟩
  have hb : bodyM T k = r.body := by unfold bodyM; rw [Int.toNat_natCast, hr]; rfl
  rw [h.u z hz, useK_succ, hb, List.take_of_length_le hj]
  have : isUse T p z k = decide ((z : Int) ∈ r.body) := by unfold isUse; rw [hr]; simp [hp]
  rw [this]
  simp
theorem Gu.add (h : Gu T p n k j H) (hr : T.rules[k]? = some r) (hn : r.body.Nodup) {x : Nat} (hx : r.body[j]? = some (x : Int)) (hxn : x < n) (hl : (H 0)[x]? = some l) : Gu T p n k (j + 1) (up H 0 ((H 0).set x (l ++ [(k : Int)]))) := by
  have hlen : x < (H 0).length := by rw [h.ln]; exact hxn
  have hb : bodyM T k = r.body := by unfold bodyM; rw [Int.toNat_natCast, hr]; rfl
  refine ⟨fun z hz => ?_, by rw [up_at, List.length_set]; exact h.ln⟩
  rw [getD_up hlen, hb, take_snoc hx]
  by_cases e : z = x
  · subst e
    have h2 := h.u z hz
    rw [get_eq hl, hb, if_neg (not_mem_take hn hx)] at h2
    rw [if_pos ⟨rfl, rfl⟩, if_pos (by simp), h2, List.append_nil]
  · rw [if_neg fun a => e a.2, h.u z hz, hb]
    have : ((z : Int) ∈ r.body.take j ++ [(x : Int)]) ↔ (z : Int) ∈ r.body.take j := by
      rw [List.mem_append, List.mem_singleton]
      exact ⟨fun a => a.resolve_right (by omega), .inl⟩
    simp only [this]
theorem Gu.len (h : Gu T p n k j H) (hk : k < 4096) {z : Nat} (hl : (H 0)[z]? = some l) : l.length ≤ 4096 := by
  have hz : z < n := by rw [← h.ln]; exact (List.getElem?_eq_some_iff.1 hl).1
  have h2 := h.u z hz
  rw [get_eq hl] at h2
  rw [h2, List.length_append]
  have := useK_len (T := T) (p := p) (k := k) (z := (z : Int))
  split <;> simp <;> omega
end
end Go.Proofs.YtcobmbclhhimjaaGreat.Fa
/- newWaits: its making region, plain. (tools/gen16/nwt.py wrote this.) -/
namespace Go.Proofs.YtcobmbclhhimjaaGreat.Fa
open Go.RowKit Rg

def prW (R : Nat) (ra : Option Addr) (rc : Nat) (T : Th) (bq n N : Nat) (i : Nat) (v : Value) (W : World) (lo hi : Nat) : Prop := match i with
  | 0 | 11 => v = ptr bq
  | 1 | 12 => v = .int .i64 T.lits
  | 3 | 7 => v = .pointer (some ⟨bq, 2, none⟩)
  | 4 | 8 => v = .slice ra R rc
  | 5 | 9 => v = .int .i64 R
  | 2 => ∃ g, v = sl g n ∧ Fx g 26 (List.replicate n (.slice none 0 0)) W ∧ lo ≤ g ∧ g < hi ∧ N ≤ g
  | 6 => ∃ g, v = sl g R ∧ Fx g 3 (rowI R fun _ => 0) W ∧ lo ≤ g ∧ g < hi ∧ N ≤ g
  | 10 => ∃ g, v = sl g R ∧ Fx g 4 (rowB R fun _ => false) W ∧ lo ≤ g ∧ g < hi ∧ N ≤ g
  | 13 => ∃ g, v = sl g n ∧ Fx g 3 (rowI n fun _ => 0) W ∧ lo ≤ g ∧ g < hi ∧ N ≤ g
  | 14 => ∃ g0 g1 g2 g3, v = .agg #[sl g0 n, sl g1 R, sl g2 R, sl g3 n] ∧ Fx g0 26 (List.replicate n (.slice none 0 0)) W ∧ Fx g1 3 (rowI R fun _ => 0) W ∧ Fx g2 4 (rowB R fun _ => false) W ∧ Fx g3 3 (rowI n fun _ => 0) W ∧ (N ≤ g0 ∧ N ≤ g1 ∧ N ≤ g2 ∧ N ≤ g3) ∧ g1 ≠ g3
  | 15 => ∃ g xs, v = ptr g ∧ Fx g 71 xs W ∧ xs.length = 4 ∧ N ≤ g
  | _ => True
theorem prW_go {R : Nat} {ra : Option Addr} {rc : Nat} {T : Th} {bq n N : Nat} : ∀ i v W W' lo hi, prW R ra rc T bq n N i v W lo hi → hi ≤ W.heap.size → Below W.heap.size W W' → prW R ra rc T bq n N i v W' lo hi := by
  intro i v W W' lo hi h hh hb
  have k : ∀ {g t : Nat} {xs : List Value}, Fx g t xs W → Fx g t xs W' := fun hf => hf.keep (hb.block _ hf.lt)
  unfold prW at *
  split at h
  all_goals first
    | exact h
    | (obtain ⟨g, a, b, c⟩ := h; exact ⟨g, a, k b, c⟩)
    | (obtain ⟨g0, g1, g2, g3, a, b, c, d, e, f⟩ := h; exact ⟨g0, g1, g2, g3, a, k b, k c, k d, k e, f⟩)
    | (obtain ⟨g, xs, a, b, c⟩ := h; exact ⟨g, xs, a, k b, c⟩)
    | trivial
def finW (R n : Nat) (W0 : World) (σ : Nat → Value) (W : World) : Prop := ∃ q us ms rr op, σ 7 = ptr q ∧ Nw W0.heap.size q us ms rr op n R (fun _ => 0) (fun _ => 0) (fun _ => List.replicate n []) (fun _ => List.replicate n (.slice none 0 0)) W ∧ Below W0.heap.size W0 W
theorem res_wt {tmps : Array Value} {b : Nat} {Y : World} {t0 t1 t2 t3 : Value} (ht : tmps.getD 6 undef = .pointer (some ⟨b, 0, none⟩)) (h : Fx b 71 [t0, t1, t2, t3] Y) : (results Tryz.f65 tmps).run Tryz.prog Y = .ok (.agg #[t0, t1, t2, t3]) Y := by
  have r0 := h.get (i := 0) rfl
  have r1 := h.get (i := 1) rfl
  have r2 := h.get (i := 2) rfl
  have r3 := h.get (i := 3) rfl
  have ht2 : tmps[6]?.getD undef = .pointer (some ⟨b, 0, none⟩) := by simpa [Array.getD_eq_getD_getElem?] using ht
  clear h ht
  simp [results, Tryz.results65, go_sem, ht2, r0, r1, r2, r3]
set_option maxRecDepth 100000 in
set_option maxHeartbeats 3200000 in
theorem isAny_any {w : World} {k h : Int} {v : Value} : Calls Tryz.prog 67 #[.agg #[.int .i64 k, .int .i64 h, v]] w fun o w' => o = .returned (.bool true) ∧ Below w.heap.size w w' := by
  have HB := hide (below_new w (.cells #[.int .i64 k, .int .i64 h, v] 81))
  go_enter Tryz.func67, Tryz.ntmps67
  go_wp2_with fail
  go_ret
  exact ⟨rfl, HB.out⟩
end Go.Proofs.YtcobmbclhhimjaaGreat.Fa
