import Derived.Test.YthifoamnmhlghaaGreatNcl
namespace Go.Proofs.YthifoamnmhlghaaGreat.Fa
open Go.RowKit Rg
structure HM (m base : Nat) (sb : Nat → Nat) (n : Nat) (H : Nat → List (List Int)) (vs : Nat → List Value) (w : World) : Prop where
 ln : ∀ c, c < m → (H c).length = n
 vl : ∀ c, c < m → (vs c).length = n
 fx : ∀ c, c < m → Fx (sb c) 26 (vs c) w
 lo : ∀ c, c < m → base ≤ sb c
 ne : ∀ c d, c < m → d < m → c ≠ d → sb c ≠ sb d
 own : ∀ c (i : Nat) l v, c < m → (H c)[i]? = some l → (vs c)[i]? = some v → w.ownsRow base 3 1 v l.length (av l)
 apart : ∀ c d (i j : Nat) v u g, c < m → d < m → (vs c)[i]? = some v → (vs d)[j]? = some u → v.ownBlock = some g → u.ownBlock = some g → c = d ∧ i = j
section
variable {m base n : Nat} {sb : Nat → Nat} {H : Nat → List (List Int)} {vs : Nat → List Value} {w w' : World}
theorem HM.go (h : HM m base sb n H vs w) (hb : Below w.heap.size w w') : HM m base sb n H vs w' :=
 ⟨h.ln, h.vl, fun c hc => (h.fx c hc).keep (hb.block _ (h.fx c hc).lt), h.lo, h.ne, fun c i l v hc h1 h2 => owns_keep (h.own c i l v hc h1 h2) fun g hg => hb.block g (aA (h.own c i l v hc h1 h2) hg), h.apart⟩
theorem HM.set (h : HM m base sb n H vs w) {g T i : Nat} {cs : List Value} {v : Value} (hg : Fx g T cs w) (h1 : T ≠ 26) (h2 : T ≠ 3) : HM m base sb n H vs (w.setCell ⟨g, i, none⟩ v) :=
 ⟨h.ln, h.vl, fun c hc => (h.fx c hc).keep (other_set (am (h.fx c hc) hg (Ne.symm h1))), h.lo, h.ne, fun c i l v hc a b => owns_keep (h.own c i l v hc a b) fun _ hk => other_set fun e => ao (h.own c i l v hc a b) hg (Ne.symm h2) (e ▸ hk), h.apart⟩
theorem HM.at (h : HM m base sb n H vs w) {c i : Nat} (hc : c < m) (hi : i < n) : ∃ l a k, (H c)[i]? = some l ∧ (vs c)[i]? = some (.slice a l.length k) ∧ w.cell? ⟨sb c, i, none⟩ = some (.slice a l.length k) ∧ w.ownsRow base 3 1 (.slice a l.length k) l.length (av l) := by
 obtain ⟨l, h1⟩ := ap (l := H c) (i := i) (by rw [h.ln c hc]; exact hi)
 obtain ⟨v, h2⟩ := ap (l := vs c) (i := i) (by rw [h.vl c hc]; exact hi)
 have ho := h.own c i _ _ hc h1 h2
 obtain ⟨a, k, e⟩ := bg ho
 rw [e] at ho h2
 exact ⟨l, a, k, h1, h2, (h.fx c hc).get h2, ho⟩
theorem HM.add (h : HM m base sb n H vs w) {c i : Nat} (hc : c < m) {l : List Int} {v : Value} (hi : (H c)[i]? = some l) (hv : (vs c)[i]? = some v) {x : Int} {g4 cap4 : Nat} (hnew : w'.ownsRow base 3 1 (.slice (some ⟨g4, 0, none⟩) (l.length + 1) cap4) (l.length + 1) (av l ++ [.int .i64 x]))
    (hold : ∀ k, k < w.heap.size → v.ownBlock ≠ some k → w'.heap[k]? = w.heap[k]?) (hg : v.ownBlock = some g4 ∨ w.heap.size ≤ g4) :
    HM m base sb n (up H c ((H c).set i (l ++ [x]))) (up vs c ((vs c).set i (.slice (some ⟨g4, 0, none⟩) (l.length + 1) cap4))) (w'.setCell ⟨sb c, i, none⟩ (.slice (some ⟨g4, 0, none⟩) (l.length + 1) cap4)) := by
 have hov := h.own c i l v hc hi hv
 have hil : i < n := by rw [← h.ln c hc]; exact (List.getElem?_eq_some_iff.1 hi).1
 have hfx : ∀ d, d < m → Fx (sb d) 26 (vs d) w' := fun d hd => (h.fx d hd).keep (hold _ (h.fx d hd).lt (ao hov (h.fx d hd) (by decide)))
 have key : ∀ (d j : Nat) (u : Value) (q : Nat), d < m → ¬ (d = c ∧ j = i) → (vs d)[j]? = some u → u.ownBlock = some q → q ≠ g4 := by
  intro d j u q hd hne hu hq e
  subst e
  have hm : j < (H d).length := by rw [h.ln d hd, ← h.vl d hd]; exact (List.getElem?_eq_some_iff.1 hu).1
  have ho := h.own d j _ u hd (List.getElem?_eq_getElem hm) hu
  rcases hg with hg | hg
  · exact hne (h.apart d c j i u v _ hd hc hu hv hq hg)
  · have := aA ho hq; omega
 refine ⟨fun d hd => ?_, fun d hd => ?_, fun d hd => ?_, h.lo, h.ne, fun d j l2 u hd h1 h2 => ?_, fun d e j k a b g hd he h1 h2 h3 h4 => ?_⟩
 · by_cases e : d = c
   · subst e; rw [bY, List.length_set]; exact h.ln d hd
   · rw [bt e]; exact h.ln d hd
 · by_cases e : d = c
   · subst e; rw [bY, List.length_set]; exact h.vl d hd
   · rw [bt e]; exact h.vl d hd
 · by_cases e : d = c
   · subst e; rw [bY]; exact (hfx d hd).set i _
   · rw [bt e]; exact (hfx d hd).keep (other_set (h.ne d c hd hc e))
 · have old : ∀ (hne : ¬ (d = c ∧ j = i)), (H d)[j]? = some l2 → (vs d)[j]? = some u → (w'.setCell ⟨sb c, i, none⟩ (.slice (some ⟨g4, 0, none⟩) (l.length + 1) cap4)).ownsRow base 3 1 u l2.length (av l2) := fun hne a b => by
    have ho := h.own d j l2 u hd a b
    refine owns_keep ho fun g hgu => ?_
    rw [other_set fun (e2 : g = sb c) => ao ho (h.fx c hc) (by decide) (e2 ▸ hgu)]
    exact hold g (aA ho hgu) fun e2 => hne (h.apart d c j i u v g hd hc b hv hgu e2)
   by_cases e : d = c
   · subst e
     rw [bY] at h1 h2
     by_cases e2 : i = j
     · subst e2
       rw [List.getElem?_set_self (by rw [h.ln d hd]; exact hil)] at h1
       rw [List.getElem?_set_self (by rw [h.vl d hd]; exact hil)] at h2
       cases h1
       cases h2
       rw [List.length_append, cU]
       exact owns_keep hnew fun g e => other_set fun e2 => ao hnew (hfx d hd) (by decide) (e2 ▸ e)
     · rw [List.getElem?_set_ne e2] at h1 h2
       exact old (fun x => e2 x.2.symm) h1 h2
   · rw [bt e] at h1 h2
     exact old (fun x => e x.1) h1 h2
 · have split : ∀ (d j : Nat) (a : Value), (up vs c ((vs c).set i (.slice (some ⟨g4, 0, none⟩) (l.length + 1) cap4)) d)[j]? = some a → (d = c ∧ j = i ∧ a = .slice (some ⟨g4, 0, none⟩) (l.length + 1) cap4) ∨ (¬ (d = c ∧ j = i) ∧ (vs d)[j]? = some a) := by
    intro d j a ha
    by_cases e1 : d = c
    · subst e1
      rw [bY] at ha
      by_cases e2 : i = j
      · subst e2
        rw [List.getElem?_set_self (by rw [h.vl d hc]; exact hil)] at ha
        exact .inl ⟨rfl, rfl, by cases ha; rfl⟩
      · rw [List.getElem?_set_ne e2] at ha
        exact .inr ⟨fun x => e2 x.2.symm, ha⟩
    · rw [bt e1] at ha
      exact .inr ⟨fun x => e1 x.1, ha⟩
   rcases split d j a h1 with ⟨a1, a2, a3⟩ | ⟨a1, a2⟩
   · rcases split e k b h2 with ⟨b1, b2, b3⟩ | ⟨b1, b2⟩
     · exact ⟨a1.trans b1.symm, a2.trans b2.symm⟩
     · subst a3
       have : g4 = g := by simpa [Value.ownBlock] using h3
       exact absurd this.symm (key e k b g he b1 b2 h4)
   · rcases split e k b h2 with ⟨b1, b2, b3⟩ | ⟨b1, b2⟩
     · subst b3
       have : g4 = g := by simpa [Value.ownBlock] using h4
       exact absurd this.symm (key d j a g hd a1 a2 h3)
     · exact h.apart d e j k a b g hd he a2 b2 h3 h4
end
theorem HM.ll {m base n : Nat} {sb : Nat → Nat} {H : Nat → List (List Int)} {vs : Nat → List Value} {w : World} (h : HM m base sb n H vs w) {c : Nat} (hc : c < m) {S : Nat → Prop} {L : Int → List Int} (hL : ∀ z : Nat, z < n → (H c).getD z [] = L z) (hS : ∀ k, base ≤ k → k < w.heap.size → S k) : LL S L n (sb c) w := by
 refine ⟨hS _ (h.lo c hc) (h.fx c hc).lt, vs c, h.fx c hc, h.vl c hc, fun i hi => ?_⟩
 obtain ⟨l, a, k, h1, h2, -, h4⟩ := h.at hc hi
 have e : l = L i := by
  have := hL i hi
  rw [List.getD_eq_getElem?_getD, h1] at this
  exact this
 subst e
 refine ⟨a, k, h2, cj h4, fun g o e2 _ => ?_⟩
 have hlt := h4.lt g (by rw [e2]; rfl)
 exact hS g hlt.1 hlt.2
abbrev pD (us ms rr op n R : Nat) : List Value := [sl us n, sl ms R, sl rr R, sl op n]
structure Nw (base q us ms rr op n R : Nat) (fm fo : Int → Int) (H : Nat → List (List Int)) (vs : Nat → List Value) (w : World) : Prop where
 bx : Fx q 48 (pD us ms rr op n R) w
 fm : Fx ms 3 (bO R fm) w
 fr : Fx rr 4 (cM R fun _ => false) w
 fo : Fx op 3 (bO n fo) w
 h3 : HM 1 base (fun _ => us) n H vs w
 lo : base ≤ q ∧ base ≤ ms ∧ base ≤ rr ∧ base ≤ op
 ne : ms ≠ op
 na : ∀ (i : Nat) v, (vs 0)[i]? = some v → v.ownBlock ≠ some ms ∧ v.ownBlock ≠ some op
section
variable {base q us ms rr op n R : Nat} {fm fo : Int → Int} {H : Nat → List (List Int)} {vs : Nat → List Value} {w w' : World}
theorem Nw.go (h : Nw base q us ms rr op n R fm fo H vs w) (hb : Below w.heap.size w w') : Nw base q us ms rr op n R fm fo H vs w' := ⟨h.bx.keep (hb.block _ h.bx.lt), h.fm.keep (hb.block _ h.fm.lt), h.fr.keep (hb.block _ h.fr.lt), h.fo.keep (hb.block _ h.fo.lt), h.h3.go hb, h.lo, h.ne, h.na⟩
theorem HM.setN {m : Nat} {sb : Nat → Nat} (h : HM m base sb n H vs w) {g i t : Nat} {cs : List Value} {v : Value} (hg : Fx g t cs w) (h1 : t ≠ 26) (hn : ∀ (c i : Nat) (u : Value), c < m → (vs c)[i]? = some u → u.ownBlock ≠ some g) : HM m base sb n H vs (w.setCell ⟨g, i, none⟩ v) :=
 ⟨h.ln, h.vl, fun c hc => (h.fx c hc).keep (other_set (am (h.fx c hc) hg (Ne.symm h1))), h.lo, h.ne, fun c i l v hc a b => owns_keep (h.own c i l v hc a b) fun _ hk => other_set fun e => hn c i v hc b (e ▸ hk), h.apart⟩
theorem Nw.setM (h : Nw base q us ms rr op n R fm fo H vs w) {i : Nat} (hi : i < R) (v : Int) : Nw base q us ms rr op n R (ar fm i v) fo H vs (w.setCell ⟨ms, i, none⟩ (.int .i64 v)) :=
 ⟨h.bx.keep (other_set (am h.bx h.fm (by decide))), by have := h.fm.set i (.int .i64 v); rw [eI hi] at this; exact this, h.fr.keep (other_set (am h.fr h.fm (by decide))), h.fo.keep (other_set (Ne.symm h.ne)), h.h3.setN h.fm (by decide) fun c i u hc hu => (h.na i u ((show c = 0 by omega) ▸ hu)).1, h.lo, h.ne, h.na⟩
theorem Nw.setO (h : Nw base q us ms rr op n R fm fo H vs w) {i : Nat} (hi : i < n) (v : Int) : Nw base q us ms rr op n R fm (ar fo i v) H vs (w.setCell ⟨op, i, none⟩ (.int .i64 v)) :=
 ⟨h.bx.keep (other_set (am h.bx h.fo (by decide))), h.fm.keep (other_set h.ne), h.fr.keep (other_set (am h.fr h.fo (by decide))), by have := h.fo.set i (.int .i64 v); rw [eI hi] at this; exact this, h.h3.setN h.fo (by decide) fun c i u hc hu => (h.na i u ((show c = 0 by omega) ▸ hu)).2, h.lo, h.ne, h.na⟩
theorem Nw.add (h : Nw base q us ms rr op n R fm fo H vs w) {c i : Nat} (hc : c < 1) {l : List Int} {v : Value} (hi : (H c)[i]? = some l) (hv : (vs c)[i]? = some v) {x : Int} {g4 cap4 : Nat} (hnew : w'.ownsRow base 3 1 (.slice (some ⟨g4, 0, none⟩) (l.length + 1) cap4) (l.length + 1) (av l ++ [.int .i64 x]))
    (hold : ∀ k, k < w.heap.size → v.ownBlock ≠ some k → w'.heap[k]? = w.heap[k]?) (hg : v.ownBlock = some g4 ∨ w.heap.size ≤ g4) :
    Nw base q us ms rr op n R fm fo (up H c ((H c).set i (l ++ [x]))) (up vs c ((vs c).set i (.slice (some ⟨g4, 0, none⟩) (l.length + 1) cap4))) (w'.setCell ⟨us, i, none⟩ (.slice (some ⟨g4, 0, none⟩) (l.length + 1) cap4)) := by
 have hov := h.h3.own c i l v hc hi hv
 have h0 : c = 0 := by omega
 subst h0
 have hna := h.na i v hv
 have hu := h.h3.fx 0 hc
 refine ⟨(h.bx.keep (hold _ h.bx.lt (ao hov h.bx (by decide)))).keep (other_set (am h.bx hu (by decide))), (h.fm.keep (hold _ h.fm.lt hna.1)).keep (other_set (am h.fm hu (by decide))), (h.fr.keep (hold _ h.fr.lt (ao hov h.fr (by decide)))).keep (other_set (am h.fr hu (by decide))), (h.fo.keep (hold _ h.fo.lt hna.2)).keep (other_set (am h.fo hu (by decide))), h.h3.add hc hi hv hnew hold hg, h.lo, h.ne, fun j u hu2 => ?_⟩
 rw [bY] at hu2
 by_cases e : i = j
 · subst e
   have hlen : i < (vs 0).length := (List.getElem?_eq_some_iff.1 hv).1
   rw [List.getElem?_set_self hlen] at hu2
   cases hu2
   have key : ∀ k, k < w.heap.size → v.ownBlock ≠ some k → Value.ownBlock (.slice (some ⟨g4, 0, none⟩) (l.length + 1) cap4) ≠ some k := fun k hk hn e2 => by
    have e3 : g4 = k := by simpa [Value.ownBlock] using e2
    subst e3
    rcases hg with hg | hg
    · exact hn hg
    · omega
   exact ⟨key _ h.fm.lt hna.1, key _ h.fo.lt hna.2⟩
 · rw [List.getElem?_set_ne e] at hu2
   exact h.na j u hu2
end
theorem Nw.far {base base' q us ms rr op n R : Nat} {fm fo : Int → Int} {H : Nat → List (List Int)} {vs : Nat → List Value} {w w' : World} (h : Nw base q us ms rr op n R fm fo H vs w) (hk : ∀ g, base ≤ g → g < w.heap.size → w'.heap[g]? = w.heap[g]?) (hb : base' ≤ base) : Nw base' q us ms rr op n R fm fo H vs w' :=
 ⟨h.bx.keep (hk _ h.lo.1 h.bx.lt), h.fm.keep (hk _ h.lo.2.1 h.fm.lt), h.fr.keep (hk _ h.lo.2.2.1 h.fr.lt), h.fo.keep (hk _ h.lo.2.2.2 h.fo.lt), ⟨h.h3.ln, h.h3.vl, fun c hc => (h.h3.fx c hc).keep (hk _ (h.h3.lo c hc) (h.h3.fx c hc).lt), fun c hc => Nat.le_trans hb (h.h3.lo c hc), h.h3.ne, fun c i l v hc h1 h2 => aP (owns_keep (h.h3.own c i l v hc h1 h2) fun g hg => hk g ((h.h3.own c i l v hc h1 h2).lt g hg).1 ((h.h3.own c i l v hc h1 h2).lt g hg).2) hb, h.h3.apart⟩, ⟨Nat.le_trans hb h.lo.1, Nat.le_trans hb h.lo.2.1, Nat.le_trans hb h.lo.2.2.1, Nat.le_trans hb h.lo.2.2.2⟩, h.ne, h.na⟩
theorem m6 {base n us : Nat} {w : World} (h1 : Fx us 26 (List.replicate n (.slice none 0 0)) w) (lo : base ≤ us) : HM 1 base (fun _ => us) n (fun _ => List.replicate n []) (fun _ => List.replicate n (.slice none 0 0)) w := by
 refine ⟨fun c _ => by simp, fun c _ => by simp, fun _ _ => h1, fun _ _ => lo, fun c d hc hd hne => absurd (show c = d by omega) hne, fun c i l v _ a b => ?_, fun c d i j v u g _ _ a b e => ?_⟩
 · rw [List.getElem?_replicate] at a b
   split at a
   · rename_i hi
     rw [if_pos hi] at b
     cases a
     cases b
     exact ⟨rfl, .inl ⟨rfl, rfl⟩⟩
   · cases a
 · rw [List.getElem?_replicate] at a
   split at a
   · cases a; cases e
   · cases a
theorem nE {l : List Int} (h : l.Nodup) {j : Nat} {x : Int} (hx : l[j]? = some x) : ¬ x ∈ l.take j := by
 intro hm
 obtain ⟨i, hi⟩ := List.mem_iff_getElem?.1 hm
 rw [List.getElem?_take] at hi
 split at hi
 · rename_i hij
   have h1 := List.getElem?_eq_some_iff.1 hi
   have h2 := List.getElem?_eq_some_iff.1 hx
   obtain ⟨a1, a2⟩ := h1
   obtain ⟨b1, b2⟩ := h2
   exact List.pairwise_iff_getElem.1 h i j a1 b1 hij (a2.trans b2.symm)
 · cases hi
def dz (T : Th) (p : RuleM → Bool) (k : Nat) : Int → Int := (List.range k).foldl (fun f (r : Nat) => if aC T p r then ar f r ((aB T r).length : Nat) else f) fun _ => 0
def opK (T : Th) (p : RuleM → Bool) (k : Nat) : Int → Int := (List.range k).foldl (fun f (r : Nat) => if aC T p r then ar f (ag T r) (aE (f (ag T r))) else f) fun _ => 0
def cE (T : Th) (p : RuleM → Bool) (f : Int → Int) (k : Nat) : Int → Int := (List.range k).foldl (fun f (r : Nat) => if aC T p r && (aB T r).isEmpty then ar f (ag T r) 0 else f) f
section
variable {T : Th} {p : RuleM → Bool} {k : Nat} {f : Int → Int}
theorem jd : dz T p (k + 1) = if aC T p k then ar (dz T p k) k ((aB T k).length : Nat) else dz T p k := by
 unfold dz
 rw [List.range_succ, List.foldl_append]
 rfl
theorem gW : opK T p (k + 1) = if aC T p k then ar (opK T p k) (ag T k) (aE (opK T p k (ag T k))) else opK T p k := by
 unfold opK
 rw [List.range_succ, List.foldl_append]
 rfl
theorem eG : cE T p f (k + 1) = if aC T p k && (aB T k).isEmpty then ar (cE T p f k) (ag T k) 0 else cE T p f k := by
 unfold cE
 rw [List.range_succ, List.foldl_append]
 rfl
structure Gu (T : Th) (p : RuleM → Bool) (n k j : Nat) (H : Nat → List (List Int)) : Prop where
 u : ∀ z : Nat, z < n → (H 0).getD z [] = dm T p k z ++ if (z : Int) ∈ (aB T k).take j then [(k : Int)] else []
 ln : (H 0).length = n
theorem mu {z : Int} : dm T p (k + 1) z = dm T p k z ++ if gt T p z k then [(k : Int)] else [] := by
 unfold dm
 rw [List.range_succ, List.filter_append, List.map_append]
 congr 1
 by_cases h : gt T p z k
 · rw [if_pos h, List.filter_cons_of_pos h]; rfl
 · rw [if_neg h, List.filter_cons_of_neg h]; rfl
theorem rj {z : Int} : (dm T p k z).length ≤ k := by
 unfold dm
 rw [List.length_map]
 exact Nat.le_trans (List.length_filter_le _ _) (by simp)
variable {n j : Nat} {H : Nat → List (List Int)} {r : RuleM} {l : List Int}
theorem Gu.start : Gu T p n 0 0 fun _ => List.replicate n [] := ⟨fun z _ => by rw [kX]; simp [dm], by simp⟩
theorem Gu.none (h : Gu T p n k 0 H) (hr : T.rules[k]? = some r) (hp : p r = false) : Gu T p n (k + 1) 0 H := by
 refine ⟨fun z hz => ?_, h.ln⟩
 rw [h.u z hz, mu]
 have : gt T p z k = false := by unfold gt; rw [hr]; simp [hp]
 simp [this]
theorem Gu.next (h : Gu T p n k j H) (hr : T.rules[k]? = some r) (hp : p r = true) (hj : r.body.length ≤ j) : Gu T p n (k + 1) 0 H := by
 refine ⟨fun z hz => ?_, h.ln⟩
 have hb : aB T k = r.body := by unfold aB; rw [Int.toNat_natCast, hr]; rfl
 rw [h.u z hz, mu, hb, List.take_of_length_le hj]
 have : gt T p z k = decide ((z : Int) ∈ r.body) := by unfold gt; rw [hr]; simp [hp]
 rw [this]
 simp
theorem Gu.add (h : Gu T p n k j H) (hr : T.rules[k]? = some r) (hn : r.body.Nodup) {x : Nat} (hx : r.body[j]? = some (x : Int)) (hxn : x < n) (hl : (H 0)[x]? = some l) : Gu T p n k (j + 1) (up H 0 ((H 0).set x (l ++ [(k : Int)]))) := by
 have hlen : x < (H 0).length := by rw [h.ln]; exact hxn
 have hb : aB T k = r.body := by unfold aB; rw [Int.toNat_natCast, hr]; rfl
 refine ⟨fun z hz => ?_, by rw [bY, List.length_set]; exact h.ln⟩
 rw [cX hlen, hb, cP hx]
 by_cases e : z = x
 · subst e
   have h2 := h.u z hz
   rw [gR hl, hb, if_neg (nE hn hx)] at h2
   rw [if_pos ⟨rfl, rfl⟩, if_pos (by simp), h2, List.append_nil]
 · rw [if_neg fun a => e a.2, h.u z hz, hb]
   have : ((z : Int) ∈ r.body.take j ++ [(x : Int)]) ↔ (z : Int) ∈ r.body.take j := by
    rw [List.mem_append, List.mem_singleton]
    exact ⟨fun a => a.resolve_right (by omega), .inl⟩
   simp only [this]
theorem Gu.len (h : Gu T p n k j H) (hk : k < 4096) {z : Nat} (hl : (H 0)[z]? = some l) : l.length ≤ 4096 := by
 have hz : z < n := by rw [← h.ln]; exact (List.getElem?_eq_some_iff.1 hl).1
 have h2 := h.u z hz
 rw [gR hl] at h2
 rw [h2, List.length_append]
 have := rj (T := T) (p := p) (k := k) (z := (z : Int))
 split <;> simp <;> omega
end
end Go.Proofs.YthifoamnmhlghaaGreat.Fa
set_option maxRecDepth 100000
set_option maxHeartbeats 3200000
namespace Go.Proofs.YthifoamnmhlghaaGreat.Fa
open Go.RowKit Rg
def qf (R : Nat) (ra : Option Addr) (rc : Nat) (T : Th) (bq n N : Nat) (i : Nat) (v : Value) (W : World) (lo hi : Nat) : Prop := match i with
 | 0 | 11 => v = ae bq
 | 1 | 12 => v = .int .i64 T.lits
 | 3 | 7 => v = .pointer (some ⟨bq, 2, none⟩)
 | 4 | 8 => v = .slice ra R rc
 | 5 | 9 => v = .int .i64 R
 | 2 => ∃ g, v = sl g n ∧ Fx g 26 (List.replicate n (.slice none 0 0)) W ∧ lo ≤ g ∧ g < hi ∧ N ≤ g
 | 6 => ∃ g, v = sl g R ∧ Fx g 3 (bO R fun _ => 0) W ∧ lo ≤ g ∧ g < hi ∧ N ≤ g
 | 10 => ∃ g, v = sl g R ∧ Fx g 4 (cM R fun _ => false) W ∧ lo ≤ g ∧ g < hi ∧ N ≤ g
 | 13 => ∃ g, v = sl g n ∧ Fx g 3 (bO n fun _ => 0) W ∧ lo ≤ g ∧ g < hi ∧ N ≤ g
 | 14 => ∃ g0 g1 g2 g3, v = .agg #[sl g0 n, sl g1 R, sl g2 R, sl g3 n] ∧ Fx g0 26 (List.replicate n (.slice none 0 0)) W ∧ Fx g1 3 (bO R fun _ => 0) W ∧ Fx g2 4 (cM R fun _ => false) W ∧ Fx g3 3 (bO n fun _ => 0) W ∧ (N ≤ g0 ∧ N ≤ g1 ∧ N ≤ g2 ∧ N ≤ g3) ∧ g1 ≠ g3
 | 15 => ∃ g xs, v = ae g ∧ Fx g 48 xs W ∧ xs.length = 4 ∧ N ≤ g
 | _ => True
theorem aT {R : Nat} {ra : Option Addr} {rc : Nat} {T : Th} {bq n N : Nat} : ∀ i v W W' lo hi, qf R ra rc T bq n N i v W lo hi → hi ≤ W.heap.size → Below W.heap.size W W' → qf R ra rc T bq n N i v W' lo hi := by
 intro i v W W' lo hi h hh hb
 have k : ∀ {g t : Nat} {xs : List Value}, Fx g t xs W → Fx g t xs W' := fun hf => hf.keep (hb.block _ hf.lt)
 unfold qf at *
 split at h
 all_goals first
  | exact h
  | (obtain ⟨g, a, b, c⟩ := h; exact ⟨g, a, k b, c⟩)
  | (obtain ⟨g0, g1, g2, g3, a, b, c, d, e, f⟩ := h; exact ⟨g0, g1, g2, g3, a, k b, k c, k d, k e, f⟩)
  | (obtain ⟨g, xs, a, b, c⟩ := h; exact ⟨g, xs, a, k b, c⟩)
  | trivial
def oN (R n : Nat) (W0 : World) (σ : Nat → Value) (W : World) : Prop := ∃ q us ms rr op, σ 7 = ae q ∧ Nw W0.heap.size q us ms rr op n R (fun _ => 0) (fun _ => 0) (fun _ => List.replicate n []) (fun _ => List.replicate n (.slice none 0 0)) W ∧ Below W0.heap.size W0 W
theorem pJ {tmps : Array Value} {b : Nat} {Y : World} {t0 t1 t2 t3 : Value} (ht : tmps.getD 6 undef = .pointer (some ⟨b, 0, none⟩)) (h : Fx b 48 [t0, t1, t2, t3] Y) : (results Tryz.f28 tmps).run Tryz.prog Y = .ok (.agg #[t0, t1, t2, t3]) Y := by
 have r0 := h.get (i := 0) rfl
 have r1 := h.get (i := 1) rfl
 have r2 := h.get (i := 2) rfl
 have r3 := h.get (i := 3) rfl
 have ht2 : tmps[6]?.getD undef = .pointer (some ⟨b, 0, none⟩) := by simpa [Array.getD_eq_getD_getElem?] using ht
 clear h ht
 simp [results, Tryz.results28, go_sem, ht2, r0, r1, r2, r3]
theorem ps {w : World} {k h : Int} {v : Value} : Calls Tryz.prog 30 #[.agg #[.int .i64 k, .int .i64 h, v]] w fun o w' => o = .returned (.bool true) ∧ Below w.heap.size w w' := by
 have HB := hide (aa w (.cells #[.int .i64 k, .int .i64 h, v] 36))
 go_enter Tryz.func30, Tryz.ntmps30
 go_wp2_with fail
 go_ret
 exact ⟨rfl, HB.out⟩
end Go.Proofs.YthifoamnmhlghaaGreat.Fa
