import Derived.Test.YtmlhcncagdfjfaaGreatKr
import Derived.Deep.RegionLaw
import Derived.Deep.CutRange
set_option maxRecDepth 100000
set_option maxHeartbeats 12800000
namespace Go.Proofs.YtmlhcncagdfjfaaGreat
open Go.RowKit
def up {α : Type} (f : Nat → α) (c : Nat) (y : α) : Nat → α := fun d => if d = c then y else f d
theorem bZ {α : Type} {f : Nat → α} {c : Nat} {y : α} : up f c y c = y := if_pos rfl
theorem bz {α : Type} {f : Nat → α} {c d : Nat} {y : α} (h : d ≠ c) : up f c y d = f d := if_neg h
structure H3 (base : Nat) (sb : Nat → Nat) (n : Nat) (H : Nat → List (List Int)) (vs : Nat → List Value) (w : World) : Prop where
 ln : ∀ c, c < 3 → (H c).length = n
 vl : ∀ c, c < 3 → (vs c).length = n
 fx : ∀ c, c < 3 → Fx (sb c) 26 (vs c) w
 lo : ∀ c, c < 3 → base ≤ sb c
 ne : ∀ c d, c < 3 → d < 3 → c ≠ d → sb c ≠ sb d
 own : ∀ c (i : Nat) l v, c < 3 → (H c)[i]? = some l → (vs c)[i]? = some v → w.ownsRow base 3 1 v l.length (aq l)
 apart : ∀ c d (i j : Nat) v u g, c < 3 → d < 3 → (vs c)[i]? = some v → (vs d)[j]? = some u → v.ownBlock = some g → u.ownBlock = some g → c = d ∧ i = j
section
variable {base n : Nat} {sb : Nat → Nat} {H : Nat → List (List Int)} {vs : Nat → List Value} {w w' : World}
theorem H3.go (h : H3 base sb n H vs w) (hb : Below w.heap.size w w') : H3 base sb n H vs w' :=
 ⟨h.ln, h.vl, fun c hc => (h.fx c hc).keep (hb.block _ (h.fx c hc).lt), h.lo, h.ne, fun c i l v hc h1 h2 => owns_keep (h.own c i l v hc h1 h2) fun g hg => hb.block g (ax (h.own c i l v hc h1 h2) hg), h.apart⟩
theorem H3.set (h : H3 base sb n H vs w) {g T i : Nat} {cs : List Value} {v : Value} (hg : Fx g T cs w) (h1 : T ≠ 26) (h2 : T ≠ 3) : H3 base sb n H vs (w.setCell ⟨g, i, none⟩ v) :=
 ⟨h.ln, h.vl, fun c hc => (h.fx c hc).keep (other_set (an (h.fx c hc) hg (Ne.symm h1))), h.lo, h.ne, fun c i l v hc a b => owns_keep (h.own c i l v hc a b) fun _ hk => other_set fun e => au (h.own c i l v hc a b) hg (Ne.symm h2) (e ▸ hk), h.apart⟩
theorem H3.at (h : H3 base sb n H vs w) {c i : Nat} (hc : c < 3) (hi : i < n) : ∃ l a k, (H c)[i]? = some l ∧ (vs c)[i]? = some (.slice a l.length k) ∧ w.cell? ⟨sb c, i, none⟩ = some (.slice a l.length k) ∧ w.ownsRow base 3 1 (.slice a l.length k) l.length (aq l) := by
 obtain ⟨l, h1⟩ := am (l := H c) (i := i) (by rw [h.ln c hc]; exact hi)
 obtain ⟨v, h2⟩ := am (l := vs c) (i := i) (by rw [h.vl c hc]; exact hi)
 have ho := h.own c i _ _ hc h1 h2
 obtain ⟨a, k, e⟩ := bf ho
 rw [e] at ho h2
 exact ⟨l, a, k, h1, h2, (h.fx c hc).get h2, ho⟩
theorem H3.add (h : H3 base sb n H vs w) {c i : Nat} (hc : c < 3) {l : List Int} {v : Value} (hi : (H c)[i]? = some l) (hv : (vs c)[i]? = some v) {x : Int} {g4 cap4 : Nat} (hnew : w'.ownsRow base 3 1 (.slice (some ⟨g4, 0, none⟩) (l.length + 1) cap4) (l.length + 1) (aq l ++ [.int .i64 x]))
    (hold : ∀ k, k < w.heap.size → v.ownBlock ≠ some k → w'.heap[k]? = w.heap[k]?) (hg : v.ownBlock = some g4 ∨ w.heap.size ≤ g4) :
    H3 base sb n (up H c ((H c).set i (l ++ [x]))) (up vs c ((vs c).set i (.slice (some ⟨g4, 0, none⟩) (l.length + 1) cap4))) (w'.setCell ⟨sb c, i, none⟩ (.slice (some ⟨g4, 0, none⟩) (l.length + 1) cap4)) := by
 have Ae := h.own c i l v hc hi hv
 have Ad : i < n := by rw [← h.ln c hc]; exact (List.getElem?_eq_some_iff.1 hi).1
 have Ac : ∀ d, d < 3 → Fx (sb d) 26 (vs d) w' := fun d hd => (h.fx d hd).keep (hold _ (h.fx d hd).lt (au Ae (h.fx d hd) (by decide)))
 have key : ∀ (d j : Nat) (u : Value) (q : Nat), d < 3 → ¬ (d = c ∧ j = i) → (vs d)[j]? = some u → u.ownBlock = some q → q ≠ g4 := by
  intro d j u q hd Ab hu hq e
  subst e
  have hm : j < (H d).length := by rw [h.ln d hd, ← h.vl d hd]; exact (List.getElem?_eq_some_iff.1 hu).1
  have ho := h.own d j _ u hd (List.getElem?_eq_getElem hm) hu
  rcases hg with hg | hg
  · exact Ab (h.apart d c j i u v _ hd hc hu hv hq hg)
  · have := ax ho hq; omega
 refine ⟨fun d hd => ?_, fun d hd => ?_, fun d hd => ?_, h.lo, h.ne, fun d j l2 u hd h1 h2 => ?_, fun d e j k a b g hd he h1 h2 h3 h4 => ?_⟩
 · by_cases e : d = c
   · subst e; rw [bZ, List.length_set]; exact h.ln d hd
   · rw [bz e]; exact h.ln d hd
 · by_cases e : d = c
   · subst e; rw [bZ, List.length_set]; exact h.vl d hd
   · rw [bz e]; exact h.vl d hd
 · by_cases e : d = c
   · subst e; rw [bZ]; exact (Ac d hd).set i _
   · rw [bz e]; exact (Ac d hd).keep (other_set (h.ne d c hd hc e))
 · have old : ∀ (Ab : ¬ (d = c ∧ j = i)), (H d)[j]? = some l2 → (vs d)[j]? = some u → (w'.setCell ⟨sb c, i, none⟩ (.slice (some ⟨g4, 0, none⟩) (l.length + 1) cap4)).ownsRow base 3 1 u l2.length (aq l2) := fun Ab a b => by
    have ho := h.own d j l2 u hd a b
    refine owns_keep ho fun g hgu => ?_
    rw [other_set fun (e2 : g = sb c) => au ho (h.fx c hc) (by decide) (e2 ▸ hgu)]
    exact hold g (ax ho hgu) fun e2 => Ab (h.apart d c j i u v g hd hc b hv hgu e2)
   by_cases e : d = c
   · subst e
     rw [bZ] at h1 h2
     by_cases e2 : i = j
     · subst e2
       rw [List.getElem?_set_self (by rw [h.ln d hd]; exact Ad)] at h1
       rw [List.getElem?_set_self (by rw [h.vl d hd]; exact Ad)] at h2
       cases h1
       cases h2
       rw [List.length_append, cX]
       exact owns_keep hnew fun g e => other_set fun e2 => au hnew (Ac d hd) (by decide) (e2 ▸ e)
     · rw [List.getElem?_set_ne e2] at h1 h2
       exact old (fun x => e2 x.2.symm) h1 h2
   · rw [bz e] at h1 h2
     exact old (fun x => e x.1) h1 h2
 · have Aa : ∀ (d j : Nat) (a : Value), (up vs c ((vs c).set i (.slice (some ⟨g4, 0, none⟩) (l.length + 1) cap4)) d)[j]? = some a → (d = c ∧ j = i ∧ a = .slice (some ⟨g4, 0, none⟩) (l.length + 1) cap4) ∨ (¬ (d = c ∧ j = i) ∧ (vs d)[j]? = some a) := by
    intro d j a ha
    by_cases e1 : d = c
    · subst e1
      rw [bZ] at ha
      by_cases e2 : i = j
      · subst e2
        rw [List.getElem?_set_self (by rw [h.vl d hc]; exact Ad)] at ha
        exact .inl ⟨rfl, rfl, by cases ha; rfl⟩
      · rw [List.getElem?_set_ne e2] at ha
        exact .inr ⟨fun x => e2 x.2.symm, ha⟩
    · rw [bz e1] at ha
      exact .inr ⟨fun x => e1 x.1, ha⟩
   rcases Aa d j a h1 with ⟨a1, a2, a3⟩ | ⟨a1, a2⟩
   · rcases Aa e k b h2 with ⟨b1, b2, b3⟩ | ⟨b1, b2⟩
     · exact ⟨a1.trans b1.symm, a2.trans b2.symm⟩
     · subst a3
       have : g4 = g := by simpa [Value.ownBlock] using h3
       exact absurd this.symm (key e k b g he b1 b2 h4)
   · rcases Aa e k b h2 with ⟨b1, b2, b3⟩ | ⟨b1, b2⟩
     · subst b3
       have : g4 = g := by simpa [Value.ownBlock] using h4
       exact absurd this.symm (key d j a g hd a1 a2 h3)
     · exact h.apart d e j k a b g hd he a2 b2 h3 h4
theorem H3.lists (h : H3 base sb n H vs w) {c : Nat} (hc : c < 3) (hn : n ≤ 4096) (hl : ∀ l ∈ H c, l.length ≤ 4096) : Lists w.heap.size w (H c) (.slice (some ⟨sb c, 0, none⟩) n n) := by
 refine ⟨_, n, by rw [h.ln c hc], by rw [h.ln c hc]; omega, by rw [h.ln c hc]; omega, fun i x hi => ?_⟩
 have Ac : i < n := by rw [← h.ln c hc]; exact (List.getElem?_eq_some_iff.1 hi).1
 obtain ⟨l, a, k, h1, h2, h3, h4⟩ := h.at hc Ac
 rw [hi] at h1
 cases h1
 refine ⟨sb c, 0, [.slice a x.length k], rfl, (h.fx c hc).lt, rfl, fun j u hu => ?_, _, rfl, a, k, rfl, ?_, ?_, fun j y hj => ?_⟩
 · cases j with
   | zero =>
    simp at hu
    subst hu
    rw [Nat.zero_add, Nat.mul_one]
    exact h3
   | succ j => simp at hu
 · rcases h4.2 with ⟨_, e⟩ | ⟨g, cap, Ad, e, _, _, Ab, _⟩
   · omega
   · cases e; exact Ab
 · have := hl x (List.mem_of_getElem? hi); omega
 · obtain ⟨g, cap, e, Aa, -, -⟩ := ie (aJ h4 (Nat.zero_le _)) (x := .int .i64 y) (i := j) (by unfold aq; rw [List.getElem?_map, hj]; rfl)
   cases e
   refine ⟨g, 0, [.int .i64 y], rfl, ax h4 rfl, rfl, fun j2 u hu => ?_, rfl⟩
   cases j2 with
   | zero =>
    simp at hu
    subst hu
    rw [Nat.zero_add, Nat.mul_one]
    exact Aa
   | succ j2 => simp at hu
end
def uc (A : Ka) (c : Nat) : Nat := if c = 0 then A.s0 else if c = 1 then A.s1 else A.s2
structure Nk (base kb : Nat) (A : Ka) (T : Th) (n : Nat) (mv : Value) (R : List Bool) (H : Nat → List (List Int)) (vs : Nat → List Value) (w : World) : Prop where
 bx : Fx kb 157 (yM A T n mv) w
 ff : Fx A.fb 4 (eB R) w
 h3 : H3 base (uc A) n H vs w
 lk : base ≤ kb
 lf : base ≤ A.fb
section
variable {base kb n : Nat} {A : Ka} {T : Th} {mv : Value} {R : List Bool} {H : Nat → List (List Int)} {vs : Nat → List Value} {w w' : World}
theorem Nk.go (h : Nk base kb A T n mv R H vs w) (hb : Below w.heap.size w w') : Nk base kb A T n mv R H vs w' := ⟨h.bx.keep (hb.block _ h.bx.lt), h.ff.keep (hb.block _ h.ff.lt), h.h3.go hb, h.lk, h.lf⟩
theorem Nk.setF (h : Nk base kb A T n mv R H vs w) (i : Nat) : Nk base kb A T n mv (R.set i true) H vs (w.setCell ⟨A.fb, i, none⟩ (.bool true)) :=
 ⟨h.bx.keep (other_set (an h.bx h.ff (by decide))), by have := h.ff.set i (.bool true); rw [pi] at this; exact this, h.h3.set h.ff (by decide) (by decide), h.lk, h.lf⟩
theorem Nk.add (h : Nk base kb A T n mv R H vs w) {c i : Nat} (hc : c < 3) {l : List Int} {v : Value} (hi : (H c)[i]? = some l) (hv : (vs c)[i]? = some v) {x : Int} {g4 cap4 : Nat} (hnew : w'.ownsRow base 3 1 (.slice (some ⟨g4, 0, none⟩) (l.length + 1) cap4) (l.length + 1) (aq l ++ [.int .i64 x]))
    (hold : ∀ k, k < w.heap.size → v.ownBlock ≠ some k → w'.heap[k]? = w.heap[k]?) (hg : v.ownBlock = some g4 ∨ w.heap.size ≤ g4) :
    Nk base kb A T n mv R (up H c ((H c).set i (l ++ [x]))) (up vs c ((vs c).set i (.slice (some ⟨g4, 0, none⟩) (l.length + 1) cap4))) (w'.setCell ⟨uc A c, i, none⟩ (.slice (some ⟨g4, 0, none⟩) (l.length + 1) cap4)) := by
 have Aa := h.h3.own c i l v hc hi hv
 exact ⟨(h.bx.keep (hold _ h.bx.lt (au Aa h.bx (by decide)))).keep (other_set (an h.bx (h.h3.fx c hc) (by decide))), (h.ff.keep (hold _ h.ff.lt (au Aa h.ff (by decide)))).keep (other_set (an h.ff (h.h3.fx c hc) (by decide))), h.h3.add hc hi hv hnew hold hg, h.lk, h.lf⟩
theorem Nk.start {fb s0 s1 s2 : Nat} {fa ra ba : Option Addr} {fc rc bc : Nat} (hn : T.lits = (n : Int)) (hk0 : w.heap[kb]? = some (.cells #[.int .i64 n, .slice fa T.foes.length fc, .slice ra T.rules.length rc, .slice ba T.beats.length bc, .slice (some ⟨fb, 0, none⟩) n n, .slice (some ⟨s0, 0, none⟩) n n, .slice (some ⟨s1, 0, none⟩) n n, .slice (some ⟨s2, 0, none⟩) n n, mv] 157 (0, 0))) (h0 : w.heap[fb]? = some (.cells (Array.replicate n (.bool false)) 4 (0, 0)))
    (h1 : w.heap[s0]? = some (.cells (Array.replicate n (.slice none 0 0)) 26 (0, 0))) (h2 : w.heap[s1]? = some (.cells (Array.replicate n (.slice none 0 0)) 26 (0, 0))) (h3 : w.heap[s2]? = some (.cells (Array.replicate n (.slice none 0 0)) 26 (0, 0)))
    (l0 : base ≤ kb ∧ base ≤ fb ∧ base ≤ s0 ∧ base ≤ s1 ∧ base ≤ s2) (hd : s0 ≠ s1 ∧ s0 ≠ s2 ∧ s1 ≠ s2) :
    Nk base kb ⟨fa, fc, ra, rc, ba, bc, fb, s0, s1, s2⟩ T n mv (List.replicate n false) (fun _ => List.replicate n []) (fun _ => List.replicate n (.slice none 0 0)) w := by
 have hk : Fx kb 157 (yM ⟨fa, fc, ra, rc, ba, bc, fb, s0, s1, s2⟩ T n mv) w := by
  rw [← hn] at hk0
  exact hk0
 have three : ∀ {P : Nat → Prop}, P 0 → P 1 → P 2 → ∀ c, c < 3 → P c := fun a b d c hc => by
  rcases (show c = 0 ∨ c = 1 ∨ c = 2 by omega) with rfl | rfl | rfl
  · exact a
  · exact b
  · exact d
 have f : ∀ {s : Nat}, w.heap[s]? = some (.cells (Array.replicate n (.slice none 0 0)) 26 (0, 0)) → Fx s 26 (List.replicate n (.slice none 0 0)) w := fun h => by unfold Fx; rw [h]; simp
 refine ⟨hk, by unfold Fx; rw [h0, pt], ⟨fun c _ => by simp, fun c _ => by simp, three (f h1) (f h2) (f h3), three l0.2.2.1 l0.2.2.2.1 l0.2.2.2.2, ?_, fun c i l v _ a b => ?_, fun c d i j v u g _ _ a b e => ?_⟩, l0.1, l0.2.1⟩
 · intro c d hc Ab Aa
   rcases (show c = 0 ∨ c = 1 ∨ c = 2 by omega) with rfl | rfl | rfl <;> rcases (show d = 0 ∨ d = 1 ∨ d = 2 by omega) with rfl | rfl | rfl <;> first | exact absurd rfl Aa | exact hd.1 | exact hd.2.1 | exact hd.2.2 | exact Ne.symm hd.1 | exact Ne.symm hd.2.1 | exact Ne.symm hd.2.2
 · rw [List.getElem?_replicate] at a b
   split at a
   · rename_i hi
     rw [if_pos hi] at b
     cases a
     cases b
     exact ⟨rfl, .inl ⟨rfl, rfl⟩⟩
   · cases a
 · rw [List.getElem?_replicate] at a
   split at a
   · cases a; cases e
   · cases a
end
def Kq (K : Nat) (A : Ka) (T : Th) (F : List Int) (n : Nat) (mv : Value) (w : World) : Prop := ∃ (base : Nat) (R : List Bool) (H : Nat → List (List Int)) (vs : Nat → List Value), Nk base K A T n mv R H vs w ∧ Fcs n F R ∧ Grp T kS n T.rules.length (H 0) ∧ Grp T kT n T.rules.length (H 1) ∧ Grp T kA n T.rules.length (H 2)
theorem Kq.kn {K n : Nat} {A : Ka} {T : Th} {F m : List Int} {ma : Option Addr} {mc : Nat} {w : World} (h : Kq K A T F n (.slice ma n mc) w) (hp : Pf T F n) (ht : TA w.heap.size w T A.fa A.fc A.ra A.rc A.ba A.bc) (hl : m.length = n) (hm : At1 w ma (dJ m)) : Kn K A T F n m ma mc w := by
 obtain ⟨Ac, R, H, vs, hk, hf, g0, g1, g2⟩ := h
 have Ab := hp.ok.rl
 have Aa : ∀ (c : Nat) (p : RuleM → Bool), Grp T p n T.rules.length (H c) → ∀ l ∈ H c, l.length ≤ 4096 := fun c p hg l hl => by
  obtain ⟨i, hi⟩ := List.mem_iff_getElem?.1 hl
  exact Nat.le_trans (hg.row_le hi) Ab
 refine ⟨hp, hk.bx, ht, ?_, ?_, ?_, ?_, hl, hm⟩
 · have := hk.ff
   have e : R = oQ F n := by
    apply List.ext_getElem?
    intro i
    by_cases hi : i < n
    · have h1 := hf.at_ i hi
      rw [List.getD_eq_getElem?_getD, List.getElem?_eq_getElem (by rw [hf.ln]; exact hi)] at h1
      rw [List.getElem?_eq_getElem (by rw [hf.ln]; exact hi)]
      unfold oQ
      rw [List.getElem?_map, List.getElem?_range hi]
      exact congrArg some h1
    · rw [List.getElem?_eq_none (by rw [hf.ln]; omega), List.getElem?_eq_none (by unfold oQ; simp; omega)]
   rw [e] at this
   exact this
 · have := hk.h3.lists (c := 0) (by omega) hp.n4 (Aa 0 _ g0)
   rw [g0.done] at this
   exact this
 · have := hk.h3.lists (c := 1) (by omega) hp.n4 (Aa 1 _ g1)
   rw [g1.done] at this
   exact this
 · have := hk.h3.lists (c := 2) (by omega) hp.n4 (Aa 2 _ g2)
   rw [g2.done] at this
   exact this
theorem Kq.go {K n : Nat} {A : Ka} {T : Th} {F : List Int} {mv : Value} {w w' : World} (h : Kq K A T F n mv w) (hb : Below w.heap.size w w') : Kq K A T F n mv w' := by
 obtain ⟨Aa, R, H, vs, hk, hr⟩ := h
 exact ⟨Aa, R, H, vs, hk.go hb, hr⟩
theorem Kq.set {K n : Nat} {A : Ka} {T : Th} {F : List Int} {mv : Value} {w : World} (h : Kq K A T F n mv w) (v : Value) : Kq K A T F n v (w.setCell ⟨K, 8, none⟩ v) := by
 obtain ⟨Aa, R, H, vs, hk, hr⟩ := h
 exact ⟨Aa, R, H, vs, ⟨hk.bx.set 8 v, hk.ff.keep (other_set (an hk.ff hk.bx (by decide))), hk.h3.set hk.bx (by decide) (by decide), hk.lk, hk.lf⟩, hr⟩
theorem bG (W : World) (o1 o2 o3 o4 o5 : Obj) : Below W.heap.size W (((((W.alloc o1).alloc o2).alloc o3).alloc o4).alloc o5) ∧ (((((W.alloc o1).alloc o2).alloc o3).alloc o4).alloc o5).heap[W.heap.size]? = some o1 ∧ (((((W.alloc o1).alloc o2).alloc o3).alloc o4).alloc o5).heap[W.heap.size + 1]? = some o2 ∧ (((((W.alloc o1).alloc o2).alloc o3).alloc o4).alloc o5).heap[W.heap.size + 1 + 1]? = some o3 ∧ (((((W.alloc o1).alloc o2).alloc o3).alloc o4).alloc o5).heap[W.heap.size + 1 + 1 + 1]? = some o4 ∧ (((((W.alloc o1).alloc o2).alloc o3).alloc o4).alloc o5).heap[W.heap.size + 1 + 1 + 1 + 1]? = some o5 := by
 have e1 := ae W o1
 have e2 := ae (W.alloc o1) o2
 have e3 := ae ((W.alloc o1).alloc o2) o3
 have e4 := ae (((W.alloc o1).alloc o2).alloc o3) o4
 have e5 := ae ((((W.alloc o1).alloc o2).alloc o3).alloc o4) o5
 have s1 : (W.alloc o1).heap.size = W.heap.size + 1 := by simp
 have s2 : ((W.alloc o1).alloc o2).heap.size = W.heap.size + 1 + 1 := by simp
 have s3 : (((W.alloc o1).alloc o2).alloc o3).heap.size = W.heap.size + 1 + 1 + 1 := by simp
 have s4 : ((((W.alloc o1).alloc o2).alloc o3).alloc o4).heap.size = W.heap.size + 1 + 1 + 1 + 1 := by simp
 have n1 := heap_alloc_new W o1
 have n2 := heap_alloc_new (W.alloc o1) o2
 have n3 := heap_alloc_new ((W.alloc o1).alloc o2) o3
 have n4 := heap_alloc_new (((W.alloc o1).alloc o2).alloc o3) o4
 have n5 := heap_alloc_new ((((W.alloc o1).alloc o2).alloc o3).alloc o4) o5
 rw [s1] at n2 e2
 rw [s2] at n3 e3
 rw [s3] at n4 e4
 rw [s4] at n5 e5
 refine ⟨e1.trans ((e2.mono (by omega)).trans ((e3.mono (by omega)).trans ((e4.mono (by omega)).trans (e5.mono (by omega))))), ?_, ?_, ?_, ?_, n5⟩
 · rw [e5.block _ (by omega), e4.block _ (by omega), e3.block _ (by omega), e2.block _ (by omega), n1]
 · rw [e5.block _ (by omega), e4.block _ (by omega), e3.block _ (by omega), n2]
 · rw [e5.block _ (by omega), e4.block _ (by omega), n3]
 · rw [e5.block _ (by omega), n4]
theorem qd {w : World} {T : Th} {F : List Int} {n : Nat} {fa ra ba ea ma : Option Addr} {fc rc bc ec mc : Nat} (h : TA w.heap.size w T fa fc ra rc ba bc) (hF : Ints w.heap.size w F (.slice ea F.length ec)) (hp : Pf T F n) :
    Calls Tryz.prog 98 #[tv T fa fc ra rc ba bc, .slice ea F.length ec, .slice ma n mc] w fun e w' => ∃ K A, e = .returned (aa K) ∧ Kq K A T F n (.slice ma n mc) w' ∧ (∀ w2, Below w.heap.size w w2 → TA w2.heap.size w2 T A.fa A.fc A.ra A.rc A.ba A.bc) ∧ w.heap.size ≤ K ∧ Below w.heap.size w w' := by
 obtain ⟨iI, AT, AR, AQ, AP⟩ := info_parts gE
 obtain ⟨iB, Cv, Ct, Ch, Cm⟩ := info_parts jA
 obtain ⟨iL, Cn, Cj, Cr, Cp⟩ := info_parts mY
 have CE := hp.n4
 have CC := hp.ok.rl
 have CD := hF.lim
 have BH := hide hp.ln
 have HP := hide hp
 have AS := fun W => aH (P := Tryz.prog) Tryz.underlying106 Cv Ct Ch rfl n (by rw [Cm]; omega) (by unfold maxLen; omega) W
 have Co := fun W => aH (P := Tryz.prog) Tryz.underlying22 Cn Cj Cr rfl n (by rw [Cp]; omega) (by unfold maxLen; omega) W
 have hB := ae w (.cells #[.int .i64 T.lits, .slice fa T.foes.length fc, .slice ra T.rules.length rc, .slice ba T.beats.length bc] 25)
 have hX := heap_alloc_new w (.cells #[.int .i64 T.lits, .slice fa T.foes.length fc, .slice ra T.rules.length rc, .slice ba T.beats.length bc] 25)
 have Ca := hide h
 have HF := hide hF
 have HB := hide hB
 clear h hB hF hp
 go_enter Tryz.func98, Tryz.ntmps98
 go_upto_region 1 with fail
 rw [BH.out] at hX HB
 rw [BH.out]
 have HX := hide hX
 generalize w.alloc (.cells #[.int .i64 n, .slice fa T.foes.length fc, .slice ra T.rules.length rc, .slice ba T.beats.length bc] 25) = W at *
 obtain ⟨-, c0, c1, c2, c3⟩ := Bt.of hX
 clear hX
 have HT : S4 W ⟨w.heap.size, 0, none⟩ ⟨w.heap.size, 1, none⟩ ⟨w.heap.size, 2, none⟩ ⟨w.heap.size, 3, none⟩ (.int .i64 n) (.slice fa T.foes.length fc) (.slice ra T.rules.length rc) (.slice ba T.beats.length bc) W := ⟨c0, c1, c2, c3, Below.refl _ _⟩
 go_cut [7] from 12 to 27 (fun s wc => ∃ kb fb s0 s1 s2, s = aa kb ∧ Hid (Nk W.heap.size kb ⟨fa, fc, ra, rc, ba, bc, fb, s0, s1, s2⟩ T n (.slice ma n mc) (List.replicate n false) (fun _ => List.replicate n []) (fun _ => List.replicate n (.slice none 0 0)) wc) ∧ Hid (Below W.heap.size W wc))
 case first =>
  go_region_held3 (fun X : World => S4 W ⟨w.heap.size, 0, none⟩ ⟨w.heap.size, 1, none⟩ ⟨w.heap.size, 2, none⟩ ⟨w.heap.size, 3, none⟩ (.int .i64 n) (.slice fa T.foes.length fc) (.slice ra T.rules.length rc) (.slice ba T.beats.length bc) X) (first | exact S4.drew ‹_› | assumption | exact S4.below ‹_› (ae _ _)) (fail)
  all_goals (go_wp2_with fail; go_meet)
  all_goals exact ⟨_, _, _, _, _, rfl, hide (Nk.start BH.out (bG W.drew _ _ _ _ _).2.2.2.2.2 (by first | exact (bG W.drew _ _ _ _ _).2.1 | exact (bG W.drew _ _ _ _ _).2.2.1 | exact (bG W.drew _ _ _ _ _).2.2.2.1 | exact (bG W.drew _ _ _ _ _).2.2.2.2.1) (by first | exact (bG W.drew _ _ _ _ _).2.1 | exact (bG W.drew _ _ _ _ _).2.2.1 | exact (bG W.drew _ _ _ _ _).2.2.2.1 | exact (bG W.drew _ _ _ _ _).2.2.2.2.1) (by first | exact (bG W.drew _ _ _ _ _).2.1 | exact (bG W.drew _ _ _ _ _).2.2.1 | exact (bG W.drew _ _ _ _ _).2.2.2.1 | exact (bG W.drew _ _ _ _ _).2.2.2.2.1) (by first | exact (bG W.drew _ _ _ _ _).2.1 | exact (bG W.drew _ _ _ _ _).2.2.1 | exact (bG W.drew _ _ _ _ _).2.2.2.1 | exact (bG W.drew _ _ _ _ _).2.2.2.2.1) (by refine ⟨?_, ?_, ?_, ?_, ?_⟩ <;> (show W.heap.size ≤ _; omega)) (by omega)), hide ⟨(bG W.drew _ _ _ _ _).1.os, (bG W.drew _ _ _ _ _).1.tape, (bG W.drew _ _ _ _ _).1.output, (bG W.drew _ _ _ _ _).1.size, (bG W.drew _ _ _ _ _).1.block⟩⟩
 case rest =>
  obtain ⟨kb, fb, s0, s1, s2, rfl, Ai, HBc⟩ := hcut
  clear AS Co HT c0 c1 c2 c3
  have Cw := hide ((HBc.out.block _ (aE HX.out)).trans HX.out)
  have Cg : w.heap.size < W.heap.size := aE HX.out
  go_upto_region 3 with fail
  go_loopw [30] (fun x wr => ∃ (k : Nat) (R : List Bool), k ≤ F.length ∧ x = .int .i64 k ∧ Hid (Fcs n (F.take k) R) ∧ Hid (Nk W.heap.size kb ⟨fa, fc, ra, rc, ba, bc, fb, s0, s1, s2⟩ T n (.slice ma n mc) R (fun _ => List.replicate n []) (fun _ => List.replicate n (.slice none 0 0)) wr) ∧ Hid (Below W.heap.size W wr)) (fun x _ => F.length - (intOf x).toNat)
  case atStart => exact ⟨0, _, by omega, rfl, hide (Fcs.start n), Ai, HBc⟩
  case round =>
   clear Ai HBc
   obtain ⟨k, R, hk, rfl, Bj, Ai, HBr⟩ := hrel
   by_cases hlt : k < F.length
   · obtain ⟨x, hx⟩ := am hlt
     obtain ⟨x0, x1⟩ := HP.out.fact x (List.mem_of_getElem? hx)
     obtain ⟨xm, rfl⟩ := Int.eq_ofNat_of_zero_le x0
     have Ap : xm < n := by omega
     obtain ⟨g, gg, rfl, cx⟩ := ((HF.out.at1.below HB.out).below HBr.out).get hx
     have kc := Ai.out.bx.get (i := 4) rfl
     have f0 := Ai.out.ff.get (iH (i := xm) (by rw [Bj.out.ln]; exact Ap))
     have fz := Ai.out.ff.frz xm
     have Cf : Hid (Fcs n (F.take (k + 1)) (R.set xm true)) := hide (by rw [bC hx]; exact Bj.out.add Ap)
     have BZ := hide (Ai.out.setF xm)
     have Cq := hide (HBr.out.setCell (p := ⟨fb, xm, none⟩) Ai.out.lf (.bool true))
     change Hid (Nk W.heap.size kb ⟨fa, fc, ra, rc, ba, bc, fb, s0, s1, s2⟩ T n (.slice ma n mc) (R.set xm true) (fun _ => List.replicate n []) (fun _ => List.replicate n (.slice none 0 0)) (wr.setCell ⟨fb, xm, none⟩ (.bool true))) at BZ
     clear hx Bj Ai HBr x0
     go_wp2_with fail
     go_roundw
     case rel => exact ⟨k + 1, _, by omega, by go_num, Cf, BZ, Cq⟩
     case measure => simp [intOf]; omega
   · have Cu : Hid (Fcs n F R) := hide (by have := Bj.out; rw [List.take_of_length_le (by omega)] at this; exact this)
     have BV := hide ((HBr.out.block _ Cg).trans HX.out)
     obtain ⟨-, c0, c1, c2, c3⟩ := Bt.of BV.out
     clear Bj Cw
     go_upto_region 8 with fail
     clear c0 c1 c2 c3
     go_loopw [44] (fun x wr => ∃ (k : Nat) (H : Nat → List (List Int)) (vs : Nat → List Value), k ≤ T.rules.length ∧ x = .int .i64 k ∧ Hid (Grp T kS n k (H 0)) ∧ Hid (Grp T kT n k (H 1)) ∧ Hid (Grp T kA n k (H 2)) ∧ Hid (Nk W.heap.size kb ⟨fa, fc, ra, rc, ba, bc, fb, s0, s1, s2⟩ T n (.slice ma n mc) R H vs wr) ∧ Hid (Below W.heap.size W wr)) (fun x _ => T.rules.length - (intOf x).toNat)
     case atStart => exact ⟨0, _, _, by omega, rfl, hide (Grp.start T kS n), hide (Grp.start T kT n), hide (Grp.start T kA n), Ai, HBr⟩
     case round =>
      clear Ai HBr BV hlt hk
      obtain ⟨k, H, vs, hk, rfl, Am, Ao, An, Ai, HBr⟩ := hrel
      by_cases hlt : k < T.rules.length
      · obtain ⟨r, hr⟩ := am hlt
        obtain ⟨gr, go, bd, bp, rfl, CA, x0, x1, x2, -, CB, -⟩ := dI (TR.go HBr.out (TR.go HB.out Ca.out)).rules hr
        have Bo := List.mem_of_getElem? hr
        have hh := HP.out.head r Bo
        have AJ := HP.out.ok.rule r Bo
        obtain ⟨xm, BO⟩ := Int.eq_ofNat_of_zero_le hh.1
        have Ap : xm < n := by omega
        have BK := hide BO
        have HRr := hide hr
        have hA := ae wr (.cells #[.int .i64 r.kind, .int .i64 r.head, .slice bd r.body.length bp] 114)
        have HNq := hide (Ai.out.go hA)
        have HBq := hide (HBr.out.trans (hA.mono HBr.out.size))
        have HQ : Hid (Fx wr.heap.size 114 [.int .i64 r.kind, .int .i64 r.head, .slice bd r.body.length bp] (wr.alloc (.cells #[.int .i64 r.kind, .int .i64 r.head, .slice bd r.body.length bp] 114))) := hide (heap_alloc_new wr _)
        have Ck : r.kind = 1 ∨ r.kind = 2 ∨ r.kind = 3 := by have := AJ.1; have := AJ.2.1; omega
        rw [BO] at x1 HNq HBq HQ
        clear hr Bo hA Ai HBr hh BO AJ
        obtain ⟨kd, AJ⟩ : ∃ kd, r.kind = kd := ⟨_, rfl⟩
        rw [AJ] at x0 HNq HBq HQ
        have Bv := hide AJ
        have Cs : Hid (kA r = true) := hide rfl
        clear Ck AJ
        obtain ⟨w0, Ce⟩ : ∃ w0, wr.alloc (.cells #[.int .i64 kd, .int .i64 xm, .slice bd r.body.length bp] 114) = w0 := ⟨_, rfl⟩
        go_upto_region 10 with fail
        rw [Ce] at HNq HBq HQ
        clear Ce
        generalize hq : wr.heap.size = q at *
        clear x0 x1 x2
        have z0 := HQ.out.get (i := 0) rfl
        go_upto_if 51 with fail
        clear z0
        go_cut [] from 51 to 69 (fun wx => ∃ (H' : Nat → List (List Int)) (vs' : Nat → List Value), Hid (Grp T kS n (k + 1) (H' 0)) ∧ Hid (Grp T kT n k (H' 1)) ∧ Hid (Grp T kA n k (H' 2)) ∧ Hid (Nk W.heap.size kb ⟨fa, fc, some ⟨gr, go, none⟩, rc, ba, bc, fb, s0, s1, s2⟩ T n (.slice ma n mc) R H' vs' wx) ∧ Hid (Below W.heap.size W wx) ∧ Hid (Fx q 114 [.int .i64 kd, .int .i64 xm, .slice bd r.body.length bp] wx))
        case first =>
         by_cases hk : kd = 1
         · have BL : Hid (kS r = true) := hide (by unfold kS; rw [Bv.out]; exact decide_eq_true hk)
           have hb : (kd == 1) = true := by simp [hk]
           clear hk
           have z0 := HQ.out.get (i := 0) rfl
           have Br := (Below.refl w0.heap.size w0).drew
           have HNd0 := hide (HNq.out.go Br)
           have HQd0 := hide (HQ.out.keep (Br.block _ HQ.out.lt))
           have HBd0 := hide (HBq.out.trans (Br.mono HBq.out.size))
           have BX := HNq.out.bx.get (i := 5) rfl
           have y0 := HQ.out.get (i := 1) rfl
           go_upto_region 11 with fail
           refine wp_region_held_drew (S := fun X : World => X.cell? ⟨kb, 5, none⟩ = some (.slice (some ⟨s0, 0, none⟩) n n) ∧ X.cell? ⟨q, 1, none⟩ = some (.int .i64 xm)) (by kernel_rfl) ⟨BX, y0⟩ (fun hHeld => ?_)
           clear HNq HQ HBq BX y0 Br z0
           generalize w0.drew = wd0 at *
           obtain ⟨l0, AK, AC, By, BQ, BD, AE⟩ := HNd0.out.h3.at (c := 0) (by omega) Ap
           have HG0b : Hid (Grp T kS n k (H 0)) := Am
           have Cz := HG0b.out.row_le By
           have Cd : Hid (Grp T kS n (k + 1) ((H 0).set xm (l0 ++ [(k : Int)]))) := hide (by
            have := HG0b.out.add HRr.out BL.out BK.out Ap
            rw [List.getD_eq_getElem?_getD, By] at this
            exact this)
           have Bx := ae wd0 (.cells #[.int .i64 k] 3)
           have BI : W.heap.size ≤ wd0.heap.size := HBd0.out.size
           have AV := hide (owns_keep AE fun g hg => Bx.block g (ax AE hg))
           have Bp := ar BD Bx
           have BW := hide Bx
           have AA : Hid ((wd0.alloc (.cells #[.int .i64 k] 3)).heap.size = wd0.heap.size + 1) := hide (by simp)
           have AZ : Hid (∀ j u, [Value.int .i64 k][j]? = some u → (wd0.alloc (.cells #[.int .i64 k] 3)).cell? ((⟨wd0.heap.size, 0, none⟩ : Addr).add j) = some u) := hide (World.news_of_block (cs := [Value.int .i64 k].toArray) (t := 3) (fr := (0, 0)) (heap_alloc_new wd0 (.cells #[.int .i64 k] 3)))
           have Bh := hide (au AE (HNd0.out.h3.fx 0 (by omega)) (by decide))
           have Au := hide (au AE HQd0.out (by decide))
           have AU := hide (au AE HNd0.out.bx (by decide))
           have Bf : Hid (∀ g, Value.ownBlock (.slice AK l0.length AC) = some g → W.heap.size ≤ g) := hide fun g e => (AE.lt g e).1
           have Bw := hide By
           have Aw := hide BQ
           have e0 : uc ⟨fa, fc, some ⟨gr, go, none⟩, rc, ba, bc, fb, s0, s1, s2⟩ 0 = s0 := rfl
           rw [e0] at BD Bp
           clear Bx By BQ AE e0
           refine wpAnyH_take (i := 0) (v := ?_) rfl (by kernel_rfl) (by kernel_rfl) (by kernel_rfl) (fun _ _ _ h => h) (Or.inl ⟨by rfl, ?_⟩) (by assumption) ?_
           rotate_left
           · (intro w Aa; (try dsimp only at Aa); first | (go_simp; done) | (go_simp; with_reducible rfl))
           try simp only [List.getElem_toArray, List.getElem_cons_zero, Act.put, List.setIfInBounds_toArray, List.set_cons_zero, List.set_cons_succ]
           refine wpAnyH_take (i := 1) (v := ?_) rfl (by kernel_rfl) (by kernel_rfl) (by kernel_rfl) (fun _ _ _ h => h) (Or.inl ⟨by rfl, ?_⟩) (by assumption) ?_
           rotate_left
           · (intro w Aa; (try dsimp only at Aa); first | (go_simp; done) | (go_simp; with_reducible rfl))
           try simp only [List.getElem_toArray, List.getElem_cons_zero, List.getElem_cons_succ, Act.put, List.setIfInBounds_toArray, List.set_cons_zero, List.set_cons_succ]
           refine wpAnyH_take (i := 2) (v := ?_) rfl (by kernel_rfl) (by kernel_rfl) (by kernel_rfl) (fun _ _ _ h => h) (Or.inl ⟨by rfl, ?_⟩) (by assumption) ?_
           rotate_left
           · (intro w Aa; (try dsimp only at Aa); first | (go_simp; done) | (go_simp; with_reducible rfl))
           try simp only [List.getElem_toArray, List.getElem_cons_zero, List.getElem_cons_succ, Act.put, List.setIfInBounds_toArray, List.set_cons_zero, List.set_cons_succ]
           refine wpAnyH_take (i := 3) (v := ?_) rfl (by kernel_rfl) (by kernel_rfl) (by kernel_rfl) (fun _ _ _ h => h) (Or.inl ⟨by rfl, ?_⟩) (by assumption) ?_
           rotate_left
           · (intro w Aa; (try dsimp only at Aa); first | (go_simp; done) | (go_simp; with_reducible rfl))
           try simp only [List.getElem_toArray, List.getElem_cons_zero, List.getElem_cons_succ, Act.put, List.setIfInBounds_toArray, List.set_cons_zero, List.set_cons_succ]
           refine wpAnyH_take (i := 4) (v := ?_) rfl (by kernel_rfl) (by kernel_rfl) (by kernel_rfl) (fun _ _ _ h => h) (Or.inl ⟨by rfl, ?_⟩) (by assumption) ?_
           rotate_left
           · (intro w Aa; (try dsimp only at Aa); first | (go_simp; done) | (go_simp; with_reducible rfl))
           try simp only [List.getElem_toArray, List.getElem_cons_zero, List.getElem_cons_succ, Act.put, List.setIfInBounds_toArray, List.set_cons_zero, List.set_cons_succ]
           refine wpAnyH_take (i := 5) (v := ?_) rfl (by kernel_rfl) (by kernel_rfl) (by kernel_rfl) (fun _ _ _ h => h) (Or.inl ⟨by rfl, ?_⟩) (by assumption) ?_
           rotate_left
           · (intro w Aa; (try dsimp only at Aa); first | (go_simp; done) | (go_simp; with_reducible rfl))
           try simp only [List.getElem_toArray, List.getElem_cons_zero, List.getElem_cons_succ, Act.put, List.setIfInBounds_toArray, List.set_cons_zero, List.set_cons_succ]
           refine wpAnyH_take (i := 6) (v := ?_) rfl (by kernel_rfl) (by kernel_rfl) (by kernel_rfl) (fun _ _ _ h => h) (Or.inl ⟨by rfl, ?_⟩) (by assumption) ?_
           rotate_left
           · (intro w Aa; (try dsimp only at Aa); first | (go_simp; done) | (go_simp; with_reducible rfl))
           try simp only [List.getElem_toArray, List.getElem_cons_zero, List.getElem_cons_succ, Act.put, List.setIfInBounds_toArray, List.set_cons_zero, List.set_cons_succ]
           refine wpAnyH_take (i := 7) (v := ?_) rfl (by kernel_rfl) (by kernel_rfl) (by kernel_rfl) (fun _ _ _ h => h) (Or.inl ⟨by rfl, ?_⟩) (by assumption) ?_
           rotate_left
           · (intro w Aa; (try dsimp only at Aa); first | (go_simp; done) | (go_simp; with_reducible rfl))
           try simp only [List.getElem_toArray, List.getElem_cons_zero, List.getElem_cons_succ, Act.put, List.setIfInBounds_toArray, List.set_cons_zero, List.set_cons_succ]
           refine wpAnyH_take (i := 8) (v := ?_) rfl (by kernel_rfl) (by kernel_rfl) (by kernel_rfl) (fun _ _ _ h => h) (Or.inl ⟨by rfl, ?_⟩) (by assumption) ?_
           rotate_left
           · (intro w Aa; (try dsimp only at Aa); first | (go_simp; done) | (go_simp; with_reducible rfl))
           try simp only [List.getElem_toArray, List.getElem_cons_zero, List.getElem_cons_succ, Act.put, List.setIfInBounds_toArray, List.set_cons_zero, List.set_cons_succ]
           refine wpAnyH_take (i := 9) (v := ?_) rfl (by kernel_rfl) (by kernel_rfl) (by kernel_rfl) (fun _ _ _ h => h) (Or.inl ⟨by rfl, ?_⟩) (by assumption) ?_
           rotate_left
           · (intro w Aa; (try dsimp only at Aa); first | (go_simp; done) | (go_simp; with_reducible rfl))
           try simp only [List.getElem_toArray, List.getElem_cons_zero, List.getElem_cons_succ, Act.put, List.setIfInBounds_toArray, List.set_cons_zero, List.set_cons_succ]
           refine wpAnyH_take (i := 10) (v := ?_) rfl (by kernel_rfl) (by kernel_rfl) (by kernel_rfl) (fun _ _ _ h => h) (Or.inl ⟨by rfl, ?_⟩) (by assumption) ?_
           rotate_left
           · (intro w Aa; (try dsimp only at Aa); first | (go_simp; done) | (go_simp; with_reducible rfl))
           try simp only [List.getElem_toArray, List.getElem_cons_zero, List.getElem_cons_succ, Act.put, List.setIfInBounds_toArray, List.set_cons_zero, List.set_cons_succ]
           refine wpAnyH_take (i := 11) (v := ?_) rfl (by kernel_rfl) (by kernel_rfl) (by kernel_rfl) (fun _ _ _ h => h) (Or.inl ⟨by rfl, ?_⟩) (by assumption) ?_
           rotate_left
           · (intro w Aa; (try dsimp only at Aa); first | (go_simp; done) | (go_simp; with_reducible rfl))
           try simp only [List.getElem_toArray, List.getElem_cons_zero, List.getElem_cons_succ, Act.put, List.setIfInBounds_toArray, List.set_cons_zero, List.set_cons_succ]
           refine wpAnyH_take (i := 12) (v := ?_) rfl (by kernel_rfl) (by kernel_rfl) (by kernel_rfl) (fun _ _ _ h => h) (Or.inl ⟨by rfl, ?_⟩) (by assumption) ?_
           rotate_left
           · (intro w Aa; (try dsimp only at Aa); first | (go_simp; done) | (go_simp; with_reducible rfl))
           try simp only [List.getElem_toArray, List.getElem_cons_zero, List.getElem_cons_succ, Act.put, List.setIfInBounds_toArray, List.set_cons_zero, List.set_cons_succ]
           refine wpAnyH_take (i := 14) (v := ?_) rfl (by kernel_rfl) (by kernel_rfl) (by kernel_rfl) (fun _ _ _ h => h) (Or.inl ⟨by rfl, ?_⟩) (by assumption) ?_
           rotate_left
           · (intro w Aa; (try dsimp only at Aa); first | (go_simp; done) | (go_simp; with_reducible rfl))
           try simp only [List.getElem_toArray, List.getElem_cons_zero, List.getElem_cons_succ, Act.put, List.setIfInBounds_toArray, List.set_cons_zero, List.set_cons_succ]
           refine wpAnyH_ready (rs := [13, 15]) (by kernel_rfl) (by simp) ?_
           refine AllReadyH.cons rfl (fun KK hKK => ?_) (AllReadyH.cons rfl (fun KK hKK => ?_) AllReadyH.nil)
           · skip
             go_simp
             refine hKK.out _ _ hHeld (fun hHeld2 => ?_)
             clear hKK KK hHeld
             try simp only [List.getElem_toArray, List.getElem_cons_zero, List.getElem_cons_succ, Act.put, List.setIfInBounds_toArray, List.set_cons_zero, List.set_cons_succ]
             refine wpAnyH_ready (rs := [15]) (by kernel_rfl) (by simp) ?_
             refine AllReadyH.cons rfl (fun KK hKK => ?_) AllReadyH.nil
             go_simp
             refine hKK.out _ _ ⟨ar hHeld2.1 (ae _ _), ar hHeld2.2 (ae _ _)⟩ (fun hHeld3 => ?_)
             clear hKK KK hHeld2
             try simp only [List.getElem_toArray, List.getElem_cons_zero, List.getElem_cons_succ, Act.put, List.setIfInBounds_toArray, List.set_cons_zero, List.set_cons_succ]
             refine wpAnyH_ready (rs := [16]) (by kernel_rfl) (by simp) ?_
             refine AllReadyH.cons rfl (fun KK hKK => ?_) AllReadyH.nil
             refine step_append_lies _ (by rfl) _ _ _ (by rfl) W.heap.size 3 iI _ 1 8 Tryz.underlying26 AT AR AQ AP rfl (by decide) (.slice AK l0.length AC) l0.length (aq l0) (by rfl) AV.out ⟨wd0.heap.size, 0, none⟩ 1 1 [.int .i64 k] (by rfl) rfl AZ.out (by simp [Value.oneCell']) (by decide) (by unfold maxLen; omega) (by omega) (by rw [AA.out]; omega) (wd0.heap.size + 1) AA.out ?_
             intro Aj Af v0 Aq Ab AF Bn
             have Ae : (wd0.alloc (.cells #[.int .i64 k] 3)).drew.grownBy v0 (Value.ownBlock (.slice AK l0.length AC)) := ⟨Ab.os, Ab.tape, Ab.output, Ab.size, Ab.block⟩
             have f5 := (HNd0.out.h3.fx 0 (by omega)).keep (aA Ae (HNd0.out.h3.fx 0 (by omega)).lt Bh.out)
             have q1 : v0.cell? ⟨s0, xm, none⟩ = some (.slice AK l0.length AC) := f5.get Aw.out
             have q2 : v0.frozen? ⟨s0, xm, none⟩ = false := f5.frz xm
             have q3 := (HQd0.out.keep (aA Ae HQd0.out.lt Au.out)).get (i := 1) rfl
             have q4 := (HNd0.out.bx.keep (aA Ae HNd0.out.bx.lt AU.out)).get (i := 5) rfl
             refine hKK.out _ _ ⟨q4, q3⟩ (fun hHeld4 => ?_)
             have HN0a : Hid (Nk W.heap.size kb ⟨fa, fc, some ⟨gr, go, none⟩, rc, ba, bc, fb, s0, s1, s2⟩ T n (.slice ma n mc) R (up H 0 ((H 0).set xm (l0 ++ [(k : Int)]))) (up vs 0 ((vs 0).set xm (.slice (some ⟨Aj, 0, none⟩) (l0.length + 1) Af))) (v0.setCell ⟨s0, xm, none⟩ (.slice (some ⟨Aj, 0, none⟩) (l0.length + 1) Af))) := hide (HNd0.out.add (c := 0) (by omega) Bw.out Aw.out Aq (fun k hk hn => aA Ae hk hn) (by rcases AF with h | h; exact .inl h; exact .inr (by omega)))
             have HQ : Hid (Fx q 114 _ (v0.setCell ⟨s0, xm, none⟩ (.slice (some ⟨Aj, 0, none⟩) (l0.length + 1) Af))) := hide ((HQd0.out.keep (aA Ae HQd0.out.lt Au.out)).keep (other_set (an HQd0.out (HNd0.out.h3.fx 0 (by omega)) (by decide))))
             have HBq := hide (HBd0.out.trans ((fJ Ae Bf.out BI).setCell (p := ⟨s0, xm, none⟩) (HNd0.out.h3.lo 0 (by omega)) (.slice (some ⟨Aj, 0, none⟩) (l0.length + 1) Af)))
             have q5 := HN0a.out.bx.get (i := 5) rfl
             have q6 := HQ.out.get (i := 1) rfl
             clear hKK KK f5 q3 q4 Aq Ae Ab AF Bn hHeld3
             try simp only [List.getElem_toArray, List.getElem_cons_zero, List.getElem_cons_succ, Act.put, List.setIfInBounds_toArray, List.set_cons_zero, List.set_cons_succ]
             refine wpAnyH_take (i := 17) (v := ?_) rfl (by kernel_rfl) (by kernel_rfl) (by kernel_rfl) (fun _ _ _ h => h) (Or.inl ⟨by rfl, ?_⟩) (by assumption) ?_
             rotate_left
             · (intro w Aa; (try dsimp only at Aa); first | (go_simp; done) | (go_simp; with_reducible rfl))
             try simp only [List.getElem_toArray, List.getElem_cons_zero, List.getElem_cons_succ, Act.put, List.setIfInBounds_toArray, List.set_cons_zero, List.set_cons_succ]
             refine wpAnyH_ready (rs := [18]) (by kernel_rfl) (by simp) ?_
             refine AllReadyH.cons rfl (fun KK hKK => ?_) AllReadyH.nil
             go_simp
             refine hKK.out _ _ ⟨q5, q6⟩ (fun hHeld5 => ?_)
             clear hKK KK hHeld4 hHeld5 q1 q2 q5 q6 BD Bp HNd0 HQd0 HBd0 AV AA AZ Bh Au AU Bf Bw Aw BW
             try simp only [List.getElem_toArray, List.getElem_cons_zero, List.getElem_cons_succ, Act.put, List.setIfInBounds_toArray, List.set_cons_zero, List.set_cons_succ]
             generalize v0.setCell ⟨s0, xm, none⟩ (.slice (some ⟨Aj, 0, none⟩) (l0.length + 1) Af) = x0 at *
             refine wpAnyH_done (by kernel_rfl) ?_ _
             go_wp2_with fail
             go_meet
             exact ⟨up H 0 ((H 0).set xm (l0 ++ [(k : Int)])), up vs 0 ((vs 0).set xm (.slice (some ⟨Aj, 0, none⟩) (l0.length + 1) Af)), Cd, Ao, An, HN0a, HBq, HQ⟩
           · skip
             go_simp
             refine hKK.out _ _ ⟨ar hHeld.1 (ae _ _), ar hHeld.2 (ae _ _)⟩ (fun hHeld3 => ?_)
             clear hKK KK hHeld
             try simp only [List.getElem_toArray, List.getElem_cons_zero, List.getElem_cons_succ, Act.put, List.setIfInBounds_toArray, List.set_cons_zero, List.set_cons_succ]
             refine wpAnyH_ready (rs := [13]) (by kernel_rfl) (by simp) ?_
             refine AllReadyH.cons rfl (fun KK hKK => ?_) AllReadyH.nil
             go_simp
             refine hKK.out _ _ hHeld3 (fun hHeld2 => ?_)
             clear hKK KK hHeld3
             try simp only [List.getElem_toArray, List.getElem_cons_zero, List.getElem_cons_succ, Act.put, List.setIfInBounds_toArray, List.set_cons_zero, List.set_cons_succ]
             refine wpAnyH_ready (rs := [16]) (by kernel_rfl) (by simp) ?_
             refine AllReadyH.cons rfl (fun KK hKK => ?_) AllReadyH.nil
             refine step_append_lies _ (by rfl) _ _ _ (by rfl) W.heap.size 3 iI _ 1 8 Tryz.underlying26 AT AR AQ AP rfl (by decide) (.slice AK l0.length AC) l0.length (aq l0) (by rfl) AV.out ⟨wd0.heap.size, 0, none⟩ 1 1 [.int .i64 k] (by rfl) rfl AZ.out (by simp [Value.oneCell']) (by decide) (by unfold maxLen; omega) (by omega) (by rw [AA.out]; omega) (wd0.heap.size + 1) AA.out ?_
             intro Aj Af v0 Aq Ab AF Bn
             have Ae : (wd0.alloc (.cells #[.int .i64 k] 3)).drew.grownBy v0 (Value.ownBlock (.slice AK l0.length AC)) := ⟨Ab.os, Ab.tape, Ab.output, Ab.size, Ab.block⟩
             have f5 := (HNd0.out.h3.fx 0 (by omega)).keep (aA Ae (HNd0.out.h3.fx 0 (by omega)).lt Bh.out)
             have q1 : v0.cell? ⟨s0, xm, none⟩ = some (.slice AK l0.length AC) := f5.get Aw.out
             have q2 : v0.frozen? ⟨s0, xm, none⟩ = false := f5.frz xm
             have q3 := (HQd0.out.keep (aA Ae HQd0.out.lt Au.out)).get (i := 1) rfl
             have q4 := (HNd0.out.bx.keep (aA Ae HNd0.out.bx.lt AU.out)).get (i := 5) rfl
             refine hKK.out _ _ ⟨q4, q3⟩ (fun hHeld4 => ?_)
             have HN0a : Hid (Nk W.heap.size kb ⟨fa, fc, some ⟨gr, go, none⟩, rc, ba, bc, fb, s0, s1, s2⟩ T n (.slice ma n mc) R (up H 0 ((H 0).set xm (l0 ++ [(k : Int)]))) (up vs 0 ((vs 0).set xm (.slice (some ⟨Aj, 0, none⟩) (l0.length + 1) Af))) (v0.setCell ⟨s0, xm, none⟩ (.slice (some ⟨Aj, 0, none⟩) (l0.length + 1) Af))) := hide (HNd0.out.add (c := 0) (by omega) Bw.out Aw.out Aq (fun k hk hn => aA Ae hk hn) (by rcases AF with h | h; exact .inl h; exact .inr (by omega)))
             have HQ : Hid (Fx q 114 _ (v0.setCell ⟨s0, xm, none⟩ (.slice (some ⟨Aj, 0, none⟩) (l0.length + 1) Af))) := hide ((HQd0.out.keep (aA Ae HQd0.out.lt Au.out)).keep (other_set (an HQd0.out (HNd0.out.h3.fx 0 (by omega)) (by decide))))
             have HBq := hide (HBd0.out.trans ((fJ Ae Bf.out BI).setCell (p := ⟨s0, xm, none⟩) (HNd0.out.h3.lo 0 (by omega)) (.slice (some ⟨Aj, 0, none⟩) (l0.length + 1) Af)))
             have q5 := HN0a.out.bx.get (i := 5) rfl
             have q6 := HQ.out.get (i := 1) rfl
             clear hKK KK f5 q3 q4 Aq Ae Ab AF Bn hHeld2
             try simp only [List.getElem_toArray, List.getElem_cons_zero, List.getElem_cons_succ, Act.put, List.setIfInBounds_toArray, List.set_cons_zero, List.set_cons_succ]
             refine wpAnyH_take (i := 17) (v := ?_) rfl (by kernel_rfl) (by kernel_rfl) (by kernel_rfl) (fun _ _ _ h => h) (Or.inl ⟨by rfl, ?_⟩) (by assumption) ?_
             rotate_left
             · (intro w Aa; (try dsimp only at Aa); first | (go_simp; done) | (go_simp; with_reducible rfl))
             try simp only [List.getElem_toArray, List.getElem_cons_zero, List.getElem_cons_succ, Act.put, List.setIfInBounds_toArray, List.set_cons_zero, List.set_cons_succ]
             refine wpAnyH_ready (rs := [18]) (by kernel_rfl) (by simp) ?_
             refine AllReadyH.cons rfl (fun KK hKK => ?_) AllReadyH.nil
             go_simp
             refine hKK.out _ _ ⟨q5, q6⟩ (fun hHeld5 => ?_)
             clear hKK KK hHeld4 hHeld5 q1 q2 q5 q6 BD Bp HNd0 HQd0 HBd0 AV AA AZ Bh Au AU Bf Bw Aw BW
             try simp only [List.getElem_toArray, List.getElem_cons_zero, List.getElem_cons_succ, Act.put, List.setIfInBounds_toArray, List.set_cons_zero, List.set_cons_succ]
             generalize v0.setCell ⟨s0, xm, none⟩ (.slice (some ⟨Aj, 0, none⟩) (l0.length + 1) Af) = x0 at *
             refine wpAnyH_done (by kernel_rfl) ?_ _
             go_wp2_with fail
             go_meet
             exact ⟨up H 0 ((H 0).set xm (l0 ++ [(k : Int)])), up vs 0 ((vs 0).set xm (.slice (some ⟨Aj, 0, none⟩) (l0.length + 1) Af)), Cd, Ao, An, HN0a, HBq, HQ⟩
         · have BL : Hid (kS r = false) := hide (by unfold kS; rw [Bv.out]; exact decide_eq_false hk)
           have hb : (kd == 1) = false := by simp [hk]
           clear hk
           go_wp2_with fail
           go_meet
           exact ⟨H, vs, hide (Am.out.skip HRr.out BL.out), Ao, An, HNq, HBq, HQ⟩
        case rest =>
         clear Am Ao An HNq HBq HQ
         obtain ⟨H, vs, Am, Ao, An, HNq, HBq, HQ⟩ := hcut
         rename World => w1
         have z0 := HQ.out.get (i := 0) rfl
         go_upto_if 72 with fail
         clear z0
         go_cut [] from 72 to 90 (fun wx => ∃ (H' : Nat → List (List Int)) (vs' : Nat → List Value), Hid (Grp T kS n (k + 1) (H' 0)) ∧ Hid (Grp T kT n (k + 1) (H' 1)) ∧ Hid (Grp T kA n k (H' 2)) ∧ Hid (Nk W.heap.size kb ⟨fa, fc, some ⟨gr, go, none⟩, rc, ba, bc, fb, s0, s1, s2⟩ T n (.slice ma n mc) R H' vs' wx) ∧ Hid (Below W.heap.size W wx) ∧ Hid (Fx q 114 [.int .i64 kd, .int .i64 xm, .slice bd r.body.length bp] wx))
         case first =>
          by_cases hk : kd = 3
          · have BN : Hid (kT r = false) := hide (by unfold kT; rw [Bv.out]; simp [hk])
            have hb : (kd != 3) = false := by simp [hk]
            clear hk
            go_wp2_with fail
            go_meet
            exact ⟨H, vs, Am, hide (Ao.out.skip HRr.out BN.out), An, HNq, HBq, HQ⟩
          · have BN : Hid (kT r = true) := hide (by unfold kT; rw [Bv.out]; simp [hk])
            have hb : (kd != 3) = true := by simp [hk]
            clear hk
            have z0 := HQ.out.get (i := 0) rfl
            have BC := (Below.refl w1.heap.size w1).drew
            have HNd1 := hide (HNq.out.go BC)
            have HQd1 := hide (HQ.out.keep (BC.block _ HQ.out.lt))
            have HBd1 := hide (HBq.out.trans (BC.mono HBq.out.size))
            have Cc := HNq.out.bx.get (i := 6) rfl
            have y1 := HQ.out.get (i := 1) rfl
            go_upto_region 13 with fail
            refine wp_region_held_drew (S := fun X : World => X.cell? ⟨kb, 6, none⟩ = some (.slice (some ⟨s1, 0, none⟩) n n) ∧ X.cell? ⟨q, 1, none⟩ = some (.int .i64 xm)) (by kernel_rfl) ⟨Cc, y1⟩ (fun hHeld => ?_)
            clear HNq HQ HBq Cc y1 BC z0
            generalize w1.drew = wd1 at *
            obtain ⟨l1, AL, AI, Bu, Cb, Bz, AO⟩ := HNd1.out.h3.at (c := 1) (by omega) Ap
            have HG1b : Hid (Grp T kT n k (H 1)) := Ao
            have Cy := HG1b.out.row_le Bu
            have BP : Hid (Grp T kT n (k + 1) ((H 1).set xm (l1 ++ [(k : Int)]))) := hide (by
             have := HG1b.out.add HRr.out BN.out BK.out Ap
             rw [List.getD_eq_getElem?_getD, Bu] at this
             exact this)
            have BF := ae wd1 (.cells #[.int .i64 k] 3)
            have BJ : W.heap.size ≤ wd1.heap.size := HBd1.out.size
            have Bg := hide (owns_keep AO fun g hg => BF.block g (ax AO hg))
            have Bk := ar Bz BF
            have BU := hide BF
            have Az : Hid ((wd1.alloc (.cells #[.int .i64 k] 3)).heap.size = wd1.heap.size + 1) := hide (by simp)
            have AW : Hid (∀ j u, [Value.int .i64 k][j]? = some u → (wd1.alloc (.cells #[.int .i64 k] 3)).cell? ((⟨wd1.heap.size, 0, none⟩ : Addr).add j) = some u) := hide (World.news_of_block (cs := [Value.int .i64 k].toArray) (t := 3) (fr := (0, 0)) (heap_alloc_new wd1 (.cells #[.int .i64 k] 3)))
            have Bi := hide (au AO (HNd1.out.h3.fx 1 (by omega)) (by decide))
            have AB := hide (au AO HQd1.out (by decide))
            have AY := hide (au AO HNd1.out.bx (by decide))
            have Bc : Hid (∀ g, Value.ownBlock (.slice AL l1.length AI) = some g → W.heap.size ≤ g) := hide fun g e => (AO.lt g e).1
            have BA := hide Bu
            have Ax := hide Cb
            have e1 : uc ⟨fa, fc, some ⟨gr, go, none⟩, rc, ba, bc, fb, s0, s1, s2⟩ 1 = s1 := rfl
            rw [e1] at Bz Bk
            clear BF Bu Cb AO e1
            refine wpAnyH_take (i := 0) (v := ?_) rfl (by kernel_rfl) (by kernel_rfl) (by kernel_rfl) (fun _ _ _ h => h) (Or.inl ⟨by rfl, ?_⟩) (by assumption) ?_
            rotate_left
            · (intro w Aa; (try dsimp only at Aa); first | (go_simp; done) | (go_simp; with_reducible rfl))
            try simp only [List.getElem_toArray, List.getElem_cons_zero, Act.put, List.setIfInBounds_toArray, List.set_cons_zero, List.set_cons_succ]
            refine wpAnyH_take (i := 1) (v := ?_) rfl (by kernel_rfl) (by kernel_rfl) (by kernel_rfl) (fun _ _ _ h => h) (Or.inl ⟨by rfl, ?_⟩) (by assumption) ?_
            rotate_left
            · (intro w Aa; (try dsimp only at Aa); first | (go_simp; done) | (go_simp; with_reducible rfl))
            try simp only [List.getElem_toArray, List.getElem_cons_zero, List.getElem_cons_succ, Act.put, List.setIfInBounds_toArray, List.set_cons_zero, List.set_cons_succ]
            refine wpAnyH_take (i := 2) (v := ?_) rfl (by kernel_rfl) (by kernel_rfl) (by kernel_rfl) (fun _ _ _ h => h) (Or.inl ⟨by rfl, ?_⟩) (by assumption) ?_
            rotate_left
            · (intro w Aa; (try dsimp only at Aa); first | (go_simp; done) | (go_simp; with_reducible rfl))
            try simp only [List.getElem_toArray, List.getElem_cons_zero, List.getElem_cons_succ, Act.put, List.setIfInBounds_toArray, List.set_cons_zero, List.set_cons_succ]
            refine wpAnyH_take (i := 3) (v := ?_) rfl (by kernel_rfl) (by kernel_rfl) (by kernel_rfl) (fun _ _ _ h => h) (Or.inl ⟨by rfl, ?_⟩) (by assumption) ?_
            rotate_left
            · (intro w Aa; (try dsimp only at Aa); first | (go_simp; done) | (go_simp; with_reducible rfl))
            try simp only [List.getElem_toArray, List.getElem_cons_zero, List.getElem_cons_succ, Act.put, List.setIfInBounds_toArray, List.set_cons_zero, List.set_cons_succ]
            refine wpAnyH_take (i := 4) (v := ?_) rfl (by kernel_rfl) (by kernel_rfl) (by kernel_rfl) (fun _ _ _ h => h) (Or.inl ⟨by rfl, ?_⟩) (by assumption) ?_
            rotate_left
            · (intro w Aa; (try dsimp only at Aa); first | (go_simp; done) | (go_simp; with_reducible rfl))
            try simp only [List.getElem_toArray, List.getElem_cons_zero, List.getElem_cons_succ, Act.put, List.setIfInBounds_toArray, List.set_cons_zero, List.set_cons_succ]
            refine wpAnyH_take (i := 5) (v := ?_) rfl (by kernel_rfl) (by kernel_rfl) (by kernel_rfl) (fun _ _ _ h => h) (Or.inl ⟨by rfl, ?_⟩) (by assumption) ?_
            rotate_left
            · (intro w Aa; (try dsimp only at Aa); first | (go_simp; done) | (go_simp; with_reducible rfl))
            try simp only [List.getElem_toArray, List.getElem_cons_zero, List.getElem_cons_succ, Act.put, List.setIfInBounds_toArray, List.set_cons_zero, List.set_cons_succ]
            refine wpAnyH_take (i := 6) (v := ?_) rfl (by kernel_rfl) (by kernel_rfl) (by kernel_rfl) (fun _ _ _ h => h) (Or.inl ⟨by rfl, ?_⟩) (by assumption) ?_
            rotate_left
            · (intro w Aa; (try dsimp only at Aa); first | (go_simp; done) | (go_simp; with_reducible rfl))
            try simp only [List.getElem_toArray, List.getElem_cons_zero, List.getElem_cons_succ, Act.put, List.setIfInBounds_toArray, List.set_cons_zero, List.set_cons_succ]
            refine wpAnyH_take (i := 7) (v := ?_) rfl (by kernel_rfl) (by kernel_rfl) (by kernel_rfl) (fun _ _ _ h => h) (Or.inl ⟨by rfl, ?_⟩) (by assumption) ?_
            rotate_left
            · (intro w Aa; (try dsimp only at Aa); first | (go_simp; done) | (go_simp; with_reducible rfl))
            try simp only [List.getElem_toArray, List.getElem_cons_zero, List.getElem_cons_succ, Act.put, List.setIfInBounds_toArray, List.set_cons_zero, List.set_cons_succ]
            refine wpAnyH_take (i := 8) (v := ?_) rfl (by kernel_rfl) (by kernel_rfl) (by kernel_rfl) (fun _ _ _ h => h) (Or.inl ⟨by rfl, ?_⟩) (by assumption) ?_
            rotate_left
            · (intro w Aa; (try dsimp only at Aa); first | (go_simp; done) | (go_simp; with_reducible rfl))
            try simp only [List.getElem_toArray, List.getElem_cons_zero, List.getElem_cons_succ, Act.put, List.setIfInBounds_toArray, List.set_cons_zero, List.set_cons_succ]
            refine wpAnyH_take (i := 9) (v := ?_) rfl (by kernel_rfl) (by kernel_rfl) (by kernel_rfl) (fun _ _ _ h => h) (Or.inl ⟨by rfl, ?_⟩) (by assumption) ?_
            rotate_left
            · (intro w Aa; (try dsimp only at Aa); first | (go_simp; done) | (go_simp; with_reducible rfl))
            try simp only [List.getElem_toArray, List.getElem_cons_zero, List.getElem_cons_succ, Act.put, List.setIfInBounds_toArray, List.set_cons_zero, List.set_cons_succ]
            refine wpAnyH_take (i := 10) (v := ?_) rfl (by kernel_rfl) (by kernel_rfl) (by kernel_rfl) (fun _ _ _ h => h) (Or.inl ⟨by rfl, ?_⟩) (by assumption) ?_
            rotate_left
            · (intro w Aa; (try dsimp only at Aa); first | (go_simp; done) | (go_simp; with_reducible rfl))
            try simp only [List.getElem_toArray, List.getElem_cons_zero, List.getElem_cons_succ, Act.put, List.setIfInBounds_toArray, List.set_cons_zero, List.set_cons_succ]
            refine wpAnyH_take (i := 11) (v := ?_) rfl (by kernel_rfl) (by kernel_rfl) (by kernel_rfl) (fun _ _ _ h => h) (Or.inl ⟨by rfl, ?_⟩) (by assumption) ?_
            rotate_left
            · (intro w Aa; (try dsimp only at Aa); first | (go_simp; done) | (go_simp; with_reducible rfl))
            try simp only [List.getElem_toArray, List.getElem_cons_zero, List.getElem_cons_succ, Act.put, List.setIfInBounds_toArray, List.set_cons_zero, List.set_cons_succ]
            refine wpAnyH_take (i := 12) (v := ?_) rfl (by kernel_rfl) (by kernel_rfl) (by kernel_rfl) (fun _ _ _ h => h) (Or.inl ⟨by rfl, ?_⟩) (by assumption) ?_
            rotate_left
            · (intro w Aa; (try dsimp only at Aa); first | (go_simp; done) | (go_simp; with_reducible rfl))
            try simp only [List.getElem_toArray, List.getElem_cons_zero, List.getElem_cons_succ, Act.put, List.setIfInBounds_toArray, List.set_cons_zero, List.set_cons_succ]
            refine wpAnyH_take (i := 14) (v := ?_) rfl (by kernel_rfl) (by kernel_rfl) (by kernel_rfl) (fun _ _ _ h => h) (Or.inl ⟨by rfl, ?_⟩) (by assumption) ?_
            rotate_left
            · (intro w Aa; (try dsimp only at Aa); first | (go_simp; done) | (go_simp; with_reducible rfl))
            try simp only [List.getElem_toArray, List.getElem_cons_zero, List.getElem_cons_succ, Act.put, List.setIfInBounds_toArray, List.set_cons_zero, List.set_cons_succ]
            refine wpAnyH_ready (rs := [13, 15]) (by kernel_rfl) (by simp) ?_
            refine AllReadyH.cons rfl (fun KK hKK => ?_) (AllReadyH.cons rfl (fun KK hKK => ?_) AllReadyH.nil)
            · skip
              go_simp
              refine hKK.out _ _ hHeld (fun hHeld2 => ?_)
              clear hKK KK hHeld
              try simp only [List.getElem_toArray, List.getElem_cons_zero, List.getElem_cons_succ, Act.put, List.setIfInBounds_toArray, List.set_cons_zero, List.set_cons_succ]
              refine wpAnyH_ready (rs := [15]) (by kernel_rfl) (by simp) ?_
              refine AllReadyH.cons rfl (fun KK hKK => ?_) AllReadyH.nil
              go_simp
              refine hKK.out _ _ ⟨ar hHeld2.1 (ae _ _), ar hHeld2.2 (ae _ _)⟩ (fun hHeld3 => ?_)
              clear hKK KK hHeld2
              try simp only [List.getElem_toArray, List.getElem_cons_zero, List.getElem_cons_succ, Act.put, List.setIfInBounds_toArray, List.set_cons_zero, List.set_cons_succ]
              refine wpAnyH_ready (rs := [16]) (by kernel_rfl) (by simp) ?_
              refine AllReadyH.cons rfl (fun KK hKK => ?_) AllReadyH.nil
              refine step_append_lies _ (by rfl) _ _ _ (by rfl) W.heap.size 3 iI _ 1 8 Tryz.underlying26 AT AR AQ AP rfl (by decide) (.slice AL l1.length AI) l1.length (aq l1) (by rfl) Bg.out ⟨wd1.heap.size, 0, none⟩ 1 1 [.int .i64 k] (by rfl) rfl AW.out (by simp [Value.oneCell']) (by decide) (by unfold maxLen; omega) (by omega) (by rw [Az.out]; omega) (wd1.heap.size + 1) Az.out ?_
              intro Al Ah v1 Ar Ab AD Bl
              have Ad : (wd1.alloc (.cells #[.int .i64 k] 3)).drew.grownBy v1 (Value.ownBlock (.slice AL l1.length AI)) := ⟨Ab.os, Ab.tape, Ab.output, Ab.size, Ab.block⟩
              have f5 := (HNd1.out.h3.fx 1 (by omega)).keep (aA Ad (HNd1.out.h3.fx 1 (by omega)).lt Bi.out)
              have q1 : v1.cell? ⟨s1, xm, none⟩ = some (.slice AL l1.length AI) := f5.get Ax.out
              have q2 : v1.frozen? ⟨s1, xm, none⟩ = false := f5.frz xm
              have q3 := (HQd1.out.keep (aA Ad HQd1.out.lt AB.out)).get (i := 1) rfl
              have q4 := (HNd1.out.bx.keep (aA Ad HNd1.out.bx.lt AY.out)).get (i := 6) rfl
              refine hKK.out _ _ ⟨q4, q3⟩ (fun hHeld4 => ?_)
              have HN1a : Hid (Nk W.heap.size kb ⟨fa, fc, some ⟨gr, go, none⟩, rc, ba, bc, fb, s0, s1, s2⟩ T n (.slice ma n mc) R (up H 1 ((H 1).set xm (l1 ++ [(k : Int)]))) (up vs 1 ((vs 1).set xm (.slice (some ⟨Al, 0, none⟩) (l1.length + 1) Ah))) (v1.setCell ⟨s1, xm, none⟩ (.slice (some ⟨Al, 0, none⟩) (l1.length + 1) Ah))) := hide (HNd1.out.add (c := 1) (by omega) BA.out Ax.out Ar (fun k hk hn => aA Ad hk hn) (by rcases AD with h | h; exact .inl h; exact .inr (by omega)))
              have HQ : Hid (Fx q 114 _ (v1.setCell ⟨s1, xm, none⟩ (.slice (some ⟨Al, 0, none⟩) (l1.length + 1) Ah))) := hide ((HQd1.out.keep (aA Ad HQd1.out.lt AB.out)).keep (other_set (an HQd1.out (HNd1.out.h3.fx 1 (by omega)) (by decide))))
              have HBq := hide (HBd1.out.trans ((fJ Ad Bc.out BJ).setCell (p := ⟨s1, xm, none⟩) (HNd1.out.h3.lo 1 (by omega)) (.slice (some ⟨Al, 0, none⟩) (l1.length + 1) Ah)))
              have q5 := HN1a.out.bx.get (i := 6) rfl
              have q6 := HQ.out.get (i := 1) rfl
              clear hKK KK f5 q3 q4 Ar Ad Ab AD Bl hHeld3
              try simp only [List.getElem_toArray, List.getElem_cons_zero, List.getElem_cons_succ, Act.put, List.setIfInBounds_toArray, List.set_cons_zero, List.set_cons_succ]
              refine wpAnyH_take (i := 17) (v := ?_) rfl (by kernel_rfl) (by kernel_rfl) (by kernel_rfl) (fun _ _ _ h => h) (Or.inl ⟨by rfl, ?_⟩) (by assumption) ?_
              rotate_left
              · (intro w Aa; (try dsimp only at Aa); first | (go_simp; done) | (go_simp; with_reducible rfl))
              try simp only [List.getElem_toArray, List.getElem_cons_zero, List.getElem_cons_succ, Act.put, List.setIfInBounds_toArray, List.set_cons_zero, List.set_cons_succ]
              refine wpAnyH_ready (rs := [18]) (by kernel_rfl) (by simp) ?_
              refine AllReadyH.cons rfl (fun KK hKK => ?_) AllReadyH.nil
              go_simp
              refine hKK.out _ _ ⟨q5, q6⟩ (fun hHeld5 => ?_)
              clear hKK KK hHeld4 hHeld5 q1 q2 q5 q6 Bz Bk HNd1 HQd1 HBd1 Bg Az AW Bi AB AY Bc BA Ax BU
              try simp only [List.getElem_toArray, List.getElem_cons_zero, List.getElem_cons_succ, Act.put, List.setIfInBounds_toArray, List.set_cons_zero, List.set_cons_succ]
              generalize v1.setCell ⟨s1, xm, none⟩ (.slice (some ⟨Al, 0, none⟩) (l1.length + 1) Ah) = x1 at *
              refine wpAnyH_done (by kernel_rfl) ?_ _
              go_wp2_with fail
              go_meet
              exact ⟨up H 1 ((H 1).set xm (l1 ++ [(k : Int)])), up vs 1 ((vs 1).set xm (.slice (some ⟨Al, 0, none⟩) (l1.length + 1) Ah)), Am, BP, An, HN1a, HBq, HQ⟩
            · skip
              go_simp
              refine hKK.out _ _ ⟨ar hHeld.1 (ae _ _), ar hHeld.2 (ae _ _)⟩ (fun hHeld3 => ?_)
              clear hKK KK hHeld
              try simp only [List.getElem_toArray, List.getElem_cons_zero, List.getElem_cons_succ, Act.put, List.setIfInBounds_toArray, List.set_cons_zero, List.set_cons_succ]
              refine wpAnyH_ready (rs := [13]) (by kernel_rfl) (by simp) ?_
              refine AllReadyH.cons rfl (fun KK hKK => ?_) AllReadyH.nil
              go_simp
              refine hKK.out _ _ hHeld3 (fun hHeld2 => ?_)
              clear hKK KK hHeld3
              try simp only [List.getElem_toArray, List.getElem_cons_zero, List.getElem_cons_succ, Act.put, List.setIfInBounds_toArray, List.set_cons_zero, List.set_cons_succ]
              refine wpAnyH_ready (rs := [16]) (by kernel_rfl) (by simp) ?_
              refine AllReadyH.cons rfl (fun KK hKK => ?_) AllReadyH.nil
              refine step_append_lies _ (by rfl) _ _ _ (by rfl) W.heap.size 3 iI _ 1 8 Tryz.underlying26 AT AR AQ AP rfl (by decide) (.slice AL l1.length AI) l1.length (aq l1) (by rfl) Bg.out ⟨wd1.heap.size, 0, none⟩ 1 1 [.int .i64 k] (by rfl) rfl AW.out (by simp [Value.oneCell']) (by decide) (by unfold maxLen; omega) (by omega) (by rw [Az.out]; omega) (wd1.heap.size + 1) Az.out ?_
              intro Al Ah v1 Ar Ab AD Bl
              have Ad : (wd1.alloc (.cells #[.int .i64 k] 3)).drew.grownBy v1 (Value.ownBlock (.slice AL l1.length AI)) := ⟨Ab.os, Ab.tape, Ab.output, Ab.size, Ab.block⟩
              have f5 := (HNd1.out.h3.fx 1 (by omega)).keep (aA Ad (HNd1.out.h3.fx 1 (by omega)).lt Bi.out)
              have q1 : v1.cell? ⟨s1, xm, none⟩ = some (.slice AL l1.length AI) := f5.get Ax.out
              have q2 : v1.frozen? ⟨s1, xm, none⟩ = false := f5.frz xm
              have q3 := (HQd1.out.keep (aA Ad HQd1.out.lt AB.out)).get (i := 1) rfl
              have q4 := (HNd1.out.bx.keep (aA Ad HNd1.out.bx.lt AY.out)).get (i := 6) rfl
              refine hKK.out _ _ ⟨q4, q3⟩ (fun hHeld4 => ?_)
              have HN1a : Hid (Nk W.heap.size kb ⟨fa, fc, some ⟨gr, go, none⟩, rc, ba, bc, fb, s0, s1, s2⟩ T n (.slice ma n mc) R (up H 1 ((H 1).set xm (l1 ++ [(k : Int)]))) (up vs 1 ((vs 1).set xm (.slice (some ⟨Al, 0, none⟩) (l1.length + 1) Ah))) (v1.setCell ⟨s1, xm, none⟩ (.slice (some ⟨Al, 0, none⟩) (l1.length + 1) Ah))) := hide (HNd1.out.add (c := 1) (by omega) BA.out Ax.out Ar (fun k hk hn => aA Ad hk hn) (by rcases AD with h | h; exact .inl h; exact .inr (by omega)))
              have HQ : Hid (Fx q 114 _ (v1.setCell ⟨s1, xm, none⟩ (.slice (some ⟨Al, 0, none⟩) (l1.length + 1) Ah))) := hide ((HQd1.out.keep (aA Ad HQd1.out.lt AB.out)).keep (other_set (an HQd1.out (HNd1.out.h3.fx 1 (by omega)) (by decide))))
              have HBq := hide (HBd1.out.trans ((fJ Ad Bc.out BJ).setCell (p := ⟨s1, xm, none⟩) (HNd1.out.h3.lo 1 (by omega)) (.slice (some ⟨Al, 0, none⟩) (l1.length + 1) Ah)))
              have q5 := HN1a.out.bx.get (i := 6) rfl
              have q6 := HQ.out.get (i := 1) rfl
              clear hKK KK f5 q3 q4 Ar Ad Ab AD Bl hHeld2
              try simp only [List.getElem_toArray, List.getElem_cons_zero, List.getElem_cons_succ, Act.put, List.setIfInBounds_toArray, List.set_cons_zero, List.set_cons_succ]
              refine wpAnyH_take (i := 17) (v := ?_) rfl (by kernel_rfl) (by kernel_rfl) (by kernel_rfl) (fun _ _ _ h => h) (Or.inl ⟨by rfl, ?_⟩) (by assumption) ?_
              rotate_left
              · (intro w Aa; (try dsimp only at Aa); first | (go_simp; done) | (go_simp; with_reducible rfl))
              try simp only [List.getElem_toArray, List.getElem_cons_zero, List.getElem_cons_succ, Act.put, List.setIfInBounds_toArray, List.set_cons_zero, List.set_cons_succ]
              refine wpAnyH_ready (rs := [18]) (by kernel_rfl) (by simp) ?_
              refine AllReadyH.cons rfl (fun KK hKK => ?_) AllReadyH.nil
              go_simp
              refine hKK.out _ _ ⟨q5, q6⟩ (fun hHeld5 => ?_)
              clear hKK KK hHeld4 hHeld5 q1 q2 q5 q6 Bz Bk HNd1 HQd1 HBd1 Bg Az AW Bi AB AY Bc BA Ax BU
              try simp only [List.getElem_toArray, List.getElem_cons_zero, List.getElem_cons_succ, Act.put, List.setIfInBounds_toArray, List.set_cons_zero, List.set_cons_succ]
              generalize v1.setCell ⟨s1, xm, none⟩ (.slice (some ⟨Al, 0, none⟩) (l1.length + 1) Ah) = x1 at *
              refine wpAnyH_done (by kernel_rfl) ?_ _
              go_wp2_with fail
              go_meet
              exact ⟨up H 1 ((H 1).set xm (l1 ++ [(k : Int)])), up vs 1 ((vs 1).set xm (.slice (some ⟨Al, 0, none⟩) (l1.length + 1) Ah)), Am, BP, An, HN1a, HBq, HQ⟩
         case rest =>
          clear Am Ao An HNq HBq HQ
          obtain ⟨H, vs, Am, Ao, An, HNq, HBq, HQ⟩ := hcut
          rename World => w2
          have z0 := HQ.out.get (i := 0) rfl
          have BB := (Below.refl w2.heap.size w2).drew
          have HNd2 := hide (HNq.out.go BB)
          have HQd2 := hide (HQ.out.keep (BB.block _ HQ.out.lt))
          have HBd2 := hide (HBq.out.trans (BB.mono HBq.out.size))
          have BT := HNq.out.bx.get (i := 7) rfl
          have y2 := HQ.out.get (i := 1) rfl
          go_upto_region 14 with fail
          refine wp_region_held_drew (S := fun X : World => X.cell? ⟨kb, 7, none⟩ = some (.slice (some ⟨s2, 0, none⟩) n n) ∧ X.cell? ⟨q, 1, none⟩ = some (.int .i64 xm)) (by kernel_rfl) ⟨BT, y2⟩ (fun hHeld => ?_)
          clear HNq HQ HBq BT y2 BB z0
          generalize w2.drew = wd2 at *
          obtain ⟨l2, AH, AG, AS, BS, BG, AN⟩ := HNd2.out.h3.at (c := 2) (by omega) Ap
          have HG2b : Hid (Grp T kA n k (H 2)) := An
          have Cx := HG2b.out.row_le AS
          have BR : Hid (Grp T kA n (k + 1) ((H 2).set xm (l2 ++ [(k : Int)]))) := hide (by
           have := HG2b.out.add HRr.out Cs.out BK.out Ap
           rw [List.getD_eq_getElem?_getD, AS] at this
           exact this)
          have Bs := ae wd2 (.cells #[.int .i64 k] 3)
          have BM : W.heap.size ≤ wd2.heap.size := HBd2.out.size
          have AX := hide (owns_keep AN fun g hg => Bs.block g (ax AN hg))
          have Bm := ar BG Bs
          have BY := hide Bs
          have Ay : Hid ((wd2.alloc (.cells #[.int .i64 k] 3)).heap.size = wd2.heap.size + 1) := hide (by simp)
          have Ba : Hid (∀ j u, [Value.int .i64 k][j]? = some u → (wd2.alloc (.cells #[.int .i64 k] 3)).cell? ((⟨wd2.heap.size, 0, none⟩ : Addr).add j) = some u) := hide (World.news_of_block (cs := [Value.int .i64 k].toArray) (t := 3) (fr := (0, 0)) (heap_alloc_new wd2 (.cells #[.int .i64 k] 3)))
          have Bd := hide (au AN (HNd2.out.h3.fx 2 (by omega)) (by decide))
          have At := hide (au AN HQd2.out (by decide))
          have Bb := hide (au AN HNd2.out.bx (by decide))
          have Be : Hid (∀ g, Value.ownBlock (.slice AH l2.length AG) = some g → W.heap.size ≤ g) := hide fun g e => (AN.lt g e).1
          have BE := hide AS
          have Av := hide BS
          have e2 : uc ⟨fa, fc, some ⟨gr, go, none⟩, rc, ba, bc, fb, s0, s1, s2⟩ 2 = s2 := rfl
          rw [e2] at BG Bm
          clear Bs AS BS AN e2
          refine wpAnyH_take (i := 0) (v := ?_) rfl (by kernel_rfl) (by kernel_rfl) (by kernel_rfl) (fun _ _ _ h => h) (Or.inl ⟨by rfl, ?_⟩) (by assumption) ?_
          rotate_left
          · (intro w Aa; (try dsimp only at Aa); first | (go_simp; done) | (go_simp; with_reducible rfl))
          try simp only [List.getElem_toArray, List.getElem_cons_zero, Act.put, List.setIfInBounds_toArray, List.set_cons_zero, List.set_cons_succ]
          refine wpAnyH_take (i := 1) (v := ?_) rfl (by kernel_rfl) (by kernel_rfl) (by kernel_rfl) (fun _ _ _ h => h) (Or.inl ⟨by rfl, ?_⟩) (by assumption) ?_
          rotate_left
          · (intro w Aa; (try dsimp only at Aa); first | (go_simp; done) | (go_simp; with_reducible rfl))
          try simp only [List.getElem_toArray, List.getElem_cons_zero, List.getElem_cons_succ, Act.put, List.setIfInBounds_toArray, List.set_cons_zero, List.set_cons_succ]
          refine wpAnyH_take (i := 2) (v := ?_) rfl (by kernel_rfl) (by kernel_rfl) (by kernel_rfl) (fun _ _ _ h => h) (Or.inl ⟨by rfl, ?_⟩) (by assumption) ?_
          rotate_left
          · (intro w Aa; (try dsimp only at Aa); first | (go_simp; done) | (go_simp; with_reducible rfl))
          try simp only [List.getElem_toArray, List.getElem_cons_zero, List.getElem_cons_succ, Act.put, List.setIfInBounds_toArray, List.set_cons_zero, List.set_cons_succ]
          refine wpAnyH_take (i := 3) (v := ?_) rfl (by kernel_rfl) (by kernel_rfl) (by kernel_rfl) (fun _ _ _ h => h) (Or.inl ⟨by rfl, ?_⟩) (by assumption) ?_
          rotate_left
          · (intro w Aa; (try dsimp only at Aa); first | (go_simp; done) | (go_simp; with_reducible rfl))
          try simp only [List.getElem_toArray, List.getElem_cons_zero, List.getElem_cons_succ, Act.put, List.setIfInBounds_toArray, List.set_cons_zero, List.set_cons_succ]
          refine wpAnyH_take (i := 4) (v := ?_) rfl (by kernel_rfl) (by kernel_rfl) (by kernel_rfl) (fun _ _ _ h => h) (Or.inl ⟨by rfl, ?_⟩) (by assumption) ?_
          rotate_left
          · (intro w Aa; (try dsimp only at Aa); first | (go_simp; done) | (go_simp; with_reducible rfl))
          try simp only [List.getElem_toArray, List.getElem_cons_zero, List.getElem_cons_succ, Act.put, List.setIfInBounds_toArray, List.set_cons_zero, List.set_cons_succ]
          refine wpAnyH_take (i := 5) (v := ?_) rfl (by kernel_rfl) (by kernel_rfl) (by kernel_rfl) (fun _ _ _ h => h) (Or.inl ⟨by rfl, ?_⟩) (by assumption) ?_
          rotate_left
          · (intro w Aa; (try dsimp only at Aa); first | (go_simp; done) | (go_simp; with_reducible rfl))
          try simp only [List.getElem_toArray, List.getElem_cons_zero, List.getElem_cons_succ, Act.put, List.setIfInBounds_toArray, List.set_cons_zero, List.set_cons_succ]
          refine wpAnyH_take (i := 6) (v := ?_) rfl (by kernel_rfl) (by kernel_rfl) (by kernel_rfl) (fun _ _ _ h => h) (Or.inl ⟨by rfl, ?_⟩) (by assumption) ?_
          rotate_left
          · (intro w Aa; (try dsimp only at Aa); first | (go_simp; done) | (go_simp; with_reducible rfl))
          try simp only [List.getElem_toArray, List.getElem_cons_zero, List.getElem_cons_succ, Act.put, List.setIfInBounds_toArray, List.set_cons_zero, List.set_cons_succ]
          refine wpAnyH_take (i := 7) (v := ?_) rfl (by kernel_rfl) (by kernel_rfl) (by kernel_rfl) (fun _ _ _ h => h) (Or.inl ⟨by rfl, ?_⟩) (by assumption) ?_
          rotate_left
          · (intro w Aa; (try dsimp only at Aa); first | (go_simp; done) | (go_simp; with_reducible rfl))
          try simp only [List.getElem_toArray, List.getElem_cons_zero, List.getElem_cons_succ, Act.put, List.setIfInBounds_toArray, List.set_cons_zero, List.set_cons_succ]
          refine wpAnyH_take (i := 8) (v := ?_) rfl (by kernel_rfl) (by kernel_rfl) (by kernel_rfl) (fun _ _ _ h => h) (Or.inl ⟨by rfl, ?_⟩) (by assumption) ?_
          rotate_left
          · (intro w Aa; (try dsimp only at Aa); first | (go_simp; done) | (go_simp; with_reducible rfl))
          try simp only [List.getElem_toArray, List.getElem_cons_zero, List.getElem_cons_succ, Act.put, List.setIfInBounds_toArray, List.set_cons_zero, List.set_cons_succ]
          refine wpAnyH_take (i := 9) (v := ?_) rfl (by kernel_rfl) (by kernel_rfl) (by kernel_rfl) (fun _ _ _ h => h) (Or.inl ⟨by rfl, ?_⟩) (by assumption) ?_
          rotate_left
          · (intro w Aa; (try dsimp only at Aa); first | (go_simp; done) | (go_simp; with_reducible rfl))
          try simp only [List.getElem_toArray, List.getElem_cons_zero, List.getElem_cons_succ, Act.put, List.setIfInBounds_toArray, List.set_cons_zero, List.set_cons_succ]
          refine wpAnyH_take (i := 10) (v := ?_) rfl (by kernel_rfl) (by kernel_rfl) (by kernel_rfl) (fun _ _ _ h => h) (Or.inl ⟨by rfl, ?_⟩) (by assumption) ?_
          rotate_left
          · (intro w Aa; (try dsimp only at Aa); first | (go_simp; done) | (go_simp; with_reducible rfl))
          try simp only [List.getElem_toArray, List.getElem_cons_zero, List.getElem_cons_succ, Act.put, List.setIfInBounds_toArray, List.set_cons_zero, List.set_cons_succ]
          refine wpAnyH_take (i := 11) (v := ?_) rfl (by kernel_rfl) (by kernel_rfl) (by kernel_rfl) (fun _ _ _ h => h) (Or.inl ⟨by rfl, ?_⟩) (by assumption) ?_
          rotate_left
          · (intro w Aa; (try dsimp only at Aa); first | (go_simp; done) | (go_simp; with_reducible rfl))
          try simp only [List.getElem_toArray, List.getElem_cons_zero, List.getElem_cons_succ, Act.put, List.setIfInBounds_toArray, List.set_cons_zero, List.set_cons_succ]
          refine wpAnyH_take (i := 12) (v := ?_) rfl (by kernel_rfl) (by kernel_rfl) (by kernel_rfl) (fun _ _ _ h => h) (Or.inl ⟨by rfl, ?_⟩) (by assumption) ?_
          rotate_left
          · (intro w Aa; (try dsimp only at Aa); first | (go_simp; done) | (go_simp; with_reducible rfl))
          try simp only [List.getElem_toArray, List.getElem_cons_zero, List.getElem_cons_succ, Act.put, List.setIfInBounds_toArray, List.set_cons_zero, List.set_cons_succ]
          refine wpAnyH_take (i := 14) (v := ?_) rfl (by kernel_rfl) (by kernel_rfl) (by kernel_rfl) (fun _ _ _ h => h) (Or.inl ⟨by rfl, ?_⟩) (by assumption) ?_
          rotate_left
          · (intro w Aa; (try dsimp only at Aa); first | (go_simp; done) | (go_simp; with_reducible rfl))
          try simp only [List.getElem_toArray, List.getElem_cons_zero, List.getElem_cons_succ, Act.put, List.setIfInBounds_toArray, List.set_cons_zero, List.set_cons_succ]
          refine wpAnyH_ready (rs := [13, 15]) (by kernel_rfl) (by simp) ?_
          refine AllReadyH.cons rfl (fun KK hKK => ?_) (AllReadyH.cons rfl (fun KK hKK => ?_) AllReadyH.nil)
          · skip
            go_simp
            refine hKK.out _ _ hHeld (fun hHeld2 => ?_)
            clear hKK KK hHeld
            try simp only [List.getElem_toArray, List.getElem_cons_zero, List.getElem_cons_succ, Act.put, List.setIfInBounds_toArray, List.set_cons_zero, List.set_cons_succ]
            refine wpAnyH_ready (rs := [15]) (by kernel_rfl) (by simp) ?_
            refine AllReadyH.cons rfl (fun KK hKK => ?_) AllReadyH.nil
            go_simp
            refine hKK.out _ _ ⟨ar hHeld2.1 (ae _ _), ar hHeld2.2 (ae _ _)⟩ (fun hHeld3 => ?_)
            clear hKK KK hHeld2
            try simp only [List.getElem_toArray, List.getElem_cons_zero, List.getElem_cons_succ, Act.put, List.setIfInBounds_toArray, List.set_cons_zero, List.set_cons_succ]
            refine wpAnyH_ready (rs := [16]) (by kernel_rfl) (by simp) ?_
            refine AllReadyH.cons rfl (fun KK hKK => ?_) AllReadyH.nil
            refine step_append_lies _ (by rfl) _ _ _ (by rfl) W.heap.size 3 iI _ 1 8 Tryz.underlying26 AT AR AQ AP rfl (by decide) (.slice AH l2.length AG) l2.length (aq l2) (by rfl) AX.out ⟨wd2.heap.size, 0, none⟩ 1 1 [.int .i64 k] (by rfl) rfl Ba.out (by simp [Value.oneCell']) (by decide) (by unfold maxLen; omega) (by omega) (by rw [Ay.out]; omega) (wd2.heap.size + 1) Ay.out ?_
            intro Ak Ag v2 As Ab AM Bq
            have Ac : (wd2.alloc (.cells #[.int .i64 k] 3)).drew.grownBy v2 (Value.ownBlock (.slice AH l2.length AG)) := ⟨Ab.os, Ab.tape, Ab.output, Ab.size, Ab.block⟩
            have f5 := (HNd2.out.h3.fx 2 (by omega)).keep (aA Ac (HNd2.out.h3.fx 2 (by omega)).lt Bd.out)
            have q1 : v2.cell? ⟨s2, xm, none⟩ = some (.slice AH l2.length AG) := f5.get Av.out
            have q2 : v2.frozen? ⟨s2, xm, none⟩ = false := f5.frz xm
            have q3 := (HQd2.out.keep (aA Ac HQd2.out.lt At.out)).get (i := 1) rfl
            have q4 := (HNd2.out.bx.keep (aA Ac HNd2.out.bx.lt Bb.out)).get (i := 7) rfl
            refine hKK.out _ _ ⟨q4, q3⟩ (fun hHeld4 => ?_)
            have HN2a : Hid (Nk W.heap.size kb ⟨fa, fc, some ⟨gr, go, none⟩, rc, ba, bc, fb, s0, s1, s2⟩ T n (.slice ma n mc) R (up H 2 ((H 2).set xm (l2 ++ [(k : Int)]))) (up vs 2 ((vs 2).set xm (.slice (some ⟨Ak, 0, none⟩) (l2.length + 1) Ag))) (v2.setCell ⟨s2, xm, none⟩ (.slice (some ⟨Ak, 0, none⟩) (l2.length + 1) Ag))) := hide (HNd2.out.add (c := 2) (by omega) BE.out Av.out As (fun k hk hn => aA Ac hk hn) (by rcases AM with h | h; exact .inl h; exact .inr (by omega)))
            have HQ : Hid (Fx q 114 _ (v2.setCell ⟨s2, xm, none⟩ (.slice (some ⟨Ak, 0, none⟩) (l2.length + 1) Ag))) := hide ((HQd2.out.keep (aA Ac HQd2.out.lt At.out)).keep (other_set (an HQd2.out (HNd2.out.h3.fx 2 (by omega)) (by decide))))
            have HBq := hide (HBd2.out.trans ((fJ Ac Be.out BM).setCell (p := ⟨s2, xm, none⟩) (HNd2.out.h3.lo 2 (by omega)) (.slice (some ⟨Ak, 0, none⟩) (l2.length + 1) Ag)))
            have q5 := HN2a.out.bx.get (i := 7) rfl
            have q6 := HQ.out.get (i := 1) rfl
            clear hKK KK f5 q3 q4 As Ac Ab AM Bq hHeld3
            try simp only [List.getElem_toArray, List.getElem_cons_zero, List.getElem_cons_succ, Act.put, List.setIfInBounds_toArray, List.set_cons_zero, List.set_cons_succ]
            refine wpAnyH_take (i := 17) (v := ?_) rfl (by kernel_rfl) (by kernel_rfl) (by kernel_rfl) (fun _ _ _ h => h) (Or.inl ⟨by rfl, ?_⟩) (by assumption) ?_
            rotate_left
            · (intro w Aa; (try dsimp only at Aa); first | (go_simp; done) | (go_simp; with_reducible rfl))
            try simp only [List.getElem_toArray, List.getElem_cons_zero, List.getElem_cons_succ, Act.put, List.setIfInBounds_toArray, List.set_cons_zero, List.set_cons_succ]
            refine wpAnyH_ready (rs := [18]) (by kernel_rfl) (by simp) ?_
            refine AllReadyH.cons rfl (fun KK hKK => ?_) AllReadyH.nil
            go_simp
            refine hKK.out _ _ ⟨q5, q6⟩ (fun hHeld5 => ?_)
            clear hKK KK hHeld4 hHeld5 q1 q2 q5 q6 BG Bm HNd2 HQd2 HBd2 AX Ay Ba Bd At Bb Be BE Av BY
            try simp only [List.getElem_toArray, List.getElem_cons_zero, List.getElem_cons_succ, Act.put, List.setIfInBounds_toArray, List.set_cons_zero, List.set_cons_succ]
            generalize v2.setCell ⟨s2, xm, none⟩ (.slice (some ⟨Ak, 0, none⟩) (l2.length + 1) Ag) = x2 at *
            refine wpAnyH_done (by kernel_rfl) ?_ _
            go_wp2_with fail
            go_roundw
            case rel => exact ⟨k + 1, up H 2 ((H 2).set xm (l2 ++ [(k : Int)])), up vs 2 ((vs 2).set xm (.slice (some ⟨Ak, 0, none⟩) (l2.length + 1) Ag)), by omega, by go_num, Am, Ao, BR, HN2a, HBq⟩
            case measure => simp [intOf]; omega
          · skip
            go_simp
            refine hKK.out _ _ ⟨ar hHeld.1 (ae _ _), ar hHeld.2 (ae _ _)⟩ (fun hHeld3 => ?_)
            clear hKK KK hHeld
            try simp only [List.getElem_toArray, List.getElem_cons_zero, List.getElem_cons_succ, Act.put, List.setIfInBounds_toArray, List.set_cons_zero, List.set_cons_succ]
            refine wpAnyH_ready (rs := [13]) (by kernel_rfl) (by simp) ?_
            refine AllReadyH.cons rfl (fun KK hKK => ?_) AllReadyH.nil
            go_simp
            refine hKK.out _ _ hHeld3 (fun hHeld2 => ?_)
            clear hKK KK hHeld3
            try simp only [List.getElem_toArray, List.getElem_cons_zero, List.getElem_cons_succ, Act.put, List.setIfInBounds_toArray, List.set_cons_zero, List.set_cons_succ]
            refine wpAnyH_ready (rs := [16]) (by kernel_rfl) (by simp) ?_
            refine AllReadyH.cons rfl (fun KK hKK => ?_) AllReadyH.nil
            refine step_append_lies _ (by rfl) _ _ _ (by rfl) W.heap.size 3 iI _ 1 8 Tryz.underlying26 AT AR AQ AP rfl (by decide) (.slice AH l2.length AG) l2.length (aq l2) (by rfl) AX.out ⟨wd2.heap.size, 0, none⟩ 1 1 [.int .i64 k] (by rfl) rfl Ba.out (by simp [Value.oneCell']) (by decide) (by unfold maxLen; omega) (by omega) (by rw [Ay.out]; omega) (wd2.heap.size + 1) Ay.out ?_
            intro Ak Ag v2 As Ab AM Bq
            have Ac : (wd2.alloc (.cells #[.int .i64 k] 3)).drew.grownBy v2 (Value.ownBlock (.slice AH l2.length AG)) := ⟨Ab.os, Ab.tape, Ab.output, Ab.size, Ab.block⟩
            have f5 := (HNd2.out.h3.fx 2 (by omega)).keep (aA Ac (HNd2.out.h3.fx 2 (by omega)).lt Bd.out)
            have q1 : v2.cell? ⟨s2, xm, none⟩ = some (.slice AH l2.length AG) := f5.get Av.out
            have q2 : v2.frozen? ⟨s2, xm, none⟩ = false := f5.frz xm
            have q3 := (HQd2.out.keep (aA Ac HQd2.out.lt At.out)).get (i := 1) rfl
            have q4 := (HNd2.out.bx.keep (aA Ac HNd2.out.bx.lt Bb.out)).get (i := 7) rfl
            refine hKK.out _ _ ⟨q4, q3⟩ (fun hHeld4 => ?_)
            have HN2a : Hid (Nk W.heap.size kb ⟨fa, fc, some ⟨gr, go, none⟩, rc, ba, bc, fb, s0, s1, s2⟩ T n (.slice ma n mc) R (up H 2 ((H 2).set xm (l2 ++ [(k : Int)]))) (up vs 2 ((vs 2).set xm (.slice (some ⟨Ak, 0, none⟩) (l2.length + 1) Ag))) (v2.setCell ⟨s2, xm, none⟩ (.slice (some ⟨Ak, 0, none⟩) (l2.length + 1) Ag))) := hide (HNd2.out.add (c := 2) (by omega) BE.out Av.out As (fun k hk hn => aA Ac hk hn) (by rcases AM with h | h; exact .inl h; exact .inr (by omega)))
            have HQ : Hid (Fx q 114 _ (v2.setCell ⟨s2, xm, none⟩ (.slice (some ⟨Ak, 0, none⟩) (l2.length + 1) Ag))) := hide ((HQd2.out.keep (aA Ac HQd2.out.lt At.out)).keep (other_set (an HQd2.out (HNd2.out.h3.fx 2 (by omega)) (by decide))))
            have HBq := hide (HBd2.out.trans ((fJ Ac Be.out BM).setCell (p := ⟨s2, xm, none⟩) (HNd2.out.h3.lo 2 (by omega)) (.slice (some ⟨Ak, 0, none⟩) (l2.length + 1) Ag)))
            have q5 := HN2a.out.bx.get (i := 7) rfl
            have q6 := HQ.out.get (i := 1) rfl
            clear hKK KK f5 q3 q4 As Ac Ab AM Bq hHeld2
            try simp only [List.getElem_toArray, List.getElem_cons_zero, List.getElem_cons_succ, Act.put, List.setIfInBounds_toArray, List.set_cons_zero, List.set_cons_succ]
            refine wpAnyH_take (i := 17) (v := ?_) rfl (by kernel_rfl) (by kernel_rfl) (by kernel_rfl) (fun _ _ _ h => h) (Or.inl ⟨by rfl, ?_⟩) (by assumption) ?_
            rotate_left
            · (intro w Aa; (try dsimp only at Aa); first | (go_simp; done) | (go_simp; with_reducible rfl))
            try simp only [List.getElem_toArray, List.getElem_cons_zero, List.getElem_cons_succ, Act.put, List.setIfInBounds_toArray, List.set_cons_zero, List.set_cons_succ]
            refine wpAnyH_ready (rs := [18]) (by kernel_rfl) (by simp) ?_
            refine AllReadyH.cons rfl (fun KK hKK => ?_) AllReadyH.nil
            go_simp
            refine hKK.out _ _ ⟨q5, q6⟩ (fun hHeld5 => ?_)
            clear hKK KK hHeld4 hHeld5 q1 q2 q5 q6 BG Bm HNd2 HQd2 HBd2 AX Ay Ba Bd At Bb Be BE Av BY
            try simp only [List.getElem_toArray, List.getElem_cons_zero, List.getElem_cons_succ, Act.put, List.setIfInBounds_toArray, List.set_cons_zero, List.set_cons_succ]
            generalize v2.setCell ⟨s2, xm, none⟩ (.slice (some ⟨Ak, 0, none⟩) (l2.length + 1) Ag) = x2 at *
            refine wpAnyH_done (by kernel_rfl) ?_ _
            go_wp2_with fail
            go_roundw
            case rel => exact ⟨k + 1, up H 2 ((H 2).set xm (l2 ++ [(k : Int)])), up vs 2 ((vs 2).set xm (.slice (some ⟨Ak, 0, none⟩) (l2.length + 1) Ag)), by omega, by go_num, Am, Ao, BR, HN2a, HBq⟩
            case measure => simp [intOf]; omega
      · have HE : Hid (k = T.rules.length) := hide (by omega)
        go_wp2_with fail
        go_ret
        have Ci := HE.out
        have g0 := Am.out
        have g1 := Ao.out
        have g2 := An.out
        rw [Ci] at g0 g1 g2
        have Cl := HB.out.trans (HBr.out.mono HB.out.size)
        exact ⟨kb, _, rfl, ⟨_, _, _, _, Ai.out, Cu.out, g0, g1, g2⟩, fun w2 h2 => TR.go h2 Ca.out, Nat.le_trans HB.out.size Ai.out.lk, Cl⟩
end Go.Proofs.YtmlhcncagdfjfaaGreat
