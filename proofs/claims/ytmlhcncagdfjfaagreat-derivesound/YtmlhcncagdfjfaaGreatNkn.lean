import Derived.Test.YtmlhcncagdfjfaaGreatKr
import Derived.Deep.RegionLaw
import Derived.Deep.CutRange
set_option maxRecDepth 100000
set_option maxHeartbeats 12800000
namespace Go.Proofs.YtmlhcncagdfjfaaGreat
open Go.RowKit
def up {α : Type} (f : Nat → α) (c : Nat) (y : α) : Nat → α := fun d => if d = c then y else f d
theorem bZ {α : Type} {f : Nat → α} {c : Nat} {y : α} : up f c y c = y := if_pos rfl
theorem bw {α : Type} {f : Nat → α} {c d : Nat} {y : α} (h : d ≠ c) : up f c y d = f d := if_neg h
structure H3 (base : Nat) (sb : Nat → Nat) (n : Nat) (H : Nat → List (List Int)) (vs : Nat → List Value) (w : World) : Prop where
 ln : ∀ c, c < 3 → (H c).length = n
 vl : ∀ c, c < 3 → (vs c).length = n
 fx : ∀ c, c < 3 → Fx (sb c) 26 (vs c) w
 lo : ∀ c, c < 3 → base ≤ sb c
 ne : ∀ c d, c < 3 → d < 3 → c ≠ d → sb c ≠ sb d
 own : ∀ c (i : Nat) l v, c < 3 → (H c)[i]? = some l → (vs c)[i]? = some v → w.ownsRow base 3 1 v l.length (aq l)
 apart : ∀ c d (i j : Nat) v u g, c < 3 → d < 3 → (vs c)[i]? = some v → (vs d)[j]? = some u → v.ownBlock = some g → u.ownBlock = some g → c = d ∧ i = j
section
variable {base n : Nat} {sb : Nat → Nat} {H : Nat → List (List Int)} {vs : Nat → List Value} {w w' : World}
theorem H3.go (h : H3 base sb n H vs w) (hb : Below w.heap.size w w') : H3 base sb n H vs w' :=
 ⟨h.ln, h.vl, fun c hc => (h.fx c hc).keep (hb.block _ (h.fx c hc).lt), h.lo, h.ne, fun c i l v hc h1 h2 => owns_keep (h.own c i l v hc h1 h2) fun g hg => hb.block g (ax (h.own c i l v hc h1 h2) hg), h.apart⟩
theorem H3.set (h : H3 base sb n H vs w) {g T i : Nat} {cs : List Value} {v : Value} (hg : Fx g T cs w) (h1 : T ≠ 26) (h2 : T ≠ 3) : H3 base sb n H vs (w.setCell ⟨g, i, none⟩ v) :=
 ⟨h.ln, h.vl, fun c hc => (h.fx c hc).keep (other_set (an (h.fx c hc) hg (Ne.symm h1))), h.lo, h.ne, fun c i l v hc a b => owns_keep (h.own c i l v hc a b) fun _ hk => other_set fun e => au (h.own c i l v hc a b) hg (Ne.symm h2) (e ▸ hk), h.apart⟩
theorem H3.at (h : H3 base sb n H vs w) {c i : Nat} (hc : c < 3) (hi : i < n) : ∃ l a k, (H c)[i]? = some l ∧ (vs c)[i]? = some (.slice a l.length k) ∧ w.cell? ⟨sb c, i, none⟩ = some (.slice a l.length k) ∧ w.ownsRow base 3 1 (.slice a l.length k) l.length (aq l) := by
 obtain ⟨l, h1⟩ := am (l := H c) (i := i) (by rw [h.ln c hc]; exact hi)
 obtain ⟨v, h2⟩ := am (l := vs c) (i := i) (by rw [h.vl c hc]; exact hi)
 have ho := h.own c i _ _ hc h1 h2
 obtain ⟨a, k, e⟩ := bf ho
 rw [e] at ho h2
 exact ⟨l, a, k, h1, h2, (h.fx c hc).get h2, ho⟩
theorem H3.add (h : H3 base sb n H vs w) {c i : Nat} (hc : c < 3) {l : List Int} {v : Value} (hi : (H c)[i]? = some l) (hv : (vs c)[i]? = some v) {x : Int} {g4 cap4 : Nat} (hnew : w'.ownsRow base 3 1 (.slice (some ⟨g4, 0, none⟩) (l.length + 1) cap4) (l.length + 1) (aq l ++ [.int .i64 x]))
    (hold : ∀ k, k < w.heap.size → v.ownBlock ≠ some k → w'.heap[k]? = w.heap[k]?) (hg : v.ownBlock = some g4 ∨ w.heap.size ≤ g4) :
    H3 base sb n (up H c ((H c).set i (l ++ [x]))) (up vs c ((vs c).set i (.slice (some ⟨g4, 0, none⟩) (l.length + 1) cap4))) (w'.setCell ⟨sb c, i, none⟩ (.slice (some ⟨g4, 0, none⟩) (l.length + 1) cap4)) := by
 have Ae := h.own c i l v hc hi hv
 have Ac : i < n := by rw [← h.ln c hc]; exact (List.getElem?_eq_some_iff.1 hi).1
 have Ad : ∀ d, d < 3 → Fx (sb d) 26 (vs d) w' := fun d hd => (h.fx d hd).keep (hold _ (h.fx d hd).lt (au Ae (h.fx d hd) (by decide)))
 have key : ∀ (d j : Nat) (u : Value) (q : Nat), d < 3 → ¬ (d = c ∧ j = i) → (vs d)[j]? = some u → u.ownBlock = some q → q ≠ g4 := by
  intro d j u q hd Ab hu hq e
  subst e
  have hm : j < (H d).length := by rw [h.ln d hd, ← h.vl d hd]; exact (List.getElem?_eq_some_iff.1 hu).1
  have ho := h.own d j _ u hd (List.getElem?_eq_getElem hm) hu
  rcases hg with hg | hg
  ·exact Ab (h.apart d c j i u v _ hd hc hu hv hq hg)
  have := ax ho hq; omega
 refine ⟨fun d hd => ?_, fun d hd => ?_, fun d hd => ?_, h.lo, h.ne, fun d j l2 u hd h1 h2 => ?_, fun d e j k a b g hd he h1 h2 h3 h4 => ?_⟩
 ·by_cases e : d = c
  ·subst e; rw [bZ, List.length_set]; exact h.ln d hd
  rw [bw e]; exact h.ln d hd
 ·by_cases e : d = c
  ·subst e; rw [bZ, List.length_set]; exact h.vl d hd
  rw [bw e]; exact h.vl d hd
 ·by_cases e : d = c
  ·subst e; rw [bZ]; exact (Ad d hd).set i _
  rw [bw e]; exact (Ad d hd).keep (other_set (h.ne d c hd hc e))
 ·have old : ∀ (Ab : ¬ (d = c ∧ j = i)), (H d)[j]? = some l2 → (vs d)[j]? = some u → (w'.setCell ⟨sb c, i, none⟩ (.slice (some ⟨g4, 0, none⟩) (l.length + 1) cap4)).ownsRow base 3 1 u l2.length (aq l2) := fun Ab a b => by
   have ho := h.own d j l2 u hd a b
   refine owns_keep ho fun g hgu => ?_
   rw [other_set fun (e2 : g = sb c) => au ho (h.fx c hc) (by decide) (e2 ▸ hgu)]
   exact hold g (ax ho hgu) fun e2 => Ab (h.apart d c j i u v g hd hc b hv hgu e2)
  by_cases e : d = c
  ·subst e
   rw [bZ] at h1 h2
   by_cases e2 : i = j
   ·subst e2
    rw [List.getElem?_set_self (by rw [h.ln d hd]; exact Ac)] at h1
    rw [List.getElem?_set_self (by rw [h.vl d hd]; exact Ac)] at h2
    cases h1
    cases h2
    rw [List.length_append, cX]
    exact owns_keep hnew fun g e => other_set fun e2 => au hnew (Ad d hd) (by decide) (e2 ▸ e)
   rw [List.getElem?_set_ne e2] at h1 h2
   exact old (fun x => e2 x.2.symm) h1 h2
  rw [bw e] at h1 h2
  exact old (fun x => e x.1) h1 h2
 have Aa : ∀ (d j : Nat) (a : Value), (up vs c ((vs c).set i (.slice (some ⟨g4, 0, none⟩) (l.length + 1) cap4)) d)[j]? = some a → (d = c ∧ j = i ∧ a = .slice (some ⟨g4, 0, none⟩) (l.length + 1) cap4) ∨ (¬ (d = c ∧ j = i) ∧ (vs d)[j]? = some a) := by
  intro d j a ha
  by_cases e1 : d = c
  ·subst e1
   rw [bZ] at ha
   by_cases e2 : i = j
   ·subst e2
    rw [List.getElem?_set_self (by rw [h.vl d hc]; exact Ac)] at ha
    exact .inl ⟨rfl, rfl, by cases ha; rfl⟩
   rw [List.getElem?_set_ne e2] at ha
   exact .inr ⟨fun x => e2 x.2.symm, ha⟩
  rw [bw e1] at ha
  exact .inr ⟨fun x => e1 x.1, ha⟩
 rcases Aa d j a h1 with ⟨a1, a2, a3⟩ | ⟨a1, a2⟩
 ·rcases Aa e k b h2 with ⟨b1, b2, b3⟩ | ⟨b1, b2⟩
  ·exact ⟨a1.trans b1.symm, a2.trans b2.symm⟩
  subst a3
  have : g4 = g := by simpa [Value.ownBlock] using h3
  exact absurd this.symm (key e k b g he b1 b2 h4)
 rcases Aa e k b h2 with ⟨b1, b2, b3⟩ | ⟨b1, b2⟩
 ·subst b3
  have : g4 = g := by simpa [Value.ownBlock] using h4
  exact absurd this.symm (key d j a g hd a1 a2 h3)
 exact h.apart d e j k a b g hd he a2 b2 h3 h4
theorem H3.lists (h : H3 base sb n H vs w) {c : Nat} (hc : c < 3) (hn : n ≤ 4096) (hl : ∀ l ∈ H c, l.length ≤ 4096) : Lists w.heap.size w (H c) (.slice (some ⟨sb c, 0, none⟩) n n) := by
 refine ⟨_, n, by rw [h.ln c hc], by rw [h.ln c hc]; omega, by rw [h.ln c hc]; omega, fun i x hi => ?_⟩
 have Ac : i < n := by rw [← h.ln c hc]; exact (List.getElem?_eq_some_iff.1 hi).1
 obtain ⟨l, a, k, h1, h2, h3, h4⟩ := h.at hc Ac
 rw [hi] at h1
 cases h1
 refine ⟨sb c, 0, [.slice a x.length k], rfl, (h.fx c hc).lt, rfl, fun j u hu => ?_, _, rfl, a, k, rfl, ?_, ?_, fun j y hj => ?_⟩
 ·cases j with
  | zero =>
   simp at hu
   subst hu
   rw [Nat.zero_add, Nat.mul_one]
   exact h3
  | succ j => simp at hu
 ·rcases h4.2 with ⟨_, e⟩ | ⟨g, cap, Ad, e, _, _, Ab, _⟩
  ·omega
  cases e; exact Ab
 ·have := hl x (List.mem_of_getElem? hi); omega
 obtain ⟨g, cap, e, Aa, -, -⟩ := ie (aI h4 (Nat.zero_le _)) (x := .int .i64 y) (i := j) (by unfold aq; rw [List.getElem?_map, hj]; rfl)
 cases e
 refine ⟨g, 0, [.int .i64 y], rfl, ax h4 rfl, rfl, fun j2 u hu => ?_, rfl⟩
 cases j2 with
 | zero =>
  simp at hu
  subst hu
  rw [Nat.zero_add, Nat.mul_one]
  exact Aa
 | succ j2 => simp at hu
end
def uC (A : Ka) (c : Nat) : Nat := if c = 0 then A.s0 else if c = 1 then A.s1 else A.s2
structure Nk (base kb : Nat) (A : Ka) (T : Th) (n : Nat) (mv : Value) (R : List Bool) (H : Nat → List (List Int)) (vs : Nat → List Value) (w : World) : Prop where
 bx : Fx kb 157 (yI A T n mv) w
 ff : Fx A.fb 4 (ew R) w
 h3 : H3 base (uC A) n H vs w
 lk : base ≤ kb
 lf : base ≤ A.fb
section
variable {base kb n : Nat} {A : Ka} {T : Th} {mv : Value} {R : List Bool} {H : Nat → List (List Int)} {vs : Nat → List Value} {w w' : World}
theorem Nk.go (h : Nk base kb A T n mv R H vs w) (hb : Below w.heap.size w w') : Nk base kb A T n mv R H vs w' := ⟨h.bx.keep (hb.block _ h.bx.lt), h.ff.keep (hb.block _ h.ff.lt), h.h3.go hb, h.lk, h.lf⟩
theorem Nk.setF (h : Nk base kb A T n mv R H vs w) (i : Nat) : Nk base kb A T n mv (R.set i true) H vs (w.setCell ⟨A.fb, i, none⟩ (.bool true)) :=
 ⟨h.bx.keep (other_set (an h.bx h.ff (by decide))), by have := h.ff.set i (.bool true); rw [pj] at this; exact this, h.h3.set h.ff (by decide) (by decide), h.lk, h.lf⟩
theorem Nk.add (h : Nk base kb A T n mv R H vs w) {c i : Nat} (hc : c < 3) {l : List Int} {v : Value} (hi : (H c)[i]? = some l) (hv : (vs c)[i]? = some v) {x : Int} {g4 cap4 : Nat} (hnew : w'.ownsRow base 3 1 (.slice (some ⟨g4, 0, none⟩) (l.length + 1) cap4) (l.length + 1) (aq l ++ [.int .i64 x]))
    (hold : ∀ k, k < w.heap.size → v.ownBlock ≠ some k → w'.heap[k]? = w.heap[k]?) (hg : v.ownBlock = some g4 ∨ w.heap.size ≤ g4) :
    Nk base kb A T n mv R (up H c ((H c).set i (l ++ [x]))) (up vs c ((vs c).set i (.slice (some ⟨g4, 0, none⟩) (l.length + 1) cap4))) (w'.setCell ⟨uC A c, i, none⟩ (.slice (some ⟨g4, 0, none⟩) (l.length + 1) cap4)) := by
 have Aa := h.h3.own c i l v hc hi hv
 exact ⟨(h.bx.keep (hold _ h.bx.lt (au Aa h.bx (by decide)))).keep (other_set (an h.bx (h.h3.fx c hc) (by decide))), (h.ff.keep (hold _ h.ff.lt (au Aa h.ff (by decide)))).keep (other_set (an h.ff (h.h3.fx c hc) (by decide))), h.h3.add hc hi hv hnew hold hg, h.lk, h.lf⟩
theorem Nk.start {fb s0 s1 s2 : Nat} {fa ra ba : Option Addr} {fc rc bc : Nat} (hn : T.lits = (n : Int)) (hk0 : w.heap[kb]? = some (.cells #[.int .i64 n, .slice fa T.foes.length fc, .slice ra T.rules.length rc, .slice ba T.beats.length bc, .slice (some ⟨fb, 0, none⟩) n n, .slice (some ⟨s0, 0, none⟩) n n, .slice (some ⟨s1, 0, none⟩) n n, .slice (some ⟨s2, 0, none⟩) n n, mv] 157 (0, 0))) (h0 : w.heap[fb]? = some (.cells (Array.replicate n (.bool false)) 4 (0, 0)))
    (h1 : w.heap[s0]? = some (.cells (Array.replicate n (.slice none 0 0)) 26 (0, 0))) (h2 : w.heap[s1]? = some (.cells (Array.replicate n (.slice none 0 0)) 26 (0, 0))) (h3 : w.heap[s2]? = some (.cells (Array.replicate n (.slice none 0 0)) 26 (0, 0)))
    (l0 : base ≤ kb ∧ base ≤ fb ∧ base ≤ s0 ∧ base ≤ s1 ∧ base ≤ s2) (hd : s0 ≠ s1 ∧ s0 ≠ s2 ∧ s1 ≠ s2) :
    Nk base kb ⟨fa, fc, ra, rc, ba, bc, fb, s0, s1, s2⟩ T n mv (List.replicate n false) (fun _ => List.replicate n []) (fun _ => List.replicate n (.slice none 0 0)) w := by
 have hk : Fx kb 157 (yI ⟨fa, fc, ra, rc, ba, bc, fb, s0, s1, s2⟩ T n mv) w := by
  rw [← hn] at hk0
  exact hk0
 have three : ∀ {P : Nat → Prop}, P 0 → P 1 → P 2 → ∀ c, c < 3 → P c := fun a b d c hc => by
  rcases (show c = 0 ∨ c = 1 ∨ c = 2 by omega) with rfl | rfl | rfl
  ·exact a
  ·exact b
  exact d
 have f : ∀ {s : Nat}, w.heap[s]? = some (.cells (Array.replicate n (.slice none 0 0)) 26 (0, 0)) → Fx s 26 (List.replicate n (.slice none 0 0)) w := fun h => by unfold Fx; rw [h]; simp
 refine ⟨hk, by unfold Fx; rw [h0, pv], ⟨fun c _ => by simp, fun c _ => by simp, three (f h1) (f h2) (f h3), three l0.2.2.1 l0.2.2.2.1 l0.2.2.2.2, ?_, fun c i l v _ a b => ?_, fun c d i j v u g _ _ a b e => ?_⟩, l0.1, l0.2.1⟩
 ·intro c d hc Ab Aa
  rcases (show c = 0 ∨ c = 1 ∨ c = 2 by omega) with rfl | rfl | rfl <;> rcases (show d = 0 ∨ d = 1 ∨ d = 2 by omega) with rfl | rfl | rfl <;> first | exact absurd rfl Aa | exact hd.1 | exact hd.2.1 | exact hd.2.2 | exact Ne.symm hd.1 | exact Ne.symm hd.2.1 | exact Ne.symm hd.2.2
 ·rw [List.getElem?_replicate] at a b
  split at a
  ·rename_i hi
   rw [if_pos hi] at b
   cases a
   cases b
   exact ⟨rfl, .inl ⟨rfl, rfl⟩⟩
  cases a
 rw [List.getElem?_replicate] at a
 split at a
 ·cases a; cases e
 cases a
end
def Kq (K : Nat) (A : Ka) (T : Th) (F : List Int) (n : Nat) (mv : Value) (w : World) : Prop := ∃ (base : Nat) (R : List Bool) (H : Nat → List (List Int)) (vs : Nat → List Value), Nk base K A T n mv R H vs w ∧ Fcs n F R ∧ Grp T kS n T.rules.length (H 0) ∧ Grp T kT n T.rules.length (H 1) ∧ Grp T kA n T.rules.length (H 2)
theorem Kq.kn {K n : Nat} {A : Ka} {T : Th} {F m : List Int} {ma : Option Addr} {mc : Nat} {w : World} (h : Kq K A T F n (.slice ma n mc) w) (hp : Pf T F n) (ht : TA w.heap.size w T A.fa A.fc A.ra A.rc A.ba A.bc) (hl : m.length = n) (hm : At1 w ma (dJ m)) : Kn K A T F n m ma mc w := by
 obtain ⟨Ac, R, H, vs, hk, hf, g0, g1, g2⟩ := h
 have Ab := hp.ok.rl
 have Aa : ∀ (c : Nat) (p : RuleM → Bool), Grp T p n T.rules.length (H c) → ∀ l ∈ H c, l.length ≤ 4096 := fun c p hg l hl => by
  obtain ⟨i, hi⟩ := List.mem_iff_getElem?.1 hl
  exact Nat.le_trans (hg.row_le hi) Ab
 refine ⟨hp, hk.bx, ht, ?_, ?_, ?_, ?_, hl, hm⟩
 ·have := hk.ff
  have e : R = n8 F n := by
   apply List.ext_getElem?
   intro i
   by_cases hi : i < n
   ·have h1 := hf.at_ i hi
    rw [List.getD_eq_getElem?_getD, List.getElem?_eq_getElem (by rw [hf.ln]; exact hi)] at h1
    rw [List.getElem?_eq_getElem (by rw [hf.ln]; exact hi)]
    unfold n8
    rw [List.getElem?_map, List.getElem?_range hi]
    exact congrArg some h1
   rw [List.getElem?_eq_none (by rw [hf.ln]; omega), List.getElem?_eq_none (by unfold n8; simp; omega)]
  rw [e] at this
  exact this
 ·have := hk.h3.lists (c := 0) (by omega) hp.n4 (Aa 0 _ g0)
  rw [g0.done] at this
  exact this
 ·have := hk.h3.lists (c := 1) (by omega) hp.n4 (Aa 1 _ g1)
  rw [g1.done] at this
  exact this
 have := hk.h3.lists (c := 2) (by omega) hp.n4 (Aa 2 _ g2)
 rw [g2.done] at this
 exact this
theorem Kq.go {K n : Nat} {A : Ka} {T : Th} {F : List Int} {mv : Value} {w w' : World} (h : Kq K A T F n mv w) (hb : Below w.heap.size w w') : Kq K A T F n mv w' := by
 obtain ⟨Aa, R, H, vs, hk, hr⟩ := h
 exact ⟨Aa, R, H, vs, hk.go hb, hr⟩
theorem Kq.set {K n : Nat} {A : Ka} {T : Th} {F : List Int} {mv : Value} {w : World} (h : Kq K A T F n mv w) (v : Value) : Kq K A T F n v (w.setCell ⟨K, 8, none⟩ v) := by
 obtain ⟨Aa, R, H, vs, hk, hr⟩ := h
 exact ⟨Aa, R, H, vs, ⟨hk.bx.set 8 v, hk.ff.keep (other_set (an hk.ff hk.bx (by decide))), hk.h3.set hk.bx (by decide) (by decide), hk.lk, hk.lf⟩, hr⟩
theorem bG (W : World) (o1 o2 o3 o4 o5 : Obj) : Below W.heap.size W (((((W.alloc o1).alloc o2).alloc o3).alloc o4).alloc o5) ∧ (((((W.alloc o1).alloc o2).alloc o3).alloc o4).alloc o5).heap[W.heap.size]? = some o1 ∧ (((((W.alloc o1).alloc o2).alloc o3).alloc o4).alloc o5).heap[W.heap.size + 1]? = some o2 ∧ (((((W.alloc o1).alloc o2).alloc o3).alloc o4).alloc o5).heap[W.heap.size + 1 + 1]? = some o3 ∧ (((((W.alloc o1).alloc o2).alloc o3).alloc o4).alloc o5).heap[W.heap.size + 1 + 1 + 1]? = some o4 ∧ (((((W.alloc o1).alloc o2).alloc o3).alloc o4).alloc o5).heap[W.heap.size + 1 + 1 + 1 + 1]? = some o5 := by
 have e1 := ae W o1
 have e2 := ae (W.alloc o1) o2
 have e3 := ae ((W.alloc o1).alloc o2) o3
 have e4 := ae (((W.alloc o1).alloc o2).alloc o3) o4
 have e5 := ae ((((W.alloc o1).alloc o2).alloc o3).alloc o4) o5
 have s1 : (W.alloc o1).heap.size = W.heap.size + 1 := by simp
 have s2 : ((W.alloc o1).alloc o2).heap.size = W.heap.size + 1 + 1 := by simp
 have s3 : (((W.alloc o1).alloc o2).alloc o3).heap.size = W.heap.size + 1 + 1 + 1 := by simp
 have s4 : ((((W.alloc o1).alloc o2).alloc o3).alloc o4).heap.size = W.heap.size + 1 + 1 + 1 + 1 := by simp
 have n1 := heap_alloc_new W o1
 have n2 := heap_alloc_new (W.alloc o1) o2
 have n3 := heap_alloc_new ((W.alloc o1).alloc o2) o3
 have n4 := heap_alloc_new (((W.alloc o1).alloc o2).alloc o3) o4
 have n5 := heap_alloc_new ((((W.alloc o1).alloc o2).alloc o3).alloc o4) o5
 rw [s1] at n2 e2
 rw [s2] at n3 e3
 rw [s3] at n4 e4
 rw [s4] at n5 e5
 refine ⟨e1.trans ((e2.mono (by omega)).trans ((e3.mono (by omega)).trans ((e4.mono (by omega)).trans (e5.mono (by omega))))), ?_, ?_, ?_, ?_, n5⟩
 ·rw [e5.block _ (by omega), e4.block _ (by omega), e3.block _ (by omega), e2.block _ (by omega), n1]
 ·rw [e5.block _ (by omega), e4.block _ (by omega), e3.block _ (by omega), n2]
 ·rw [e5.block _ (by omega), e4.block _ (by omega), n3]
 rw [e5.block _ (by omega), n4]
theorem qB {w : World} {T : Th} {F : List Int} {n : Nat} {fa ra ba ea ma : Option Addr} {fc rc bc ec mc : Nat} (h : TA w.heap.size w T fa fc ra rc ba bc) (hF : Ints w.heap.size w F (.slice ea F.length ec)) (hp : Pf T F n) :
    Calls Tryz.prog 98 #[tv T fa fc ra rc ba bc, .slice ea F.length ec, .slice ma n mc] w fun e w' => ∃ K A, e = .returned (aa K) ∧ Kq K A T F n (.slice ma n mc) w' ∧ (∀ w2, Below w.heap.size w w2 → TA w2.heap.size w2 T A.fa A.fc A.ra A.rc A.ba A.bc) ∧ w.heap.size ≤ K ∧ Below w.heap.size w w' := by
 obtain ⟨iI, Bq, Bc, Bo, Bn⟩ := info_parts gB
 obtain ⟨iB, Cx, Cb, Cs, Cd⟩ := info_parts jt
 obtain ⟨iL, Ch, Cv, Cu, Cw⟩ := info_parts nL
 have CD := hp.n4
 have CF := hp.ok.rl
 have CC := hF.lim
 have Br := hide hp.ln
 have HP := hide hp
 have At := fun W => aH (P := Tryz.prog) Tryz.underlying106 Cx Cb Cs rfl n (by rw [Cd]; omega) (by unfold maxLen; omega) W
 have Cc := fun W => aH (P := Tryz.prog) Tryz.underlying22 Ch Cv Cu rfl n (by rw [Cw]; omega) (by unfold maxLen; omega) W
 have hB := ae w (.cells #[.int .i64 T.lits, .slice fa T.foes.length fc, .slice ra T.rules.length rc, .slice ba T.beats.length bc] 25)
 have hX := heap_alloc_new w (.cells #[.int .i64 T.lits, .slice fa T.foes.length fc, .slice ra T.rules.length rc, .slice ba T.beats.length bc] 25)
 have BK := hide h
 have HF := hide hF
 have HB := hide hB
 clear h hB hF hp
 go_enter Tryz.func98, Tryz.ntmps98
 go_upto_region 1 with fail
 rw [Br.out] at hX HB
 rw [Br.out]
 have HX := hide hX
 generalize w.alloc (.cells #[.int .i64 n, .slice fa T.foes.length fc, .slice ra T.rules.length rc, .slice ba T.beats.length bc] 25) = W at *
 obtain ⟨-, c0, c1, c2, c3⟩ := Bt.of hX
 clear hX
 have HT : S4 W ⟨w.heap.size, 0, none⟩ ⟨w.heap.size, 1, none⟩ ⟨w.heap.size, 2, none⟩ ⟨w.heap.size, 3, none⟩ (.int .i64 n) (.slice fa T.foes.length fc) (.slice ra T.rules.length rc) (.slice ba T.beats.length bc) W := ⟨c0, c1, c2, c3, Below.refl _ _⟩
 go_cut [7] from 12 to 27 (fun s wc => ∃ kb fb s0 s1 s2, s = aa kb ∧ Hid (Nk W.heap.size kb ⟨fa, fc, ra, rc, ba, bc, fb, s0, s1, s2⟩ T n (.slice ma n mc) (List.replicate n false) (fun _ => List.replicate n []) (fun _ => List.replicate n (.slice none 0 0)) wc) ∧ Hid (Below W.heap.size W wc))
 case first =>
  go_region_held3 (fun X : World => S4 W ⟨w.heap.size, 0, none⟩ ⟨w.heap.size, 1, none⟩ ⟨w.heap.size, 2, none⟩ ⟨w.heap.size, 3, none⟩ (.int .i64 n) (.slice fa T.foes.length fc) (.slice ra T.rules.length rc) (.slice ba T.beats.length bc) X) (first | exact S4.drew ‹_› | assumption | exact S4.below ‹_› (ae _ _)) (fail)
  all_goals (go_wp2_with fail; go_meet)
  all_goals exact ⟨_, _, _, _, _, rfl, hide (Nk.start Br.out (bG W.drew _ _ _ _ _).2.2.2.2.2 (by first | exact (bG W.drew _ _ _ _ _).2.1 | exact (bG W.drew _ _ _ _ _).2.2.1 | exact (bG W.drew _ _ _ _ _).2.2.2.1 | exact (bG W.drew _ _ _ _ _).2.2.2.2.1) (by first | exact (bG W.drew _ _ _ _ _).2.1 | exact (bG W.drew _ _ _ _ _).2.2.1 | exact (bG W.drew _ _ _ _ _).2.2.2.1 | exact (bG W.drew _ _ _ _ _).2.2.2.2.1) (by first | exact (bG W.drew _ _ _ _ _).2.1 | exact (bG W.drew _ _ _ _ _).2.2.1 | exact (bG W.drew _ _ _ _ _).2.2.2.1 | exact (bG W.drew _ _ _ _ _).2.2.2.2.1) (by first | exact (bG W.drew _ _ _ _ _).2.1 | exact (bG W.drew _ _ _ _ _).2.2.1 | exact (bG W.drew _ _ _ _ _).2.2.2.1 | exact (bG W.drew _ _ _ _ _).2.2.2.2.1) (by refine ⟨?_, ?_, ?_, ?_, ?_⟩ <;> (show W.heap.size ≤ _; omega)) (by omega)), hide ⟨(bG W.drew _ _ _ _ _).1.os, (bG W.drew _ _ _ _ _).1.tape, (bG W.drew _ _ _ _ _).1.output, (bG W.drew _ _ _ _ _).1.size, (bG W.drew _ _ _ _ _).1.block⟩⟩
 obtain ⟨kb, fb, s0, s1, s2, rfl, Ad, HBc⟩ := hcut
 clear At Cc HT c0 c1 c2 c3
 have Cq := hide ((HBc.out.block _ (aD HX.out)).trans HX.out)
 have Cr : w.heap.size < W.heap.size := aD HX.out
 go_upto_region 3 with fail
 go_loopw [30] (fun x wr => ∃ (k : Nat) (R : List Bool), k ≤ F.length ∧ x = .int .i64 k ∧ Hid (Fcs n (F.take k) R) ∧ Hid (Nk W.heap.size kb ⟨fa, fc, ra, rc, ba, bc, fb, s0, s1, s2⟩ T n (.slice ma n mc) R (fun _ => List.replicate n []) (fun _ => List.replicate n (.slice none 0 0)) wr) ∧ Hid (Below W.heap.size W wr)) (fun x _ => F.length - (intOf x).toNat)
 case atStart => exact ⟨0, _, by omega, rfl, hide (Fcs.start n), Ad, HBc⟩
 clear Ad HBc
 obtain ⟨k, R, hk, rfl, Aw, Ad, HBr⟩ := hrel
 by_cases hlt : k < F.length
 ·obtain ⟨x, hx⟩ := am hlt
  obtain ⟨x0, x1⟩ := HP.out.fact x (List.mem_of_getElem? hx)
  obtain ⟨xm, rfl⟩ := Int.eq_ofNat_of_zero_le x0
  have Ak : xm < n := by omega
  obtain ⟨g, gg, rfl, cx⟩ := ((HF.out.at1.below HB.out).below HBr.out).get hx
  have kc := Ad.out.bx.get (i := 4) rfl
  have f0 := Ad.out.ff.get (iG (i := xm) (by rw [Aw.out.ln]; exact Ak))
  have fz := Ad.out.ff.frz xm
  have Ca : Hid (Fcs n (F.take (k + 1)) (R.set xm true)) := hide (by rw [bD hx]; exact Aw.out.add Ak)
  have BO := hide (Ad.out.setF xm)
  have Ci := hide (HBr.out.setCell (p := ⟨fb, xm, none⟩) Ad.out.lf (.bool true))
  change Hid (Nk W.heap.size kb ⟨fa, fc, ra, rc, ba, bc, fb, s0, s1, s2⟩ T n (.slice ma n mc) (R.set xm true) (fun _ => List.replicate n []) (fun _ => List.replicate n (.slice none 0 0)) (wr.setCell ⟨fb, xm, none⟩ (.bool true))) at BO
  clear hx Aw Ad HBr x0
  go_wp2_with fail
  go_roundw
  case rel => exact ⟨k + 1, _, by omega, by go_num, Ca, BO, Ci⟩
  case measure => simp [intOf]; omega
 have Co : Hid (Fcs n F R) := hide (by have := Aw.out; rw [List.take_of_length_le (by omega)] at this; exact this)
 have BR := hide ((HBr.out.block _ Cr).trans HX.out)
 obtain ⟨-, c0, c1, c2, c3⟩ := Bt.of BR.out
 clear Aw Cq
 go_upto_region 8 with fail
 clear c0 c1 c2 c3
 go_loopw [44] (fun x wr => ∃ (k : Nat) (H : Nat → List (List Int)) (vs : Nat → List Value), k ≤ T.rules.length ∧ x = .int .i64 k ∧ Hid (Grp T kS n k (H 0)) ∧ Hid (Grp T kT n k (H 1)) ∧ Hid (Grp T kA n k (H 2)) ∧ Hid (Nk W.heap.size kb ⟨fa, fc, ra, rc, ba, bc, fb, s0, s1, s2⟩ T n (.slice ma n mc) R H vs wr) ∧ Hid (Below W.heap.size W wr)) (fun x _ => T.rules.length - (intOf x).toNat)
 case atStart => exact ⟨0, _, _, by omega, rfl, hide (Grp.start T kS n), hide (Grp.start T kT n), hide (Grp.start T kA n), Ad, HBr⟩
 clear Ad HBr BR hlt hk
 obtain ⟨k, H, vs, hk, rfl, Ah, Aj, Ai, Ad, HBr⟩ := hrel
 by_cases hlt : k < T.rules.length
 ·obtain ⟨r, hr⟩ := am hlt
  obtain ⟨gr, go, bd, bp, rfl, CB, x0, x1, x2, -, CE, -⟩ := dG (TR.go HBr.out (TR.go HB.out BK.out)).rules hr
  have AG := List.mem_of_getElem? hr
  have hh := HP.out.head r AG
  have Ao := HP.out.ok.rule r AG
  obtain ⟨xm, Bh⟩ := Int.eq_ofNat_of_zero_le hh.1
  have Ak : xm < n := by omega
  have BB := hide Bh
  have HRr := hide hr
  have hA := ae wr (.cells #[.int .i64 r.kind, .int .i64 r.head, .slice bd r.body.length bp] 114)
  have HNq := hide (Ad.out.go hA)
  have HBq := hide (HBr.out.trans (hA.mono HBr.out.size))
  have HQ : Hid (Fx wr.heap.size 114 [.int .i64 r.kind, .int .i64 r.head, .slice bd r.body.length bp] (wr.alloc (.cells #[.int .i64 r.kind, .int .i64 r.head, .slice bd r.body.length bp] 114))) := hide (heap_alloc_new wr _)
  have Cm : r.kind = 1 ∨ r.kind = 2 ∨ r.kind = 3 := by have := Ao.1; have := Ao.2.1; omega
  rw [Bh] at x1 HNq HBq HQ
  clear hr AG hA Ad HBr hh Bh Ao
  obtain ⟨kd, Ao⟩ : ∃ kd, r.kind = kd := ⟨_, rfl⟩
  rw [Ao] at x0 HNq HBq HQ
  have AQ := hide Ao
  have Ce : Hid (kA r = true) := hide rfl
  clear Cm Ao
  obtain ⟨w0, BS⟩ : ∃ w0, wr.alloc (.cells #[.int .i64 kd, .int .i64 xm, .slice bd r.body.length bp] 114) = w0 := ⟨_, rfl⟩
  go_upto_region 10 with fail
  rw [BS] at HNq HBq HQ
  clear BS
  generalize hq : wr.heap.size = q at *
  clear x0 x1 x2
  have z0 := HQ.out.get (i := 0) rfl
  go_upto_if 51 with fail
  clear z0
  go_cut [] from 51 to 69 (fun wx => ∃ (H' : Nat → List (List Int)) (vs' : Nat → List Value), Hid (Grp T kS n (k + 1) (H' 0)) ∧ Hid (Grp T kT n k (H' 1)) ∧ Hid (Grp T kA n k (H' 2)) ∧ Hid (Nk W.heap.size kb ⟨fa, fc, some ⟨gr, go, none⟩, rc, ba, bc, fb, s0, s1, s2⟩ T n (.slice ma n mc) R H' vs' wx) ∧ Hid (Below W.heap.size W wx) ∧ Hid (Fx q 114 [.int .i64 kd, .int .i64 xm, .slice bd r.body.length bp] wx))
  case first =>
   by_cases hk : kd = 1
   ·have Bx : Hid (kS r = true) := hide (by unfold kS; rw [AQ.out]; exact decide_eq_true hk)
    have hb : (kd == 1) = true := by simp [hk]
    clear hk
    have z0 := HQ.out.get (i := 0) rfl
    have AI := (Below.refl w0.heap.size w0).drew
    have HNd0 := hide (HNq.out.go AI)
    have HQd0 := hide (HQ.out.keep (AI.block _ HQ.out.lt))
    have HBd0 := hide (HBq.out.trans (AI.mono HBq.out.size))
    have BN := HNq.out.bx.get (i := 5) rfl
    have y0 := HQ.out.get (i := 1) rfl
    go_upto_region 11 with fail
    refine wp_region_held_drew (S := fun X : World => X.cell? ⟨kb, 5, none⟩ = some (.slice (some ⟨s0, 0, none⟩) n n) ∧ X.cell? ⟨q, 1, none⟩ = some (.int .i64 xm)) (by kernel_rfl) ⟨BN, y0⟩ (fun hHeld => ?_)
    clear HNq HQ HBq BN y0 AI z0
    generalize w0.drew = wd0 at *
    obtain ⟨l0, AN, AX, AS, BT, Bu, Ar⟩ := HNd0.out.h3.at (c := 0) (by omega) Ak
    have HG0b : Hid (Grp T kS n k (H 0)) := Ah
    have Cy := HG0b.out.row_le AS
    have Ct : Hid (Grp T kS n (k + 1) ((H 0).set xm (l0 ++ [(k : Int)]))) := hide (by
     have := HG0b.out.add HRr.out Bx.out BB.out Ak
     rw [List.getD_eq_getElem?_getD, AS] at this
     exact this)
    have AY := ae wd0 (.cells #[.int .i64 k] 3)
    have BV : W.heap.size ≤ wd0.heap.size := HBd0.out.size
    have BE := hide (owns_keep Ar fun g hg => AY.block g (ax Ar hg))
    have Bk := ar Bu AY
    have Cj := hide AY
    have Ay : Hid ((wd0.alloc (.cells #[.int .i64 k] 3)).heap.size = wd0.heap.size + 1) := hide (by simp)
    have Bb : Hid (∀ j u, [Value.int .i64 k][j]? = some u → (wd0.alloc (.cells #[.int .i64 k] 3)).cell? ((⟨wd0.heap.size, 0, none⟩ : Addr).add j) = some u) := hide (World.news_of_block (cs := [Value.int .i64 k].toArray) (t := 3) (fr := (0, 0)) (heap_alloc_new wd0 (.cells #[.int .i64 k] 3)))
    have Ba := hide (au Ar (HNd0.out.h3.fx 0 (by omega)) (by decide))
    have AF := hide (au Ar HQd0.out (by decide))
    have Be := hide (au Ar HNd0.out.bx (by decide))
    have AZ : Hid (∀ g, Value.ownBlock (.slice AN l0.length AX) = some g → W.heap.size ≤ g) := hide fun g e => (Ar.lt g e).1
    have BJ := hide AS
    have AD := hide BT
    have e0 : uC ⟨fa, fc, some ⟨gr, go, none⟩, rc, ba, bc, fb, s0, s1, s2⟩ 0 = s0 := rfl
    rw [e0] at Bu Bk
    clear AY AS BT Ar e0
    refine tk 0 (v := ?_) rfl (by kernel_rfl) (fun _ _ _ h => h) (Or.inl ⟨by rfl, ?_⟩) (by assumption) ?_
    rotate_left
    ·intro w Aa; (try dsimp only at Aa); first | go_simp; done | go_simp; with_reducible rfl
    try simp only [ql]
    refine tk 1 (v := ?_) rfl (by kernel_rfl) (fun _ _ _ h => h) (Or.inl ⟨by rfl, ?_⟩) (by assumption) ?_
    rotate_left
    ·intro w Aa; (try dsimp only at Aa); first | go_simp; done | go_simp; with_reducible rfl
    try simp only [ql]
    refine tk 2 (v := ?_) rfl (by kernel_rfl) (fun _ _ _ h => h) (Or.inl ⟨by rfl, ?_⟩) (by assumption) ?_
    rotate_left
    ·intro w Aa; (try dsimp only at Aa); first | go_simp; done | go_simp; with_reducible rfl
    try simp only [ql]
    refine tk 3 (v := ?_) rfl (by kernel_rfl) (fun _ _ _ h => h) (Or.inl ⟨by rfl, ?_⟩) (by assumption) ?_
    rotate_left
    ·intro w Aa; (try dsimp only at Aa); first | go_simp; done | go_simp; with_reducible rfl
    try simp only [ql]
    refine tk 4 (v := ?_) rfl (by kernel_rfl) (fun _ _ _ h => h) (Or.inl ⟨by rfl, ?_⟩) (by assumption) ?_
    rotate_left
    ·intro w Aa; (try dsimp only at Aa); first | go_simp; done | go_simp; with_reducible rfl
    try simp only [ql]
    refine tk 5 (v := ?_) rfl (by kernel_rfl) (fun _ _ _ h => h) (Or.inl ⟨by rfl, ?_⟩) (by assumption) ?_
    rotate_left
    ·intro w Aa; (try dsimp only at Aa); first | go_simp; done | go_simp; with_reducible rfl
    try simp only [ql]
    refine tk 6 (v := ?_) rfl (by kernel_rfl) (fun _ _ _ h => h) (Or.inl ⟨by rfl, ?_⟩) (by assumption) ?_
    rotate_left
    ·intro w Aa; (try dsimp only at Aa); first | go_simp; done | go_simp; with_reducible rfl
    try simp only [ql]
    refine tk 7 (v := ?_) rfl (by kernel_rfl) (fun _ _ _ h => h) (Or.inl ⟨by rfl, ?_⟩) (by assumption) ?_
    rotate_left
    ·intro w Aa; (try dsimp only at Aa); first | go_simp; done | go_simp; with_reducible rfl
    try simp only [ql]
    refine tk 8 (v := ?_) rfl (by kernel_rfl) (fun _ _ _ h => h) (Or.inl ⟨by rfl, ?_⟩) (by assumption) ?_
    rotate_left
    ·intro w Aa; (try dsimp only at Aa); first | go_simp; done | go_simp; with_reducible rfl
    try simp only [ql]
    refine tk 9 (v := ?_) rfl (by kernel_rfl) (fun _ _ _ h => h) (Or.inl ⟨by rfl, ?_⟩) (by assumption) ?_
    rotate_left
    ·intro w Aa; (try dsimp only at Aa); first | go_simp; done | go_simp; with_reducible rfl
    try simp only [ql]
    refine tk 10 (v := ?_) rfl (by kernel_rfl) (fun _ _ _ h => h) (Or.inl ⟨by rfl, ?_⟩) (by assumption) ?_
    rotate_left
    ·intro w Aa; (try dsimp only at Aa); first | go_simp; done | go_simp; with_reducible rfl
    try simp only [ql]
    refine tk 11 (v := ?_) rfl (by kernel_rfl) (fun _ _ _ h => h) (Or.inl ⟨by rfl, ?_⟩) (by assumption) ?_
    rotate_left
    ·intro w Aa; (try dsimp only at Aa); first | go_simp; done | go_simp; with_reducible rfl
    try simp only [ql]
    refine tk 12 (v := ?_) rfl (by kernel_rfl) (fun _ _ _ h => h) (Or.inl ⟨by rfl, ?_⟩) (by assumption) ?_
    rotate_left
    ·intro w Aa; (try dsimp only at Aa); first | go_simp; done | go_simp; with_reducible rfl
    try simp only [ql]
    refine tk 14 (v := ?_) rfl (by kernel_rfl) (fun _ _ _ h => h) (Or.inl ⟨by rfl, ?_⟩) (by assumption) ?_
    rotate_left
    ·intro w Aa; (try dsimp only at Aa); first | go_simp; done | go_simp; with_reducible rfl
    try simp only [ql]
    refine wpAnyH_ready (rs := [13, 15]) (by kernel_rfl) (by simp) ?_
    refine AllReadyH.cons rfl (fun KK hKK => ?_) (AllReadyH.cons rfl (fun KK hKK => ?_) AllReadyH.nil)
    focus
     go_simp
     refine hKK.out _ _ hHeld (fun hHeld2 => ?_)
     clear hKK KK hHeld
     try simp only [ql]
     refine wpAnyH_ready (rs := [15]) (by kernel_rfl) (by simp) ?_
     refine AllReadyH.cons rfl (fun KK hKK => ?_) AllReadyH.nil
     go_simp
     refine hKK.out _ _ ⟨ar hHeld2.1 (ae _ _), ar hHeld2.2 (ae _ _)⟩ (fun Ab => ?_)
     clear hKK KK hHeld2
     try simp only [ql]
    rotate_left
    focus
     go_simp
     refine hKK.out _ _ ⟨ar hHeld.1 (ae _ _), ar hHeld.2 (ae _ _)⟩ (fun Ab => ?_)
     clear hKK KK hHeld
     try simp only [ql]
     refine wpAnyH_ready (rs := [13]) (by kernel_rfl) (by simp) ?_
     refine AllReadyH.cons rfl (fun KK hKK => ?_) AllReadyH.nil
     go_simp
     refine hKK.out _ _ Ab (fun hHeld3b => ?_)
     clear hKK KK Ab
     try simp only [ql]
     have Ab := hHeld3b
     clear hHeld3b
    all_goals
     refine wpAnyH_ready (rs := [16]) (by kernel_rfl) (by simp) ?_
     refine AllReadyH.cons rfl (fun KK hKK => ?_) AllReadyH.nil
     refine step_append_lies _ (by rfl) _ _ _ (by rfl) W.heap.size 3 iI _ 1 8 Tryz.underlying26 Bq Bc Bo Bn rfl (by decide) (.slice AN l0.length AX) l0.length (aq l0) (by rfl) BE.out ⟨wd0.heap.size, 0, none⟩ 1 1 [.int .i64 k] (by rfl) rfl Bb.out (by simp [Value.oneCell']) (by decide) (by unfold maxLen; omega) (by omega) (by rw [Ay.out]; omega) (wd0.heap.size + 1) Ay.out ?_
     intro As Al v0 AO Ac BC BY
     have Ae : (wd0.alloc (.cells #[.int .i64 k] 3)).drew.grownBy v0 (Value.ownBlock (.slice AN l0.length AX)) := ⟨Ac.os, Ac.tape, Ac.output, Ac.size, Ac.block⟩
     have f5 := (HNd0.out.h3.fx 0 (by omega)).keep (aT Ae (HNd0.out.h3.fx 0 (by omega)).lt Ba.out)
     have q1 : v0.cell? ⟨s0, xm, none⟩ = some (.slice AN l0.length AX) := f5.get AD.out
     have q2 : v0.frozen? ⟨s0, xm, none⟩ = false := f5.frz xm
     have q3 := (HQd0.out.keep (aT Ae HQd0.out.lt AF.out)).get (i := 1) rfl
     have q4 := (HNd0.out.bx.keep (aT Ae HNd0.out.bx.lt Be.out)).get (i := 5) rfl
     refine hKK.out _ _ ⟨q4, q3⟩ (fun hHeld4 => ?_)
     have HN0a : Hid (Nk W.heap.size kb ⟨fa, fc, some ⟨gr, go, none⟩, rc, ba, bc, fb, s0, s1, s2⟩ T n (.slice ma n mc) R (up H 0 ((H 0).set xm (l0 ++ [(k : Int)]))) (up vs 0 ((vs 0).set xm (.slice (some ⟨As, 0, none⟩) (l0.length + 1) Al))) (v0.setCell ⟨s0, xm, none⟩ (.slice (some ⟨As, 0, none⟩) (l0.length + 1) Al))) := hide (HNd0.out.add (c := 0) (by omega) BJ.out AD.out AO (fun k hk hn => aT Ae hk hn) (by rcases BC with h | h; exact .inl h; exact .inr (by omega)))
     have HQ : Hid (Fx q 114 _ (v0.setCell ⟨s0, xm, none⟩ (.slice (some ⟨As, 0, none⟩) (l0.length + 1) Al))) := hide ((HQd0.out.keep (aT Ae HQd0.out.lt AF.out)).keep (other_set (an HQd0.out (HNd0.out.h3.fx 0 (by omega)) (by decide))))
     have HBq := hide (HBd0.out.trans ((kK Ae AZ.out BV).setCell (p := ⟨s0, xm, none⟩) (HNd0.out.h3.lo 0 (by omega)) (.slice (some ⟨As, 0, none⟩) (l0.length + 1) Al)))
     have q5 := HN0a.out.bx.get (i := 5) rfl
     have q6 := HQ.out.get (i := 1) rfl
     clear hKK KK f5 q3 q4 AO Ae Ac BC BY Ab
     try simp only [ql]
     refine tk 17 (v := ?_) rfl (by kernel_rfl) (fun _ _ _ h => h) (Or.inl ⟨by rfl, ?_⟩) (by assumption) ?_
     rotate_left
     ·intro w Aa; (try dsimp only at Aa); first | go_simp; done | go_simp; with_reducible rfl
     try simp only [ql]
     refine wpAnyH_ready (rs := [18]) (by kernel_rfl) (by simp) ?_
     refine AllReadyH.cons rfl (fun KK hKK => ?_) AllReadyH.nil
     go_simp
     refine hKK.out _ _ ⟨q5, q6⟩ (fun hHeld5 => ?_)
     clear hKK KK hHeld4 hHeld5 q1 q2 q5 q6 Bu Bk HNd0 HQd0 HBd0 BE Ay Bb Ba AF Be AZ BJ AD Cj
     try simp only [ql]
     generalize v0.setCell ⟨s0, xm, none⟩ (.slice (some ⟨As, 0, none⟩) (l0.length + 1) Al) = x0 at *
     refine wpAnyH_done (by kernel_rfl) ?_ _
     go_wp2_with fail
     go_meet
     exact ⟨up H 0 ((H 0).set xm (l0 ++ [(k : Int)])), up vs 0 ((vs 0).set xm (.slice (some ⟨As, 0, none⟩) (l0.length + 1) Al)), Ct, Aj, Ai, HN0a, HBq, HQ⟩
   have Bx : Hid (kS r = false) := hide (by unfold kS; rw [AQ.out]; exact decide_eq_false hk)
   have hb : (kd == 1) = false := by simp [hk]
   clear hk
   go_wp2_with fail
   go_meet
   exact ⟨H, vs, hide (Ah.out.skip HRr.out Bx.out), Aj, Ai, HNq, HBq, HQ⟩
  clear Ah Aj Ai HNq HBq HQ
  obtain ⟨H, vs, Ah, Aj, Ai, HNq, HBq, HQ⟩ := hcut
  rename World => w1
  have z0 := HQ.out.get (i := 0) rfl
  go_upto_if 72 with fail
  clear z0
  go_cut [] from 72 to 90 (fun wx => ∃ (H' : Nat → List (List Int)) (vs' : Nat → List Value), Hid (Grp T kS n (k + 1) (H' 0)) ∧ Hid (Grp T kT n (k + 1) (H' 1)) ∧ Hid (Grp T kA n k (H' 2)) ∧ Hid (Nk W.heap.size kb ⟨fa, fc, some ⟨gr, go, none⟩, rc, ba, bc, fb, s0, s1, s2⟩ T n (.slice ma n mc) R H' vs' wx) ∧ Hid (Below W.heap.size W wx) ∧ Hid (Fx q 114 [.int .i64 kd, .int .i64 xm, .slice bd r.body.length bp] wx))
  case first =>
   by_cases hk : kd = 3
   ·have Bs : Hid (kT r = false) := hide (by unfold kT; rw [AQ.out]; simp [hk])
    have hb : (kd != 3) = false := by simp [hk]
    clear hk
    go_wp2_with fail
    go_meet
    exact ⟨H, vs, Ah, hide (Aj.out.skip HRr.out Bs.out), Ai, HNq, HBq, HQ⟩
   have Bs : Hid (kT r = true) := hide (by unfold kT; rw [AQ.out]; simp [hk])
   have hb : (kd != 3) = true := by simp [hk]
   clear hk
   have z0 := HQ.out.get (i := 0) rfl
   have AL := (Below.refl w1.heap.size w1).drew
   have HNd1 := hide (HNq.out.go AL)
   have HQd1 := hide (HQ.out.keep (AL.block _ HQ.out.lt))
   have HBd1 := hide (HBq.out.trans (AL.mono HBq.out.size))
   have BP := HNq.out.bx.get (i := 6) rfl
   have y1 := HQ.out.get (i := 1) rfl
   go_upto_region 13 with fail
   refine wp_region_held_drew (S := fun X : World => X.cell? ⟨kb, 6, none⟩ = some (.slice (some ⟨s1, 0, none⟩) n n) ∧ X.cell? ⟨q, 1, none⟩ = some (.int .i64 xm)) (by kernel_rfl) ⟨BP, y1⟩ (fun hHeld => ?_)
   clear HNq HQ HBq BP y1 AL z0
   generalize w1.drew = wd1 at *
   obtain ⟨l1, AR, AW, AK, BI, Bg, Aq⟩ := HNd1.out.h3.at (c := 1) (by omega) Ak
   have HG1b : Hid (Grp T kT n k (H 1)) := Aj
   have Cz := HG1b.out.row_le AK
   have Cp : Hid (Grp T kT n (k + 1) ((H 1).set xm (l1 ++ [(k : Int)]))) := hide (by
    have := HG1b.out.add HRr.out Bs.out BB.out Ak
    rw [List.getD_eq_getElem?_getD, AK] at this
    exact this)
   have AT := ae wd1 (.cells #[.int .i64 k] 3)
   have BW : W.heap.size ≤ wd1.heap.size := HBd1.out.size
   have Bd := hide (owns_keep Aq fun g hg => AT.block g (ax Aq hg))
   have Bf := ar Bg AT
   have Cl := hide AT
   have AB : Hid ((wd1.alloc (.cells #[.int .i64 k] 3)).heap.size = wd1.heap.size + 1) := hide (by simp)
   have Bp : Hid (∀ j u, [Value.int .i64 k][j]? = some u → (wd1.alloc (.cells #[.int .i64 k] 3)).cell? ((⟨wd1.heap.size, 0, none⟩ : Addr).add j) = some u) := hide (World.news_of_block (cs := [Value.int .i64 k].toArray) (t := 3) (fr := (0, 0)) (heap_alloc_new wd1 (.cells #[.int .i64 k] 3)))
   have BD := hide (au Aq (HNd1.out.h3.fx 1 (by omega)) (by decide))
   have AC := hide (au Aq HQd1.out (by decide))
   have Bz := hide (au Aq HNd1.out.bx (by decide))
   have Bl : Hid (∀ g, Value.ownBlock (.slice AR l1.length AW) = some g → W.heap.size ≤ g) := hide fun g e => (Aq.lt g e).1
   have BM := hide AK
   have AE := hide BI
   have e1 : uC ⟨fa, fc, some ⟨gr, go, none⟩, rc, ba, bc, fb, s0, s1, s2⟩ 1 = s1 := rfl
   rw [e1] at Bg Bf
   clear AT AK BI Aq e1
   refine tk 0 (v := ?_) rfl (by kernel_rfl) (fun _ _ _ h => h) (Or.inl ⟨by rfl, ?_⟩) (by assumption) ?_
   rotate_left
   ·intro w Aa; (try dsimp only at Aa); first | go_simp; done | go_simp; with_reducible rfl
   try simp only [ql]
   refine tk 1 (v := ?_) rfl (by kernel_rfl) (fun _ _ _ h => h) (Or.inl ⟨by rfl, ?_⟩) (by assumption) ?_
   rotate_left
   ·intro w Aa; (try dsimp only at Aa); first | go_simp; done | go_simp; with_reducible rfl
   try simp only [ql]
   refine tk 2 (v := ?_) rfl (by kernel_rfl) (fun _ _ _ h => h) (Or.inl ⟨by rfl, ?_⟩) (by assumption) ?_
   rotate_left
   ·intro w Aa; (try dsimp only at Aa); first | go_simp; done | go_simp; with_reducible rfl
   try simp only [ql]
   refine tk 3 (v := ?_) rfl (by kernel_rfl) (fun _ _ _ h => h) (Or.inl ⟨by rfl, ?_⟩) (by assumption) ?_
   rotate_left
   ·intro w Aa; (try dsimp only at Aa); first | go_simp; done | go_simp; with_reducible rfl
   try simp only [ql]
   refine tk 4 (v := ?_) rfl (by kernel_rfl) (fun _ _ _ h => h) (Or.inl ⟨by rfl, ?_⟩) (by assumption) ?_
   rotate_left
   ·intro w Aa; (try dsimp only at Aa); first | go_simp; done | go_simp; with_reducible rfl
   try simp only [ql]
   refine tk 5 (v := ?_) rfl (by kernel_rfl) (fun _ _ _ h => h) (Or.inl ⟨by rfl, ?_⟩) (by assumption) ?_
   rotate_left
   ·intro w Aa; (try dsimp only at Aa); first | go_simp; done | go_simp; with_reducible rfl
   try simp only [ql]
   refine tk 6 (v := ?_) rfl (by kernel_rfl) (fun _ _ _ h => h) (Or.inl ⟨by rfl, ?_⟩) (by assumption) ?_
   rotate_left
   ·intro w Aa; (try dsimp only at Aa); first | go_simp; done | go_simp; with_reducible rfl
   try simp only [ql]
   refine tk 7 (v := ?_) rfl (by kernel_rfl) (fun _ _ _ h => h) (Or.inl ⟨by rfl, ?_⟩) (by assumption) ?_
   rotate_left
   ·intro w Aa; (try dsimp only at Aa); first | go_simp; done | go_simp; with_reducible rfl
   try simp only [ql]
   refine tk 8 (v := ?_) rfl (by kernel_rfl) (fun _ _ _ h => h) (Or.inl ⟨by rfl, ?_⟩) (by assumption) ?_
   rotate_left
   ·intro w Aa; (try dsimp only at Aa); first | go_simp; done | go_simp; with_reducible rfl
   try simp only [ql]
   refine tk 9 (v := ?_) rfl (by kernel_rfl) (fun _ _ _ h => h) (Or.inl ⟨by rfl, ?_⟩) (by assumption) ?_
   rotate_left
   ·intro w Aa; (try dsimp only at Aa); first | go_simp; done | go_simp; with_reducible rfl
   try simp only [ql]
   refine tk 10 (v := ?_) rfl (by kernel_rfl) (fun _ _ _ h => h) (Or.inl ⟨by rfl, ?_⟩) (by assumption) ?_
   rotate_left
   ·intro w Aa; (try dsimp only at Aa); first | go_simp; done | go_simp; with_reducible rfl
   try simp only [ql]
   refine tk 11 (v := ?_) rfl (by kernel_rfl) (fun _ _ _ h => h) (Or.inl ⟨by rfl, ?_⟩) (by assumption) ?_
   rotate_left
   ·intro w Aa; (try dsimp only at Aa); first | go_simp; done | go_simp; with_reducible rfl
   try simp only [ql]
   refine tk 12 (v := ?_) rfl (by kernel_rfl) (fun _ _ _ h => h) (Or.inl ⟨by rfl, ?_⟩) (by assumption) ?_
   rotate_left
   ·intro w Aa; (try dsimp only at Aa); first | go_simp; done | go_simp; with_reducible rfl
   try simp only [ql]
   refine tk 14 (v := ?_) rfl (by kernel_rfl) (fun _ _ _ h => h) (Or.inl ⟨by rfl, ?_⟩) (by assumption) ?_
   rotate_left
   ·intro w Aa; (try dsimp only at Aa); first | go_simp; done | go_simp; with_reducible rfl
   try simp only [ql]
   refine wpAnyH_ready (rs := [13, 15]) (by kernel_rfl) (by simp) ?_
   refine AllReadyH.cons rfl (fun KK hKK => ?_) (AllReadyH.cons rfl (fun KK hKK => ?_) AllReadyH.nil)
   focus
    go_simp
    refine hKK.out _ _ hHeld (fun hHeld2 => ?_)
    clear hKK KK hHeld
    try simp only [ql]
    refine wpAnyH_ready (rs := [15]) (by kernel_rfl) (by simp) ?_
    refine AllReadyH.cons rfl (fun KK hKK => ?_) AllReadyH.nil
    go_simp
    refine hKK.out _ _ ⟨ar hHeld2.1 (ae _ _), ar hHeld2.2 (ae _ _)⟩ (fun Ab => ?_)
    clear hKK KK hHeld2
    try simp only [ql]
   rotate_left
   focus
    go_simp
    refine hKK.out _ _ ⟨ar hHeld.1 (ae _ _), ar hHeld.2 (ae _ _)⟩ (fun Ab => ?_)
    clear hKK KK hHeld
    try simp only [ql]
    refine wpAnyH_ready (rs := [13]) (by kernel_rfl) (by simp) ?_
    refine AllReadyH.cons rfl (fun KK hKK => ?_) AllReadyH.nil
    go_simp
    refine hKK.out _ _ Ab (fun hHeld3b => ?_)
    clear hKK KK Ab
    try simp only [ql]
    have Ab := hHeld3b
    clear hHeld3b
   all_goals
    refine wpAnyH_ready (rs := [16]) (by kernel_rfl) (by simp) ?_
    refine AllReadyH.cons rfl (fun KK hKK => ?_) AllReadyH.nil
    refine step_append_lies _ (by rfl) _ _ _ (by rfl) W.heap.size 3 iI _ 1 8 Tryz.underlying26 Bq Bc Bo Bn rfl (by decide) (.slice AR l1.length AW) l1.length (aq l1) (by rfl) Bd.out ⟨wd1.heap.size, 0, none⟩ 1 1 [.int .i64 k] (by rfl) rfl Bp.out (by simp [Value.oneCell']) (by decide) (by unfold maxLen; omega) (by omega) (by rw [AB.out]; omega) (wd1.heap.size + 1) AB.out ?_
    intro Au An v1 AP Ac Bv BZ
    have Ag : (wd1.alloc (.cells #[.int .i64 k] 3)).drew.grownBy v1 (Value.ownBlock (.slice AR l1.length AW)) := ⟨Ac.os, Ac.tape, Ac.output, Ac.size, Ac.block⟩
    have f5 := (HNd1.out.h3.fx 1 (by omega)).keep (aT Ag (HNd1.out.h3.fx 1 (by omega)).lt BD.out)
    have q1 : v1.cell? ⟨s1, xm, none⟩ = some (.slice AR l1.length AW) := f5.get AE.out
    have q2 : v1.frozen? ⟨s1, xm, none⟩ = false := f5.frz xm
    have q3 := (HQd1.out.keep (aT Ag HQd1.out.lt AC.out)).get (i := 1) rfl
    have q4 := (HNd1.out.bx.keep (aT Ag HNd1.out.bx.lt Bz.out)).get (i := 6) rfl
    refine hKK.out _ _ ⟨q4, q3⟩ (fun hHeld4 => ?_)
    have HN1a : Hid (Nk W.heap.size kb ⟨fa, fc, some ⟨gr, go, none⟩, rc, ba, bc, fb, s0, s1, s2⟩ T n (.slice ma n mc) R (up H 1 ((H 1).set xm (l1 ++ [(k : Int)]))) (up vs 1 ((vs 1).set xm (.slice (some ⟨Au, 0, none⟩) (l1.length + 1) An))) (v1.setCell ⟨s1, xm, none⟩ (.slice (some ⟨Au, 0, none⟩) (l1.length + 1) An))) := hide (HNd1.out.add (c := 1) (by omega) BM.out AE.out AP (fun k hk hn => aT Ag hk hn) (by rcases Bv with h | h; exact .inl h; exact .inr (by omega)))
    have HQ : Hid (Fx q 114 _ (v1.setCell ⟨s1, xm, none⟩ (.slice (some ⟨Au, 0, none⟩) (l1.length + 1) An))) := hide ((HQd1.out.keep (aT Ag HQd1.out.lt AC.out)).keep (other_set (an HQd1.out (HNd1.out.h3.fx 1 (by omega)) (by decide))))
    have HBq := hide (HBd1.out.trans ((kK Ag Bl.out BW).setCell (p := ⟨s1, xm, none⟩) (HNd1.out.h3.lo 1 (by omega)) (.slice (some ⟨Au, 0, none⟩) (l1.length + 1) An)))
    have q5 := HN1a.out.bx.get (i := 6) rfl
    have q6 := HQ.out.get (i := 1) rfl
    clear hKK KK f5 q3 q4 AP Ag Ac Bv BZ Ab
    try simp only [ql]
    refine tk 17 (v := ?_) rfl (by kernel_rfl) (fun _ _ _ h => h) (Or.inl ⟨by rfl, ?_⟩) (by assumption) ?_
    rotate_left
    ·intro w Aa; (try dsimp only at Aa); first | go_simp; done | go_simp; with_reducible rfl
    try simp only [ql]
    refine wpAnyH_ready (rs := [18]) (by kernel_rfl) (by simp) ?_
    refine AllReadyH.cons rfl (fun KK hKK => ?_) AllReadyH.nil
    go_simp
    refine hKK.out _ _ ⟨q5, q6⟩ (fun hHeld5 => ?_)
    clear hKK KK hHeld4 hHeld5 q1 q2 q5 q6 Bg Bf HNd1 HQd1 HBd1 Bd AB Bp BD AC Bz Bl BM AE Cl
    try simp only [ql]
    generalize v1.setCell ⟨s1, xm, none⟩ (.slice (some ⟨Au, 0, none⟩) (l1.length + 1) An) = x1 at *
    refine wpAnyH_done (by kernel_rfl) ?_ _
    go_wp2_with fail
    go_meet
    exact ⟨up H 1 ((H 1).set xm (l1 ++ [(k : Int)])), up vs 1 ((vs 1).set xm (.slice (some ⟨Au, 0, none⟩) (l1.length + 1) An)), Ah, Cp, Ai, HN1a, HBq, HQ⟩
  clear Ah Aj Ai HNq HBq HQ
  obtain ⟨H, vs, Ah, Aj, Ai, HNq, HBq, HQ⟩ := hcut
  rename World => w2
  have z0 := HQ.out.get (i := 0) rfl
  have AU := (Below.refl w2.heap.size w2).drew
  have HNd2 := hide (HNq.out.go AU)
  have HQd2 := hide (HQ.out.keep (AU.block _ HQ.out.lt))
  have HBd2 := hide (HBq.out.trans (AU.mono HBq.out.size))
  have BL := HNq.out.bx.get (i := 7) rfl
  have y2 := HQ.out.get (i := 1) rfl
  go_upto_region 14 with fail
  refine wp_region_held_drew (S := fun X : World => X.cell? ⟨kb, 7, none⟩ = some (.slice (some ⟨s2, 0, none⟩) n n) ∧ X.cell? ⟨q, 1, none⟩ = some (.int .i64 xm)) (by kernel_rfl) ⟨BL, y2⟩ (fun hHeld => ?_)
  clear HNq HQ HBq BL y2 AU z0
  generalize w2.drew = wd2 at *
  obtain ⟨l2, AJ, AM, At, BH, BF, Ap⟩ := HNd2.out.h3.at (c := 2) (by omega) Ak
  have HG2b : Hid (Grp T kA n k (H 2)) := Ai
  have CA := HG2b.out.row_le At
  have Cf : Hid (Grp T kA n (k + 1) ((H 2).set xm (l2 ++ [(k : Int)]))) := hide (by
   have := HG2b.out.add HRr.out Ce.out BB.out Ak
   rw [List.getD_eq_getElem?_getD, At] at this
   exact this)
  have AV := ae wd2 (.cells #[.int .i64 k] 3)
  have BU : W.heap.size ≤ wd2.heap.size := HBd2.out.size
  have By := hide (owns_keep Ap fun g hg => AV.block g (ax Ap hg))
  have BG := ar BF AV
  have Ck := hide AV
  have Ax : Hid ((wd2.alloc (.cells #[.int .i64 k] 3)).heap.size = wd2.heap.size + 1) := hide (by simp)
  have Bi : Hid (∀ j u, [Value.int .i64 k][j]? = some u → (wd2.alloc (.cells #[.int .i64 k] 3)).cell? ((⟨wd2.heap.size, 0, none⟩ : Addr).add j) = some u) := hide (World.news_of_block (cs := [Value.int .i64 k].toArray) (t := 3) (fr := (0, 0)) (heap_alloc_new wd2 (.cells #[.int .i64 k] 3)))
  have BA := hide (au Ap (HNd2.out.h3.fx 2 (by omega)) (by decide))
  have AA := hide (au Ap HQd2.out (by decide))
  have Bm := hide (au Ap HNd2.out.bx (by decide))
  have Bw : Hid (∀ g, Value.ownBlock (.slice AJ l2.length AM) = some g → W.heap.size ≤ g) := hide fun g e => (Ap.lt g e).1
  have BQ := hide At
  have Az := hide BH
  have e2 : uC ⟨fa, fc, some ⟨gr, go, none⟩, rc, ba, bc, fb, s0, s1, s2⟩ 2 = s2 := rfl
  rw [e2] at BF BG
  clear AV At BH Ap e2
  refine tk 0 (v := ?_) rfl (by kernel_rfl) (fun _ _ _ h => h) (Or.inl ⟨by rfl, ?_⟩) (by assumption) ?_
  rotate_left
  ·intro w Aa; (try dsimp only at Aa); first | go_simp; done | go_simp; with_reducible rfl
  try simp only [ql]
  refine tk 1 (v := ?_) rfl (by kernel_rfl) (fun _ _ _ h => h) (Or.inl ⟨by rfl, ?_⟩) (by assumption) ?_
  rotate_left
  ·intro w Aa; (try dsimp only at Aa); first | go_simp; done | go_simp; with_reducible rfl
  try simp only [ql]
  refine tk 2 (v := ?_) rfl (by kernel_rfl) (fun _ _ _ h => h) (Or.inl ⟨by rfl, ?_⟩) (by assumption) ?_
  rotate_left
  ·intro w Aa; (try dsimp only at Aa); first | go_simp; done | go_simp; with_reducible rfl
  try simp only [ql]
  refine tk 3 (v := ?_) rfl (by kernel_rfl) (fun _ _ _ h => h) (Or.inl ⟨by rfl, ?_⟩) (by assumption) ?_
  rotate_left
  ·intro w Aa; (try dsimp only at Aa); first | go_simp; done | go_simp; with_reducible rfl
  try simp only [ql]
  refine tk 4 (v := ?_) rfl (by kernel_rfl) (fun _ _ _ h => h) (Or.inl ⟨by rfl, ?_⟩) (by assumption) ?_
  rotate_left
  ·intro w Aa; (try dsimp only at Aa); first | go_simp; done | go_simp; with_reducible rfl
  try simp only [ql]
  refine tk 5 (v := ?_) rfl (by kernel_rfl) (fun _ _ _ h => h) (Or.inl ⟨by rfl, ?_⟩) (by assumption) ?_
  rotate_left
  ·intro w Aa; (try dsimp only at Aa); first | go_simp; done | go_simp; with_reducible rfl
  try simp only [ql]
  refine tk 6 (v := ?_) rfl (by kernel_rfl) (fun _ _ _ h => h) (Or.inl ⟨by rfl, ?_⟩) (by assumption) ?_
  rotate_left
  ·intro w Aa; (try dsimp only at Aa); first | go_simp; done | go_simp; with_reducible rfl
  try simp only [ql]
  refine tk 7 (v := ?_) rfl (by kernel_rfl) (fun _ _ _ h => h) (Or.inl ⟨by rfl, ?_⟩) (by assumption) ?_
  rotate_left
  ·intro w Aa; (try dsimp only at Aa); first | go_simp; done | go_simp; with_reducible rfl
  try simp only [ql]
  refine tk 8 (v := ?_) rfl (by kernel_rfl) (fun _ _ _ h => h) (Or.inl ⟨by rfl, ?_⟩) (by assumption) ?_
  rotate_left
  ·intro w Aa; (try dsimp only at Aa); first | go_simp; done | go_simp; with_reducible rfl
  try simp only [ql]
  refine tk 9 (v := ?_) rfl (by kernel_rfl) (fun _ _ _ h => h) (Or.inl ⟨by rfl, ?_⟩) (by assumption) ?_
  rotate_left
  ·intro w Aa; (try dsimp only at Aa); first | go_simp; done | go_simp; with_reducible rfl
  try simp only [ql]
  refine tk 10 (v := ?_) rfl (by kernel_rfl) (fun _ _ _ h => h) (Or.inl ⟨by rfl, ?_⟩) (by assumption) ?_
  rotate_left
  ·intro w Aa; (try dsimp only at Aa); first | go_simp; done | go_simp; with_reducible rfl
  try simp only [ql]
  refine tk 11 (v := ?_) rfl (by kernel_rfl) (fun _ _ _ h => h) (Or.inl ⟨by rfl, ?_⟩) (by assumption) ?_
  rotate_left
  ·intro w Aa; (try dsimp only at Aa); first | go_simp; done | go_simp; with_reducible rfl
  try simp only [ql]
  refine tk 12 (v := ?_) rfl (by kernel_rfl) (fun _ _ _ h => h) (Or.inl ⟨by rfl, ?_⟩) (by assumption) ?_
  rotate_left
  ·intro w Aa; (try dsimp only at Aa); first | go_simp; done | go_simp; with_reducible rfl
  try simp only [ql]
  refine tk 14 (v := ?_) rfl (by kernel_rfl) (fun _ _ _ h => h) (Or.inl ⟨by rfl, ?_⟩) (by assumption) ?_
  rotate_left
  ·intro w Aa; (try dsimp only at Aa); first | go_simp; done | go_simp; with_reducible rfl
  try simp only [ql]
  refine wpAnyH_ready (rs := [13, 15]) (by kernel_rfl) (by simp) ?_
  refine AllReadyH.cons rfl (fun KK hKK => ?_) (AllReadyH.cons rfl (fun KK hKK => ?_) AllReadyH.nil)
  focus
   go_simp
   refine hKK.out _ _ hHeld (fun hHeld2 => ?_)
   clear hKK KK hHeld
   try simp only [ql]
   refine wpAnyH_ready (rs := [15]) (by kernel_rfl) (by simp) ?_
   refine AllReadyH.cons rfl (fun KK hKK => ?_) AllReadyH.nil
   go_simp
   refine hKK.out _ _ ⟨ar hHeld2.1 (ae _ _), ar hHeld2.2 (ae _ _)⟩ (fun Ab => ?_)
   clear hKK KK hHeld2
   try simp only [ql]
  rotate_left
  focus
   go_simp
   refine hKK.out _ _ ⟨ar hHeld.1 (ae _ _), ar hHeld.2 (ae _ _)⟩ (fun Ab => ?_)
   clear hKK KK hHeld
   try simp only [ql]
   refine wpAnyH_ready (rs := [13]) (by kernel_rfl) (by simp) ?_
   refine AllReadyH.cons rfl (fun KK hKK => ?_) AllReadyH.nil
   go_simp
   refine hKK.out _ _ Ab (fun hHeld3b => ?_)
   clear hKK KK Ab
   try simp only [ql]
   have Ab := hHeld3b
   clear hHeld3b
  all_goals
   refine wpAnyH_ready (rs := [16]) (by kernel_rfl) (by simp) ?_
   refine AllReadyH.cons rfl (fun KK hKK => ?_) AllReadyH.nil
   refine step_append_lies _ (by rfl) _ _ _ (by rfl) W.heap.size 3 iI _ 1 8 Tryz.underlying26 Bq Bc Bo Bn rfl (by decide) (.slice AJ l2.length AM) l2.length (aq l2) (by rfl) By.out ⟨wd2.heap.size, 0, none⟩ 1 1 [.int .i64 k] (by rfl) rfl Bi.out (by simp [Value.oneCell']) (by decide) (by unfold maxLen; omega) (by omega) (by rw [Ax.out]; omega) (wd2.heap.size + 1) Ax.out ?_
   intro Av Am v2 AH Ac Bj BX
   have Af : (wd2.alloc (.cells #[.int .i64 k] 3)).drew.grownBy v2 (Value.ownBlock (.slice AJ l2.length AM)) := ⟨Ac.os, Ac.tape, Ac.output, Ac.size, Ac.block⟩
   have f5 := (HNd2.out.h3.fx 2 (by omega)).keep (aT Af (HNd2.out.h3.fx 2 (by omega)).lt BA.out)
   have q1 : v2.cell? ⟨s2, xm, none⟩ = some (.slice AJ l2.length AM) := f5.get Az.out
   have q2 : v2.frozen? ⟨s2, xm, none⟩ = false := f5.frz xm
   have q3 := (HQd2.out.keep (aT Af HQd2.out.lt AA.out)).get (i := 1) rfl
   have q4 := (HNd2.out.bx.keep (aT Af HNd2.out.bx.lt Bm.out)).get (i := 7) rfl
   refine hKK.out _ _ ⟨q4, q3⟩ (fun hHeld4 => ?_)
   have HN2a : Hid (Nk W.heap.size kb ⟨fa, fc, some ⟨gr, go, none⟩, rc, ba, bc, fb, s0, s1, s2⟩ T n (.slice ma n mc) R (up H 2 ((H 2).set xm (l2 ++ [(k : Int)]))) (up vs 2 ((vs 2).set xm (.slice (some ⟨Av, 0, none⟩) (l2.length + 1) Am))) (v2.setCell ⟨s2, xm, none⟩ (.slice (some ⟨Av, 0, none⟩) (l2.length + 1) Am))) := hide (HNd2.out.add (c := 2) (by omega) BQ.out Az.out AH (fun k hk hn => aT Af hk hn) (by rcases Bj with h | h; exact .inl h; exact .inr (by omega)))
   have HQ : Hid (Fx q 114 _ (v2.setCell ⟨s2, xm, none⟩ (.slice (some ⟨Av, 0, none⟩) (l2.length + 1) Am))) := hide ((HQd2.out.keep (aT Af HQd2.out.lt AA.out)).keep (other_set (an HQd2.out (HNd2.out.h3.fx 2 (by omega)) (by decide))))
   have HBq := hide (HBd2.out.trans ((kK Af Bw.out BU).setCell (p := ⟨s2, xm, none⟩) (HNd2.out.h3.lo 2 (by omega)) (.slice (some ⟨Av, 0, none⟩) (l2.length + 1) Am)))
   have q5 := HN2a.out.bx.get (i := 7) rfl
   have q6 := HQ.out.get (i := 1) rfl
   clear hKK KK f5 q3 q4 AH Af Ac Bj BX Ab
   try simp only [ql]
   refine tk 17 (v := ?_) rfl (by kernel_rfl) (fun _ _ _ h => h) (Or.inl ⟨by rfl, ?_⟩) (by assumption) ?_
   rotate_left
   ·intro w Aa; (try dsimp only at Aa); first | go_simp; done | go_simp; with_reducible rfl
   try simp only [ql]
   refine wpAnyH_ready (rs := [18]) (by kernel_rfl) (by simp) ?_
   refine AllReadyH.cons rfl (fun KK hKK => ?_) AllReadyH.nil
   go_simp
   refine hKK.out _ _ ⟨q5, q6⟩ (fun hHeld5 => ?_)
   clear hKK KK hHeld4 hHeld5 q1 q2 q5 q6 BF BG HNd2 HQd2 HBd2 By Ax Bi BA AA Bm Bw BQ Az Ck
   try simp only [ql]
   generalize v2.setCell ⟨s2, xm, none⟩ (.slice (some ⟨Av, 0, none⟩) (l2.length + 1) Am) = x2 at *
   refine wpAnyH_done (by kernel_rfl) ?_ _
   go_wp2_with fail
   go_roundw
   case rel => exact ⟨k + 1, up H 2 ((H 2).set xm (l2 ++ [(k : Int)])), up vs 2 ((vs 2).set xm (.slice (some ⟨Av, 0, none⟩) (l2.length + 1) Am)), by omega, by go_num, Ah, Aj, Cf, HN2a, HBq⟩
   case measure => simp [intOf]; omega
 have HE : Hid (k = T.rules.length) := hide (by omega)
 go_wp2_with fail
 go_ret
 have Cg := HE.out
 have g0 := Ah.out
 have g1 := Aj.out
 have g2 := Ai.out
 rw [Cg] at g0 g1 g2
 have Cn := HB.out.trans (HBr.out.mono HB.out.size)
 exact ⟨kb, _, rfl, ⟨_, _, _, _, Ad.out, Co.out, g0, g1, g2⟩, fun w2 h2 => TR.go h2 BK.out, Nat.le_trans HB.out.size Ad.out.lk, Cn⟩
end Go.Proofs.YtmlhcncagdfjfaaGreat
