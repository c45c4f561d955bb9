/- newKnown. (tools/gen15/nkn.py wrote this.) -/
import Derived.Test.YtddlhlifkhaokaaGreatKr
import Derived.Deep.RegionLaw
import Derived.Deep.CutRange
namespace Go.Proofs.YtddlhlifkhaokaaGreat
open Go.RowKit

def up {α : Type} (f : Nat → α) (c : Nat) (y : α) : Nat → α := fun d => if d = c then y else f d
theorem up_at {α : Type} {f : Nat → α} {c : Nat} {y : α} : up f c y c = y := if_pos rfl
theorem up_off {α : Type} {f : Nat → α} {c d : Nat} {y : α} (h : d ≠ c) : up f c y d = f d := if_neg h
/-- Three rows of rows, each row its own. -/
structure H3 (base : Nat) (sb : Nat → Nat) (n : Nat) (H : Nat → List (List Int)) (vs : Nat → List Value) (w : World) : Prop where
  ln : ∀ c, c < 3 → (H c).length = n
  vl : ∀ c, c < 3 → (vs c).length = n
  fx : ∀ c, c < 3 → Fx (sb c) 26 (vs c) w
  lo : ∀ c, c < 3 → base ≤ sb c
  ne : ∀ c d, c < 3 → d < 3 → c ≠ d → sb c ≠ sb d
  own : ∀ c (i : Nat) l v, c < 3 → (H c)[i]? = some l → (vs c)[i]? = some v → w.ownsRow base 3 1 v l.length (ints l)
  apart : ∀ c d (i j : Nat) v u g, c < 3 → d < 3 → (vs c)[i]? = some v → (vs d)[j]? = some u → v.ownBlock = some g → u.ownBlock = some g → c = d ∧ i = j
section
variable {base n : Nat} {sb : Nat → Nat} {H : Nat → List (List Int)} {vs : Nat → List Value} {w w' : World}
theorem H3.go (h : H3 base sb n H vs w) (hb : Below w.heap.size w w') : H3 base sb n H vs w' :=
  ⟨h.ln, h.vl, fun c hc => (h.fx c hc).keep (hb.block _ (h.fx c hc).lt), h.lo, h.ne, fun c i l v hc h1 h2 => owns_keep (h.own c i l v hc h1 h2) fun g hg => hb.block g (owns_lt (h.own c i l v hc h1 h2) hg), h.apart⟩
theorem H3.set (h : H3 base sb n H vs w) {g T i : Nat} {cs : List Value} {v : Value} (hg : Fx g T cs w) (h1 : T ≠ 26) (h2 : T ≠ 3) : H3 base sb n H vs (w.setCell ⟨g, i, none⟩ v) :=
  ⟨h.ln, h.vl, fun c hc => (h.fx c hc).keep (other_set (fx_ne (h.fx c hc) hg (Ne.symm h1))), h.lo, h.ne, fun c i l v hc a b => owns_keep (h.own c i l v hc a b) fun _ hk => other_set fun e => own_fx (h.own c i l v hc a b) hg (Ne.symm h2) (e ▸ hk), h.apart⟩
theorem H3.at (h : H3 base sb n H vs w) {c i : Nat} (hc : c < 3) (hi : i < n) : ∃ l a k, (H c)[i]? = some l ∧ (vs c)[i]? = some (.slice a l.length k) ∧ w.cell? ⟨sb c, i, none⟩ = some (.slice a l.length k) ∧ w.ownsRow base 3 1 (.slice a l.length k) l.length (ints l) := by
  obtain ⟨l, h1⟩ := get_at (l := H c) (i := i) (by rw [h.ln c hc]; exact hi)
  obtain ⟨v, h2⟩ := get_at (l := vs c) (i := i) (by rw [h.vl c hc]; exact hi)
  have ho := h.own c i _ _ hc h1 h2
  obtain ⟨a, k, e⟩ := owns_slice ho
  rw [e] at ho h2
  exact ⟨l, a, k, h1, h2, (h.fx c hc).get h2, ho⟩
theorem H3.add (h : H3 base sb n H vs w) {c i : Nat} (hc : c < 3) {l : List Int} {v : Value} (hi : (H c)[i]? = some l) (hv : (vs c)[i]? = some v) {x : Int} {g4 cap4 : Nat} (hnew : w'.ownsRow base 3 1 (.slice (some ⟨g4, 0, none⟩) (l.length + 1) cap4) (l.length + 1) (ints l ++ [.int .i64 x]))
    (hold : ∀ k, k < w.heap.size → v.ownBlock ≠ some k → w'.heap[k]? = w.heap[k]?) (hg : v.ownBlock = some g4 ∨ w.heap.size ≤ g4) :
    H3 base sb n (up H c ((H c).set i (l ++ [x]))) (up vs c ((vs c).set i (.slice (some ⟨g4, 0, none⟩) (l.length + 1) cap4))) (w'.setCell ⟨sb c, i, none⟩ (.slice (some ⟨g4, 0, none⟩) (l.length + 1) cap4)) := by
  have hov := h.own c i l v hc hi hv
  have hil : i < n := by rw [← h.ln c hc]; exact (List.getElem?_eq_some_iff.1 hi).1
  have hfx : ∀ d, d < 3 → Fx (sb d) 26 (vs d) w' := fun d hd => (h.fx d hd).keep (hold _ (h.fx d hd).lt (own_fx hov (h.fx d hd) (by decide)))
  have key : ∀ (d j : Nat) (u : Value) (q : Nat), d < 3 → ¬ (d = c ∧ j = i) → (vs d)[j]? = some u → u.ownBlock = some q → q ≠ g4 := by
    intro d j u q hd hne hu hq e
    subst e
    have hm : j < (H d).length := by rw [h.ln d hd, ← h.vl d hd]; exact (List.getElem?_eq_some_iff.1 hu).1
    have ho := h.own d j _ u hd (List.getElem?_eq_getElem hm) hu
    rcases hg with hg | hg
    · exact hne (h.apart d c j i u v _ hd hc hu hv hq hg)
    · have := owns_lt ho hq; omega
  refine ⟨fun d hd => ?_, fun d hd => ?_, fun d hd => ?_, h.lo, h.ne, fun d j l2 u hd h1 h2 => ?_, fun d e j k a b g hd he h1 h2 h3 h4 => ?_⟩
  · by_cases e : d = c
    · subst e; rw [up_at, List.length_set]; exact h.ln d hd
    · rw [up_off e]; exact h.ln d hd
  · by_cases e : d = c
    · subst e; rw [up_at, List.length_set]; exact h.vl d hd
    · rw [up_off e]; exact h.vl d hd
  · by_cases e : d = c
    · subst e; rw [up_at]; exact (hfx d hd).set i _
    · rw [up_off e]; exact (hfx d hd).keep (other_set (h.ne d c hd hc e))
  · have old : ∀ (hne : ¬ (d = c ∧ j = i)), (H d)[j]? = some l2 → (vs d)[j]? = some u → (w'.setCell ⟨sb c, i, none⟩ (.slice (some ⟨g4, 0, none⟩) (l.length + 1) cap4)).ownsRow base 3 1 u l2.length (ints l2) := fun hne a b => by
      have ho := h.own d j l2 u hd a b
      refine owns_keep ho fun g hgu => ?_
      rw [other_set fun (e2 : g = sb c) => own_fx ho (h.fx c hc) (by decide) (e2 ▸ hgu)]
      exact hold g (owns_lt ho hgu) fun e2 => hne (h.apart d c j i u v g hd hc b hv hgu e2)
    by_cases e : d = c
    · subst e
      rw [up_at] at h1 h2
      by_cases e2 : i = j
      · subst e2
        rw [List.getElem?_set_self (by rw [h.ln d hd]; exact hil)] at h1
        rw [List.getElem?_set_self (by rw [h.vl d hd]; exact hil)] at h2
        cases h1
        cases h2
        rw [List.length_append, ints_snoc]
        exact owns_keep hnew fun g e => other_set fun e2 => own_fx hnew (hfx d hd) (by decide) (e2 ▸ e)
      · rw [List.getElem?_set_ne e2] at h1 h2
        exact old (fun x => e2 x.2.symm) h1 h2
    · rw [up_off e] at h1 h2
      exact old (fun x => e x.1) h1 h2
  · have split : ∀ (d j : Nat) (a : Value), (up vs c ((vs c).set i (.slice (some ⟨g4, 0, none⟩) (l.length + 1) cap4)) d)[j]? = some a → (d = c ∧ j = i ∧ a = .slice (some ⟨g4, 0, none⟩) (l.length + 1) cap4) ∨ (¬ (d = c ∧ j = i) ∧ (vs d)[j]? = some a) := by
      intro d j a ha
      by_cases e1 : d = c
      · subst e1
        rw [up_at] at ha
        by_cases e2 : i = j
        · subst e2
          rw [List.getElem?_set_self (by rw [h.vl d hc]; exact hil)] at ha
          exact .inl ⟨rfl, rfl, by cases ha; rfl⟩
        · rw [List.getElem?_set_ne e2] at ha
          exact .inr ⟨fun x => e2 x.2.symm, ha⟩
      · rw [up_off e1] at ha
        exact .inr ⟨fun x => e1 x.1, ha⟩
    rcases split d j a h1 with ⟨a1, a2, a3⟩ | ⟨a1, a2⟩
    · rcases split e k b h2 with ⟨b1, b2, b3⟩ | ⟨b1, b2⟩
      · exact ⟨a1.trans b1.symm, a2.trans b2.symm⟩
      · subst a3
        have : g4 = g := by simpa [Value.ownBlock] using h3
        exact absurd this.symm (key e k b g he b1 b2 h4)
    · rcases split e k b h2 with ⟨b1, b2, b3⟩ | ⟨b1, b2⟩
      · subst b3
        have : g4 = g := by simpa [Value.ownBlock] using h4
        exact absurd this.symm (key d j a g hd a1 a2 h3)
      · exact h.apart d e j k a b g hd he a2 b2 h3 h4
theorem H3.lists (h : H3 base sb n H vs w) {c : Nat} (hc : c < 3) (hn : n ≤ 4096) (hl : ∀ l ∈ H c, l.length ≤ 4096) : Lists w.heap.size w (H c) (.slice (some ⟨sb c, 0, none⟩) n n) := by
  refine ⟨_, n, by rw [h.ln c hc], by rw [h.ln c hc]; omega, by rw [h.ln c hc]; omega, fun i x hi => ?_⟩
  have hin : i < n := by rw [← h.ln c hc]; exact (List.getElem?_eq_some_iff.1 hi).1
  obtain ⟨l, a, k, h1, h2, h3, h4⟩ := h.at hc hin
  rw [hi] at h1
  cases h1
  refine ⟨sb c, 0, [.slice a x.length k], rfl, (h.fx c hc).lt, rfl, fun j u hu => ?_, _, rfl, a, k, rfl, ?_, ?_, fun j y hj => ?_⟩
  · cases j with
    | zero =>
      simp at hu
      subst hu
      rw [Nat.zero_add, Nat.mul_one]
      exact h3
    | succ j => simp at hu
  · rcases h4.2 with ⟨_, e⟩ | ⟨g, cap, cur, e, _, _, hle, _⟩
    · omega
    · cases e; exact hle
  · have := hl x (List.mem_of_getElem? hi); omega
  · obtain ⟨g, cap, e, hcell, -, -⟩ := owns_at (owns_down h4 (Nat.zero_le _)) (x := .int .i64 y) (i := j) (by unfold ints; rw [List.getElem?_map, hj]; rfl)
    cases e
    refine ⟨g, 0, [.int .i64 y], rfl, owns_lt h4 rfl, rfl, fun j2 u hu => ?_, rfl⟩
    cases j2 with
    | zero =>
      simp at hu
      subst hu
      rw [Nat.zero_add, Nat.mul_one]
      exact hcell
    | succ j2 => simp at hu
end
def sbA (A : Ka) (c : Nat) : Nat := if c = 0 then A.s0 else if c = 1 then A.s1 else A.s2
/-- What newKnown makes. -/
structure Nk (base kb : Nat) (A : Ka) (T : Th) (n : Nat) (mv : Value) (R : List Bool) (H : Nat → List (List Int)) (vs : Nat → List Value) (w : World) : Prop where
  bx : Fx kb 67 (knL A T n mv) w
  ff : Fx A.fb 4 (bools R) w
  h3 : H3 base (sbA A) n H vs w
  lk : base ≤ kb
  lf : base ≤ A.fb
section
variable {base kb n : Nat} {A : Ka} {T : Th} {mv : Value} {R : List Bool} {H : Nat → List (List Int)} {vs : Nat → List Value} {w w' : World}
theorem Nk.go (h : Nk base kb A T n mv R H vs w) (hb : Below w.heap.size w w') : Nk base kb A T n mv R H vs w' := ⟨h.bx.keep (hb.block _ h.bx.lt), h.ff.keep (hb.block _ h.ff.lt), h.h3.go hb, h.lk, h.lf⟩
theorem Nk.setF (h : Nk base kb A T n mv R H vs w) (i : Nat) : Nk base kb A T n mv (R.set i true) H vs (w.setCell ⟨A.fb, i, none⟩ (.bool true)) :=
  ⟨h.bx.keep (other_set (fx_ne h.bx h.ff (by decide))), by have := h.ff.set i (.bool true); rw [bools_set] at this; exact this, h.h3.set h.ff (by decide) (by decide), h.lk, h.lf⟩
theorem Nk.add (h : Nk base kb A T n mv R H vs w) {c i : Nat} (hc : c < 3) {l : List Int} {v : Value} (hi : (H c)[i]? = some l) (hv : (vs c)[i]? = some v) {x : Int} {g4 cap4 : Nat} (hnew : w'.ownsRow base 3 1 (.slice (some ⟨g4, 0, none⟩) (l.length + 1) cap4) (l.length + 1) (ints l ++ [.int .i64 x]))
    (hold : ∀ k, k < w.heap.size → v.ownBlock ≠ some k → w'.heap[k]? = w.heap[k]?) (hg : v.ownBlock = some g4 ∨ w.heap.size ≤ g4) :
    Nk base kb A T n mv R (up H c ((H c).set i (l ++ [x]))) (up vs c ((vs c).set i (.slice (some ⟨g4, 0, none⟩) (l.length + 1) cap4))) (w'.setCell ⟨sbA A c, i, none⟩ (.slice (some ⟨g4, 0, none⟩) (l.length + 1) cap4)) := by
  have hov := h.h3.own c i l v hc hi hv
  exact ⟨(h.bx.keep (hold _ h.bx.lt (own_fx hov h.bx (by decide)))).keep (other_set (fx_ne h.bx (h.h3.fx c hc) (by decide))), (h.ff.keep (hold _ h.ff.lt (own_fx hov h.ff (by decide)))).keep (other_set (fx_ne h.ff (h.h3.fx c hc) (by decide))), h.h3.add hc hi hv hnew hold hg, h.lk, h.lf⟩
theorem Nk.start {fb s0 s1 s2 : Nat} {fa ra ba : Option Addr} {fc rc bc : Nat} (hn : T.lits = (n : Int)) (hk0 : w.heap[kb]? = some (.cells #[.int .i64 n, .slice fa T.foes.length fc, .slice ra T.rules.length rc, .slice ba T.beats.length bc, .slice (some ⟨fb, 0, none⟩) n n, .slice (some ⟨s0, 0, none⟩) n n, .slice (some ⟨s1, 0, none⟩) n n, .slice (some ⟨s2, 0, none⟩) n n, mv] 67 (0, 0))) (h0 : w.heap[fb]? = some (.cells (Array.replicate n (.bool false)) 4 (0, 0)))
    (h1 : w.heap[s0]? = some (.cells (Array.replicate n (.slice none 0 0)) 26 (0, 0))) (h2 : w.heap[s1]? = some (.cells (Array.replicate n (.slice none 0 0)) 26 (0, 0))) (h3 : w.heap[s2]? = some (.cells (Array.replicate n (.slice none 0 0)) 26 (0, 0)))
    (l0 : base ≤ kb ∧ base ≤ fb ∧ base ≤ s0 ∧ base ≤ s1 ∧ base ≤ s2) (hd : s0 ≠ s1 ∧ s0 ≠ s2 ∧ s1 ≠ s2) :
    Nk base kb ⟨fa, fc, ra, rc, ba, bc, fb, s0, s1, s2⟩ T n mv (List.replicate n false) (fun _ => List.replicate n []) (fun _ => List.replicate n (.slice none 0 0)) w := by
  have hk : Fx kb 67 (knL ⟨fa, fc, ra, rc, ba, bc, fb, s0, s1, s2⟩ T n mv) w := by
    rw [← hn] at hk0
    exact hk0
  have three : ∀ {P : Nat → Prop}, P 0 → P 1 → P 2 → ∀ c, c < 3 → P c := fun a b d c hc => by
    rcases (show c = 0 ∨ c = 1 ∨ c = 2 by omega) with rfl | rfl | rfl
    · exact a
    · exact b
    · exact d
  have f : ∀ {s : Nat}, w.heap[s]? = some (.cells (Array.replicate n (.slice none 0 0)) 26 (0, 0)) → Fx s 26 (List.replicate n (.slice none 0 0)) w := fun h => by unfold Fx; rw [h]; simp
  refine ⟨hk, by unfold Fx; rw [h0, bools_rep], ⟨fun c _ => by simp, fun c _ => by simp, three (f h1) (f h2) (f h3), three l0.2.2.1 l0.2.2.2.1 l0.2.2.2.2, ?_, fun c i l v _ a b => ?_, fun c d i j v u g _ _ a b e => ?_⟩, l0.1, l0.2.1⟩
  · intro c d hc hd' hne
    rcases (show c = 0 ∨ c = 1 ∨ c = 2 by omega) with rfl | rfl | rfl <;> rcases (show d = 0 ∨ d = 1 ∨ d = 2 by omega) with rfl | rfl | rfl <;> first | exact absurd rfl hne | exact hd.1 | exact hd.2.1 | exact hd.2.2 | exact Ne.symm hd.1 | exact Ne.symm hd.2.1 | exact Ne.symm hd.2.2
  · rw [List.getElem?_replicate] at a b
    split at a
    · rename_i hi
      rw [if_pos hi] at b
      cases a
      cases b
      exact ⟨rfl, .inl ⟨rfl, rfl⟩⟩
    · cases a
  · rw [List.getElem?_replicate] at a
    split at a
    · cases a; cases e
    · cases a
end
/-- What is made, with all that it was made of. -/
def Kq (K : Nat) (A : Ka) (T : Th) (F : List Int) (n : Nat) (mv : Value) (w : World) : Prop := ∃ (base : Nat) (R : List Bool) (H : Nat → List (List Int)) (vs : Nat → List Value), Nk base K A T n mv R H vs w ∧ Fcs n F R ∧ Grp T kS n T.rules.length (H 0) ∧ Grp T kT n T.rules.length (H 1) ∧ Grp T kA n T.rules.length (H 2)
theorem Kq.kn {K n : Nat} {A : Ka} {T : Th} {F m : List Int} {ma : Option Addr} {mc : Nat} {w : World} (h : Kq K A T F n (.slice ma n mc) w) (hp : Pf T F n) (ht : TA w.heap.size w T A.fa A.fc A.ra A.rc A.ba A.bc) (hl : m.length = n) (hm : At1 w ma (u8s m)) : Kn K A T F n m ma mc w := by
  obtain ⟨base, R, H, vs, hk, hf, g0, g1, g2⟩ := h
  have hrl := hp.ok.rl
  have hrow : ∀ (c : Nat) (p : RuleM → Bool), Grp T p n T.rules.length (H c) → ∀ l ∈ H c, l.length ≤ 4096 := fun c p hg l hl => by
    obtain ⟨i, hi⟩ := List.mem_iff_getElem?.1 hl
    exact Nat.le_trans (hg.row_le hi) hrl
  refine ⟨hp, hk.bx, ht, ?_, ?_, ?_, ?_, hl, hm⟩
  · have := hk.ff
    have e : R = facB F n := by
      apply List.ext_getElem?
      intro i
      by_cases hi : i < n
      · have h1 := hf.at_ i hi
        rw [List.getD_eq_getElem?_getD, List.getElem?_eq_getElem (by rw [hf.ln]; exact hi)] at h1
        rw [List.getElem?_eq_getElem (by rw [hf.ln]; exact hi)]
        unfold facB
        rw [List.getElem?_map, List.getElem?_range hi]
        exact congrArg some h1
      · rw [List.getElem?_eq_none (by rw [hf.ln]; omega), List.getElem?_eq_none (by unfold facB; simp; omega)]
    rw [e] at this
    exact this
  · have := hk.h3.lists (c := 0) (by omega) hp.n4 (hrow 0 _ g0)
    rw [g0.done] at this
    exact this
  · have := hk.h3.lists (c := 1) (by omega) hp.n4 (hrow 1 _ g1)
    rw [g1.done] at this
    exact this
  · have := hk.h3.lists (c := 2) (by omega) hp.n4 (hrow 2 _ g2)
    rw [g2.done] at this
    exact this
theorem Kq.go {K n : Nat} {A : Ka} {T : Th} {F : List Int} {mv : Value} {w w' : World} (h : Kq K A T F n mv w) (hb : Below w.heap.size w w') : Kq K A T F n mv w' := by
  obtain ⟨base, R, H, vs, hk, hr⟩ := h
  exact ⟨base, R, H, vs, hk.go hb, hr⟩
/-- Another mark list in its place. -/
theorem Kq.set {K n : Nat} {A : Ka} {T : Th} {F : List Int} {mv : Value} {w : World} (h : Kq K A T F n mv w) (v : Value) : Kq K A T F n v (w.setCell ⟨K, 8, none⟩ v) := by
  obtain ⟨base, R, H, vs, hk, hr⟩ := h
  exact ⟨base, R, H, vs, ⟨hk.bx.set 8 v, hk.ff.keep (other_set (fx_ne hk.ff hk.bx (by decide))), hk.h3.set hk.bx (by decide) (by decide), hk.lk, hk.lf⟩, hr⟩
theorem alloc5 (W : World) (o1 o2 o3 o4 o5 : Obj) : Below W.heap.size W (((((W.alloc o1).alloc o2).alloc o3).alloc o4).alloc o5) ∧ (((((W.alloc o1).alloc o2).alloc o3).alloc o4).alloc o5).heap[W.heap.size]? = some o1 ∧ (((((W.alloc o1).alloc o2).alloc o3).alloc o4).alloc o5).heap[W.heap.size + 1]? = some o2 ∧ (((((W.alloc o1).alloc o2).alloc o3).alloc o4).alloc o5).heap[W.heap.size + 1 + 1]? = some o3 ∧ (((((W.alloc o1).alloc o2).alloc o3).alloc o4).alloc o5).heap[W.heap.size + 1 + 1 + 1]? = some o4 ∧ (((((W.alloc o1).alloc o2).alloc o3).alloc o4).alloc o5).heap[W.heap.size + 1 + 1 + 1 + 1]? = some o5 := by
  have e1 := below_new W o1
  have e2 := below_new (W.alloc o1) o2
  have e3 := below_new ((W.alloc o1).alloc o2) o3
  have e4 := below_new (((W.alloc o1).alloc o2).alloc o3) o4
  have e5 := below_new ((((W.alloc o1).alloc o2).alloc o3).alloc o4) o5
  have s1 : (W.alloc o1).heap.size = W.heap.size + 1 := by simp
  have s2 : ((W.alloc o1).alloc o2).heap.size = W.heap.size + 1 + 1 := by simp
  have s3 : (((W.alloc o1).alloc o2).alloc o3).heap.size = W.heap.size + 1 + 1 + 1 := by simp
  have s4 : ((((W.alloc o1).alloc o2).alloc o3).alloc o4).heap.size = W.heap.size + 1 + 1 + 1 + 1 := by simp
  have n1 := heap_alloc_new W o1
  have n2 := heap_alloc_new (W.alloc o1) o2
  have n3 := heap_alloc_new ((W.alloc o1).alloc o2) o3
  have n4 := heap_alloc_new (((W.alloc o1).alloc o2).alloc o3) o4
  have n5 := heap_alloc_new ((((W.alloc o1).alloc o2).alloc o3).alloc o4) o5
  rw [s1] at n2 e2
  rw [s2] at n3 e3
  rw [s3] at n4 e4
  rw [s4] at n5 e5
  refine ⟨e1.trans ((e2.mono (by omega)).trans ((e3.mono (by omega)).trans ((e4.mono (by omega)).trans (e5.mono (by omega))))), ?_, ?_, ?_, ?_, n5⟩
  · rw [e5.block _ (by omega), e4.block _ (by omega), e3.block _ (by omega), e2.block _ (by omega), n1]
  · rw [e5.block _ (by omega), e4.block _ (by omega), e3.block _ (by omega), n2]
  · rw [e5.block _ (by omega), e4.block _ (by omega), n3]
  · rw [e5.block _ (by omega), n4]
set_option maxRecDepth 100000 in
set_option maxHeartbeats 12800000 in
theorem newKnown_any {w : World} {T : Th} {F : List Int} {n : Nat} {fa ra ba ea ma : Option Addr} {fc rc bc ec mc : Nat} (h : TA w.heap.size w T fa fc ra rc ba bc) (hF : Ints w.heap.size w F (.slice ea F.length ec)) (hp : Pf T F n) :
    Calls Tryz.prog 21 #[tv T fa fc ra rc ba bc, .slice ea F.length ec, .slice ma n mc] w fun e w' => ∃ K A, e = .returned (ptr K) ∧ Kq K A T F n (.slice ma n mc) w' ∧ (∀ w2, Below w.heap.size w w2 → TA w2.heap.size w2 T A.fa A.fc A.ra A.rc A.ba A.bc) ∧ w.heap.size ≤ K ∧ Below w.heap.size w w' := by
  obtain ⟨iI, hiI, zI0, zI1, zI2⟩ := info_parts infoI
  obtain ⟨iB, hiB, zB0, zB1, zB2⟩ := info_parts infoBo
  obtain ⟨iL, hiL, zL0, zL1, zL2⟩ := info_parts infoL
  have hn4 := hp.n4
  have hrl := hp.ok.rl
  have hFl := hF.lim
  have HN0 := hide hp.ln
  have HP := hide hp
  have hm2 := fun W => run_make_fix (P := Tryz.prog) Tryz.underlying65 hiB zB0 zB1 rfl n (by rw [zB2]; omega) (by unfold maxLen; omega) W
  have hm4 := fun W => run_make_fix (P := Tryz.prog) Tryz.underlying22 hiL zL0 zL1 rfl n (by rw [zL2]; omega) (by unfold maxLen; omega) W
  have hB := below_new w (.cells #[.int .i64 T.lits, .slice fa T.foes.length fc, .slice ra T.rules.length rc, .slice ba T.beats.length bc] 25)
  have hX := heap_alloc_new w (.cells #[.int .i64 T.lits, .slice fa T.foes.length fc, .slice ra T.rules.length rc, .slice ba T.beats.length bc] 25)
  have HTA := hide h
  have HF := hide hF
  have HB := hide hB
  clear h hB hF hp
  go_enter Tryz.func21, Tryz.ntmps21
  go_upto_region 1 with fail
  rw [HN0.out] at hX HB
  rw [HN0.out]
  have HX := hide hX
  generalize w.alloc (.cells #[.int .i64 n, .slice fa T.foes.length fc, .slice ra T.rules.length rc, .slice ba T.beats.length bc] 25) = W at *
  obtain ⟨-, c0, c1, c2, c3⟩ := Bt.of hX
  clear hX
  have HT : S4 W ⟨w.heap.size, 0, none⟩ ⟨w.heap.size, 1, none⟩ ⟨w.heap.size, 2, none⟩ ⟨w.heap.size, 3, none⟩ (.int .i64 n) (.slice fa T.foes.length fc) (.slice ra T.rules.length rc) (.slice ba T.beats.length bc) W := ⟨c0, c1, c2, c3, Below.refl _ _⟩
  go_cut [7] from 12 to 27 (fun s wc => ∃ kb fb s0 s1 s2, s = ptr kb ∧ Hid (Nk W.heap.size kb ⟨fa, fc, ra, rc, ba, bc, fb, s0, s1, s2⟩ T n (.slice ma n mc) (List.replicate n false) (fun _ => List.replicate n []) (fun _ => List.replicate n (.slice none 0 0)) wc) ∧ Hid (Below W.heap.size W wc))
  case first =>
    go_region_held3 (fun X : World => S4 W ⟨w.heap.size, 0, none⟩ ⟨w.heap.size, 1, none⟩ ⟨w.heap.size, 2, none⟩ ⟨w.heap.size, 3, none⟩ (.int .i64 n) (.slice fa T.foes.length fc) (.slice ra T.rules.length rc) (.slice ba T.beats.length bc) X) (first | exact S4.drew ‹_› | assumption | exact S4.below ‹_› (below_new _ _)) (fail)
    all_goals (go_wp2_with fail; go_meet)
    · exact ⟨_, _, _, _, _, rfl, hide (Nk.start HN0.out (alloc5 W.drew _ _ _ _ _).2.2.2.2.2 (alloc5 W.drew _ _ _ _ _).2.1 (alloc5 W.drew _ _ _ _ _).2.2.1 (alloc5 W.drew _ _ _ _ _).2.2.2.1 (alloc5 W.drew _ _ _ _ _).2.2.2.2.1 (by refine ⟨?_, ?_, ?_, ?_, ?_⟩ <;> (show W.heap.size ≤ _; omega)) (by omega)), hide ⟨(alloc5 W.drew _ _ _ _ _).1.os, (alloc5 W.drew _ _ _ _ _).1.tape, (alloc5 W.drew _ _ _ _ _).1.output, (alloc5 W.drew _ _ _ _ _).1.size, (alloc5 W.drew _ _ _ _ _).1.block⟩⟩
    · exact ⟨_, _, _, _, _, rfl, hide (Nk.start HN0.out (alloc5 W.drew _ _ _ _ _).2.2.2.2.2 (alloc5 W.drew _ _ _ _ _).2.1 (alloc5 W.drew _ _ _ _ _).2.2.1 (alloc5 W.drew _ _ _ _ _).2.2.2.2.1 (alloc5 W.drew _ _ _ _ _).2.2.2.1 (by refine ⟨?_, ?_, ?_, ?_, ?_⟩ <;> (show W.heap.size ≤ _; omega)) (by omega)), hide ⟨(alloc5 W.drew _ _ _ _ _).1.os, (alloc5 W.drew _ _ _ _ _).1.tape, (alloc5 W.drew _ _ _ _ _).1.output, (alloc5 W.drew _ _ _ _ _).1.size, (alloc5 W.drew _ _ _ _ _).1.block⟩⟩
    · exact ⟨_, _, _, _, _, rfl, hide (Nk.start HN0.out (alloc5 W.drew _ _ _ _ _).2.2.2.2.2 (alloc5 W.drew _ _ _ _ _).2.1 (alloc5 W.drew _ _ _ _ _).2.2.2.1 (alloc5 W.drew _ _ _ _ _).2.2.1 (alloc5 W.drew _ _ _ _ _).2.2.2.2.1 (by refine ⟨?_, ?_, ?_, ?_, ?_⟩ <;> (show W.heap.size ≤ _; omega)) (by omega)), hide ⟨(alloc5 W.drew _ _ _ _ _).1.os, (alloc5 W.drew _ _ _ _ _).1.tape, (alloc5 W.drew _ _ _ _ _).1.output, (alloc5 W.drew _ _ _ _ _).1.size, (alloc5 W.drew _ _ _ _ _).1.block⟩⟩
    · exact ⟨_, _, _, _, _, rfl, hide (Nk.start HN0.out (alloc5 W.drew _ _ _ _ _).2.2.2.2.2 (alloc5 W.drew _ _ _ _ _).2.1 (alloc5 W.drew _ _ _ _ _).2.2.2.2.1 (alloc5 W.drew _ _ _ _ _).2.2.1 (alloc5 W.drew _ _ _ _ _).2.2.2.1 (by refine ⟨?_, ?_, ?_, ?_, ?_⟩ <;> (show W.heap.size ≤ _; omega)) (by omega)), hide ⟨(alloc5 W.drew _ _ _ _ _).1.os, (alloc5 W.drew _ _ _ _ _).1.tape, (alloc5 W.drew _ _ _ _ _).1.output, (alloc5 W.drew _ _ _ _ _).1.size, (alloc5 W.drew _ _ _ _ _).1.block⟩⟩
    · exact ⟨_, _, _, _, _, rfl, hide (Nk.start HN0.out (alloc5 W.drew _ _ _ _ _).2.2.2.2.2 (alloc5 W.drew _ _ _ _ _).2.1 (alloc5 W.drew _ _ _ _ _).2.2.2.1 (alloc5 W.drew _ _ _ _ _).2.2.2.2.1 (alloc5 W.drew _ _ _ _ _).2.2.1 (by refine ⟨?_, ?_, ?_, ?_, ?_⟩ <;> (show W.heap.size ≤ _; omega)) (by omega)), hide ⟨(alloc5 W.drew _ _ _ _ _).1.os, (alloc5 W.drew _ _ _ _ _).1.tape, (alloc5 W.drew _ _ _ _ _).1.output, (alloc5 W.drew _ _ _ _ _).1.size, (alloc5 W.drew _ _ _ _ _).1.block⟩⟩
    · exact ⟨_, _, _, _, _, rfl, hide (Nk.start HN0.out (alloc5 W.drew _ _ _ _ _).2.2.2.2.2 (alloc5 W.drew _ _ _ _ _).2.1 (alloc5 W.drew _ _ _ _ _).2.2.2.2.1 (alloc5 W.drew _ _ _ _ _).2.2.2.1 (alloc5 W.drew _ _ _ _ _).2.2.1 (by refine ⟨?_, ?_, ?_, ?_, ?_⟩ <;> (show W.heap.size ≤ _; omega)) (by omega)), hide ⟨(alloc5 W.drew _ _ _ _ _).1.os, (alloc5 W.drew _ _ _ _ _).1.tape, (alloc5 W.drew _ _ _ _ _).1.output, (alloc5 W.drew _ _ _ _ _).1.size, (alloc5 W.drew _ _ _ _ _).1.block⟩⟩
    · exact ⟨_, _, _, _, _, rfl, hide (Nk.start HN0.out (alloc5 W.drew _ _ _ _ _).2.2.2.2.2 (alloc5 W.drew _ _ _ _ _).2.2.1 (alloc5 W.drew _ _ _ _ _).2.1 (alloc5 W.drew _ _ _ _ _).2.2.2.1 (alloc5 W.drew _ _ _ _ _).2.2.2.2.1 (by refine ⟨?_, ?_, ?_, ?_, ?_⟩ <;> (show W.heap.size ≤ _; omega)) (by omega)), hide ⟨(alloc5 W.drew _ _ _ _ _).1.os, (alloc5 W.drew _ _ _ _ _).1.tape, (alloc5 W.drew _ _ _ _ _).1.output, (alloc5 W.drew _ _ _ _ _).1.size, (alloc5 W.drew _ _ _ _ _).1.block⟩⟩
    · exact ⟨_, _, _, _, _, rfl, hide (Nk.start HN0.out (alloc5 W.drew _ _ _ _ _).2.2.2.2.2 (alloc5 W.drew _ _ _ _ _).2.2.1 (alloc5 W.drew _ _ _ _ _).2.1 (alloc5 W.drew _ _ _ _ _).2.2.2.2.1 (alloc5 W.drew _ _ _ _ _).2.2.2.1 (by refine ⟨?_, ?_, ?_, ?_, ?_⟩ <;> (show W.heap.size ≤ _; omega)) (by omega)), hide ⟨(alloc5 W.drew _ _ _ _ _).1.os, (alloc5 W.drew _ _ _ _ _).1.tape, (alloc5 W.drew _ _ _ _ _).1.output, (alloc5 W.drew _ _ _ _ _).1.size, (alloc5 W.drew _ _ _ _ _).1.block⟩⟩
    · exact ⟨_, _, _, _, _, rfl, hide (Nk.start HN0.out (alloc5 W.drew _ _ _ _ _).2.2.2.2.2 (alloc5 W.drew _ _ _ _ _).2.2.2.1 (alloc5 W.drew _ _ _ _ _).2.1 (alloc5 W.drew _ _ _ _ _).2.2.1 (alloc5 W.drew _ _ _ _ _).2.2.2.2.1 (by refine ⟨?_, ?_, ?_, ?_, ?_⟩ <;> (show W.heap.size ≤ _; omega)) (by omega)), hide ⟨(alloc5 W.drew _ _ _ _ _).1.os, (alloc5 W.drew _ _ _ _ _).1.tape, (alloc5 W.drew _ _ _ _ _).1.output, (alloc5 W.drew _ _ _ _ _).1.size, (alloc5 W.drew _ _ _ _ _).1.block⟩⟩
    · exact ⟨_, _, _, _, _, rfl, hide (Nk.start HN0.out (alloc5 W.drew _ _ _ _ _).2.2.2.2.2 (alloc5 W.drew _ _ _ _ _).2.2.2.2.1 (alloc5 W.drew _ _ _ _ _).2.1 (alloc5 W.drew _ _ _ _ _).2.2.1 (alloc5 W.drew _ _ _ _ _).2.2.2.1 (by refine ⟨?_, ?_, ?_, ?_, ?_⟩ <;> (show W.heap.size ≤ _; omega)) (by omega)), hide ⟨(alloc5 W.drew _ _ _ _ _).1.os, (alloc5 W.drew _ _ _ _ _).1.tape, (alloc5 W.drew _ _ _ _ _).1.output, (alloc5 W.drew _ _ _ _ _).1.size, (alloc5 W.drew _ _ _ _ _).1.block⟩⟩
    · exact ⟨_, _, _, _, _, rfl, hide (Nk.start HN0.out (alloc5 W.drew _ _ _ _ _).2.2.2.2.2 (alloc5 W.drew _ _ _ _ _).2.2.2.1 (alloc5 W.drew _ _ _ _ _).2.1 (alloc5 W.drew _ _ _ _ _).2.2.2.2.1 (alloc5 W.drew _ _ _ _ _).2.2.1 (by refine ⟨?_, ?_, ?_, ?_, ?_⟩ <;> (show W.heap.size ≤ _; omega)) (by omega)), hide ⟨(alloc5 W.drew _ _ _ _ _).1.os, (alloc5 W.drew _ _ _ _ _).1.tape, (alloc5 W.drew _ _ _ _ _).1.output, (alloc5 W.drew _ _ _ _ _).1.size, (alloc5 W.drew _ _ _ _ _).1.block⟩⟩
    · exact ⟨_, _, _, _, _, rfl, hide (Nk.start HN0.out (alloc5 W.drew _ _ _ _ _).2.2.2.2.2 (alloc5 W.drew _ _ _ _ _).2.2.2.2.1 (alloc5 W.drew _ _ _ _ _).2.1 (alloc5 W.drew _ _ _ _ _).2.2.2.1 (alloc5 W.drew _ _ _ _ _).2.2.1 (by refine ⟨?_, ?_, ?_, ?_, ?_⟩ <;> (show W.heap.size ≤ _; omega)) (by omega)), hide ⟨(alloc5 W.drew _ _ _ _ _).1.os, (alloc5 W.drew _ _ _ _ _).1.tape, (alloc5 W.drew _ _ _ _ _).1.output, (alloc5 W.drew _ _ _ _ _).1.size, (alloc5 W.drew _ _ _ _ _).1.block⟩⟩
    · exact ⟨_, _, _, _, _, rfl, hide (Nk.start HN0.out (alloc5 W.drew _ _ _ _ _).2.2.2.2.2 (alloc5 W.drew _ _ _ _ _).2.2.1 (alloc5 W.drew _ _ _ _ _).2.2.2.1 (alloc5 W.drew _ _ _ _ _).2.1 (alloc5 W.drew _ _ _ _ _).2.2.2.2.1 (by refine ⟨?_, ?_, ?_, ?_, ?_⟩ <;> (show W.heap.size ≤ _; omega)) (by omega)), hide ⟨(alloc5 W.drew _ _ _ _ _).1.os, (alloc5 W.drew _ _ _ _ _).1.tape, (alloc5 W.drew _ _ _ _ _).1.output, (alloc5 W.drew _ _ _ _ _).1.size, (alloc5 W.drew _ _ _ _ _).1.block⟩⟩
    · exact ⟨_, _, _, _, _, rfl, hide (Nk.start HN0.out (alloc5 W.drew _ _ _ _ _).2.2.2.2.2 (alloc5 W.drew _ _ _ _ _).2.2.1 (alloc5 W.drew _ _ _ _ _).2.2.2.2.1 (alloc5 W.drew _ _ _ _ _).2.1 (alloc5 W.drew _ _ _ _ _).2.2.2.1 (by refine ⟨?_, ?_, ?_, ?_, ?_⟩ <;> (show W.heap.size ≤ _; omega)) (by omega)), hide ⟨(alloc5 W.drew _ _ _ _ _).1.os, (alloc5 W.drew _ _ _ _ _).1.tape, (alloc5 W.drew _ _ _ _ _).1.output, (alloc5 W.drew _ _ _ _ _).1.size, (alloc5 W.drew _ _ _ _ _).1.block⟩⟩
    · exact ⟨_, _, _, _, _, rfl, hide (Nk.start HN0.out (alloc5 W.drew _ _ _ _ _).2.2.2.2.2 (alloc5 W.drew _ _ _ _ _).2.2.2.1 (alloc5 W.drew _ _ _ _ _).2.2.1 (alloc5 W.drew _ _ _ _ _).2.1 (alloc5 W.drew _ _ _ _ _).2.2.2.2.1 (by refine ⟨?_, ?_, ?_, ?_, ?_⟩ <;> (show W.heap.size ≤ _; omega)) (by omega)), hide ⟨(alloc5 W.drew _ _ _ _ _).1.os, (alloc5 W.drew _ _ _ _ _).1.tape, (alloc5 W.drew _ _ _ _ _).1.output, (alloc5 W.drew _ _ _ _ _).1.size, (alloc5 W.drew _ _ _ _ _).1.block⟩⟩
    · exact ⟨_, _, _, _, _, rfl, hide (Nk.start HN0.out (alloc5 W.drew _ _ _ _ _).2.2.2.2.2 (alloc5 W.drew _ _ _ _ _).2.2.2.2.1 (alloc5 W.drew _ _ _ _ _).2.2.1 (alloc5 W.drew _ _ _ _ _).2.1 (alloc5 W.drew _ _ _ _ _).2.2.2.1 (by refine ⟨?_, ?_, ?_, ?_, ?_⟩ <;> (show W.heap.size ≤ _; omega)) (by omega)), hide ⟨(alloc5 W.drew _ _ _ _ _).1.os, (alloc5 W.drew _ _ _ _ _).1.tape, (alloc5 W.drew _ _ _ _ _).1.output, (alloc5 W.drew _ _ _ _ _).1.size, (alloc5 W.drew _ _ _ _ _).1.block⟩⟩
    · exact ⟨_, _, _, _, _, rfl, hide (Nk.start HN0.out (alloc5 W.drew _ _ _ _ _).2.2.2.2.2 (alloc5 W.drew _ _ _ _ _).2.2.2.1 (alloc5 W.drew _ _ _ _ _).2.2.2.2.1 (alloc5 W.drew _ _ _ _ _).2.1 (alloc5 W.drew _ _ _ _ _).2.2.1 (by refine ⟨?_, ?_, ?_, ?_, ?_⟩ <;> (show W.heap.size ≤ _; omega)) (by omega)), hide ⟨(alloc5 W.drew _ _ _ _ _).1.os, (alloc5 W.drew _ _ _ _ _).1.tape, (alloc5 W.drew _ _ _ _ _).1.output, (alloc5 W.drew _ _ _ _ _).1.size, (alloc5 W.drew _ _ _ _ _).1.block⟩⟩
    · exact ⟨_, _, _, _, _, rfl, hide (Nk.start HN0.out (alloc5 W.drew _ _ _ _ _).2.2.2.2.2 (alloc5 W.drew _ _ _ _ _).2.2.2.2.1 (alloc5 W.drew _ _ _ _ _).2.2.2.1 (alloc5 W.drew _ _ _ _ _).2.1 (alloc5 W.drew _ _ _ _ _).2.2.1 (by refine ⟨?_, ?_, ?_, ?_, ?_⟩ <;> (show W.heap.size ≤ _; omega)) (by omega)), hide ⟨(alloc5 W.drew _ _ _ _ _).1.os, (alloc5 W.drew _ _ _ _ _).1.tape, (alloc5 W.drew _ _ _ _ _).1.output, (alloc5 W.drew _ _ _ _ _).1.size, (alloc5 W.drew _ _ _ _ _).1.block⟩⟩
    · exact ⟨_, _, _, _, _, rfl, hide (Nk.start HN0.out (alloc5 W.drew _ _ _ _ _).2.2.2.2.2 (alloc5 W.drew _ _ _ _ _).2.2.1 (alloc5 W.drew _ _ _ _ _).2.2.2.1 (alloc5 W.drew _ _ _ _ _).2.2.2.2.1 (alloc5 W.drew _ _ _ _ _).2.1 (by refine ⟨?_, ?_, ?_, ?_, ?_⟩ <;> (show W.heap.size ≤ _; omega)) (by omega)), hide ⟨(alloc5 W.drew _ _ _ _ _).1.os, (alloc5 W.drew _ _ _ _ _).1.tape, (alloc5 W.drew _ _ _ _ _).1.output, (alloc5 W.drew _ _ _ _ _).1.size, (alloc5 W.drew _ _ _ _ _).1.block⟩⟩
    · exact ⟨_, _, _, _, _, rfl, hide (Nk.start HN0.out (alloc5 W.drew _ _ _ _ _).2.2.2.2.2 (alloc5 W.drew _ _ _ _ _).2.2.1 (alloc5 W.drew _ _ _ _ _).2.2.2.2.1 (alloc5 W.drew _ _ _ _ _).2.2.2.1 (alloc5 W.drew _ _ _ _ _).2.1 (by refine ⟨?_, ?_, ?_, ?_, ?_⟩ <;> (show W.heap.size ≤ _; omega)) (by omega)), hide ⟨(alloc5 W.drew _ _ _ _ _).1.os, (alloc5 W.drew _ _ _ _ _).1.tape, (alloc5 W.drew _ _ _ _ _).1.output, (alloc5 W.drew _ _ _ _ _).1.size, (alloc5 W.drew _ _ _ _ _).1.block⟩⟩
    · exact ⟨_, _, _, _, _, rfl, hide (Nk.start HN0.out (alloc5 W.drew _ _ _ _ _).2.2.2.2.2 (alloc5 W.drew _ _ _ _ _).2.2.2.1 (alloc5 W.drew _ _ _ _ _).2.2.1 (alloc5 W.drew _ _ _ _ _).2.2.2.2.1 (alloc5 W.drew _ _ _ _ _).2.1 (by refine ⟨?_, ?_, ?_, ?_, ?_⟩ <;> (show W.heap.size ≤ _; omega)) (by omega)), hide ⟨(alloc5 W.drew _ _ _ _ _).1.os, (alloc5 W.drew _ _ _ _ _).1.tape, (alloc5 W.drew _ _ _ _ _).1.output, (alloc5 W.drew _ _ _ _ _).1.size, (alloc5 W.drew _ _ _ _ _).1.block⟩⟩
    · exact ⟨_, _, _, _, _, rfl, hide (Nk.start HN0.out (alloc5 W.drew _ _ _ _ _).2.2.2.2.2 (alloc5 W.drew _ _ _ _ _).2.2.2.2.1 (alloc5 W.drew _ _ _ _ _).2.2.1 (alloc5 W.drew _ _ _ _ _).2.2.2.1 (alloc5 W.drew _ _ _ _ _).2.1 (by refine ⟨?_, ?_, ?_, ?_, ?_⟩ <;> (show W.heap.size ≤ _; omega)) (by omega)), hide ⟨(alloc5 W.drew _ _ _ _ _).1.os, (alloc5 W.drew _ _ _ _ _).1.tape, (alloc5 W.drew _ _ _ _ _).1.output, (alloc5 W.drew _ _ _ _ _).1.size, (alloc5 W.drew _ _ _ _ _).1.block⟩⟩
    · exact ⟨_, _, _, _, _, rfl, hide (Nk.start HN0.out (alloc5 W.drew _ _ _ _ _).2.2.2.2.2 (alloc5 W.drew _ _ _ _ _).2.2.2.1 (alloc5 W.drew _ _ _ _ _).2.2.2.2.1 (alloc5 W.drew _ _ _ _ _).2.2.1 (alloc5 W.drew _ _ _ _ _).2.1 (by refine ⟨?_, ?_, ?_, ?_, ?_⟩ <;> (show W.heap.size ≤ _; omega)) (by omega)), hide ⟨(alloc5 W.drew _ _ _ _ _).1.os, (alloc5 W.drew _ _ _ _ _).1.tape, (alloc5 W.drew _ _ _ _ _).1.output, (alloc5 W.drew _ _ _ _ _).1.size, (alloc5 W.drew _ _ _ _ _).1.block⟩⟩
    · exact ⟨_, _, _, _, _, rfl, hide (Nk.start HN0.out (alloc5 W.drew _ _ _ _ _).2.2.2.2.2 (alloc5 W.drew _ _ _ _ _).2.2.2.2.1 (alloc5 W.drew _ _ _ _ _).2.2.2.1 (alloc5 W.drew _ _ _ _ _).2.2.1 (alloc5 W.drew _ _ _ _ _).2.1 (by refine ⟨?_, ?_, ?_, ?_, ?_⟩ <;> (show W.heap.size ≤ _; omega)) (by omega)), hide ⟨(alloc5 W.drew _ _ _ _ _).1.os, (alloc5 W.drew _ _ _ _ _).1.tape, (alloc5 W.drew _ _ _ _ _).1.output, (alloc5 W.drew _ _ _ _ _).1.size, (alloc5 W.drew _ _ _ _ _).1.block⟩⟩
  case rest =>
    obtain ⟨kb, fb, s0, s1, s2, rfl, HNK, HBc⟩ := hcut
    clear hm2 hm4 HT c0 c1 c2 c3
    have HX1 := hide ((HBc.out.block _ (loc_lt HX.out)).trans HX.out)
    have hQW : w.heap.size < W.heap.size := loc_lt HX.out
    go_upto_region 3 with fail
    go_loopw [30] (fun x wr => ∃ (k : Nat) (R : List Bool), k ≤ F.length ∧ x = .int .i64 k ∧ Hid (Fcs n (F.take k) R) ∧ Hid (Nk W.heap.size kb ⟨fa, fc, ra, rc, ba, bc, fb, s0, s1, s2⟩ T n (.slice ma n mc) R (fun _ => List.replicate n []) (fun _ => List.replicate n (.slice none 0 0)) wr) ∧ Hid (Below W.heap.size W wr)) (fun x _ => F.length - (intOf x).toNat)
    case atStart => exact ⟨0, _, by omega, rfl, hide (Fcs.start n), HNK, HBc⟩
    case round =>
      clear HNK HBc
      obtain ⟨k, R, hk, rfl, HFC, HNK, HBr⟩ := hrel
      by_cases hlt : k < F.length
      · obtain ⟨x, hx⟩ := get_at hlt
        obtain ⟨x0, x1⟩ := HP.out.fact x (List.mem_of_getElem? hx)
        obtain ⟨xm, rfl⟩ := Int.eq_ofNat_of_zero_le x0
        have hxn : xm < n := by omega
        obtain ⟨g, gg, rfl, cx⟩ := ((HF.out.at1.below HB.out).below HBr.out).get hx
        have kc := HNK.out.bx.get (i := 4) rfl
        have f0 := HNK.out.ff.get (bools_at (i := xm) (by rw [HFC.out.ln]; exact hxn))
        have fz := HNK.out.ff.frz xm
        have HFC2 : Hid (Fcs n (F.take (k + 1)) (R.set xm true)) := hide (by rw [take_snoc hx]; exact HFC.out.add hxn)
        have HN2 := hide (HNK.out.setF xm)
        have HB2 := hide (HBr.out.setCell (p := ⟨fb, xm, none⟩) HNK.out.lf (.bool true))
        change Hid (Nk W.heap.size kb ⟨fa, fc, ra, rc, ba, bc, fb, s0, s1, s2⟩ T n (.slice ma n mc) (R.set xm true) (fun _ => List.replicate n []) (fun _ => List.replicate n (.slice none 0 0)) (wr.setCell ⟨fb, xm, none⟩ (.bool true))) at HN2
        clear hx HFC HNK HBr x0
        go_wp2_with fail
        go_roundw
        case rel => exact ⟨k + 1, _, by omega, by go_num, HFC2, HN2, HB2⟩
        case measure => simp [intOf]; omega
      · have HFD : Hid (Fcs n F R) := hide (by have := HFC.out; rw [List.take_of_length_le (by omega)] at this; exact this)
        have HX2 := hide ((HBr.out.block _ hQW).trans HX.out)
        obtain ⟨-, c0, c1, c2, c3⟩ := Bt.of HX2.out
        clear HFC HX1
        go_upto_region 8 with fail
        clear c0 c1 c2 c3
        go_loopw [44] (fun x wr => ∃ (k : Nat) (H : Nat → List (List Int)) (vs : Nat → List Value), k ≤ T.rules.length ∧ x = .int .i64 k ∧ Hid (Grp T kS n k (H 0)) ∧ Hid (Grp T kT n k (H 1)) ∧ Hid (Grp T kA n k (H 2)) ∧ Hid (Nk W.heap.size kb ⟨fa, fc, ra, rc, ba, bc, fb, s0, s1, s2⟩ T n (.slice ma n mc) R H vs wr) ∧ Hid (Below W.heap.size W wr)) (fun x _ => T.rules.length - (intOf x).toNat)
        case atStart => exact ⟨0, _, _, by omega, rfl, hide (Grp.start T kS n), hide (Grp.start T kT n), hide (Grp.start T kA n), HNK, HBr⟩
        case round =>
          clear HNK HBr HX2 hlt hk
          obtain ⟨k, H, vs, hk, rfl, HG0, HG1, HG2, HNK, HBr⟩ := hrel
          by_cases hlt : k < T.rules.length
          · obtain ⟨r, hr⟩ := get_at hlt
            obtain ⟨gr, go, bd, bp, rfl, hgr, x0, x1, x2, -, hbl, -⟩ := at_R (TR.go HBr.out (TR.go HB.out HTA.out)).rules hr
            have hmem := List.mem_of_getElem? hr
            have hh := HP.out.head r hmem
            have hkd := HP.out.ok.rule r hmem
            obtain ⟨xm, hhm⟩ := Int.eq_ofNat_of_zero_le hh.1
            have hxn : xm < n := by omega
            have HHM := hide hhm
            have HRr := hide hr
            have hA := below_new wr (.cells #[.int .i64 r.kind, .int .i64 r.head, .slice bd r.body.length bp] 63)
            have HNq := hide (HNK.out.go hA)
            have HBq := hide (HBr.out.trans (hA.mono HBr.out.size))
            have HQ : Hid (Fx wr.heap.size 63 [.int .i64 r.kind, .int .i64 r.head, .slice bd r.body.length bp] (wr.alloc (.cells #[.int .i64 r.kind, .int .i64 r.head, .slice bd r.body.length bp] 63))) := hide (heap_alloc_new wr _)
            have hk3 : r.kind = 1 ∨ r.kind = 2 ∨ r.kind = 3 := by have := hkd.1; have := hkd.2.1; omega
            rw [hhm] at x1 HNq HBq HQ
            clear hr hmem hA HNK HBr hh hhm hkd
            rcases hk3 with hk3 | hk3 | hk3
            · have HP0 : Hid (kS r = true) := hide (by unfold kS; rw [hk3]; rfl)
              have HP1 : Hid (kT r = true) := hide (by unfold kT; rw [hk3]; rfl)
              have HP2 : Hid (kA r = true) := hide rfl
              rw [hk3] at x0 HNq HBq HQ
              clear hk3
              go_upto_region 10 with fail
              generalize wr.alloc (.cells #[.int .i64 1, .int .i64 xm, .slice bd r.body.length bp] 63) = wq at *
              generalize hq : wr.heap.size = q at *
              clear x0 x1 x2
              have z0 := HQ.out.get (i := 0) rfl
              have hd0 := (Below.refl wq.heap.size wq).drew
              have HNd0 := hide (HNq.out.go hd0)
              have HQd0 := hide (HQ.out.keep (hd0.block _ HQ.out.lt))
              have HBd0 := hide (HBq.out.trans (hd0.mono HBq.out.size))
              have kc0 := HNq.out.bx.get (i := 5) rfl
              have y0 := HQ.out.get (i := 1) rfl
              go_upto_region 11 with fail
              refine wp_region_held_drew (S := fun X : World => X.cell? ⟨kb, 5, none⟩ = some (.slice (some ⟨s0, 0, none⟩) n n) ∧ X.cell? ⟨q, 1, none⟩ = some (.int .i64 xm)) (by kernel_rfl) ⟨kc0, y0⟩ (fun hHeld => ?_)
              clear HNq HQ HBq kc0 y0 hd0 z0
              generalize wq.drew = wd0 at *
              obtain ⟨l0, la0, lc0, hm0, hv0, cm0, om0⟩ := HNd0.out.h3.at (c := 0) (by omega) hxn
              have HG0b : Hid (Grp T kS n k (H 0)) := HG0
              have hml0 := HG0b.out.row_le hm0
              have HU0 : Hid (Grp T kS n (k + 1) ((H 0).set xm (l0 ++ [(k : Int)]))) := hide (by
                have := HG0b.out.add HRr.out HP0.out HHM.out hxn
                rw [List.getD_eq_getElem?_getD, hm0] at this
                exact this)
              have hA0 := below_new wd0 (.cells #[.int .i64 k] 3)
              have hbs0 : W.heap.size ≤ wd0.heap.size := HBd0.out.size
              have HOM0 := hide (owns_keep om0 fun g hg => hA0.block g (owns_lt om0 hg))
              have cmA0 := cell_on cm0 hA0
              have HA0 := hide hA0
              have HSA0 : Hid ((wd0.alloc (.cells #[.int .i64 k] 3)).heap.size = wd0.heap.size + 1) := hide (by simp)
              have HNA0 : Hid (∀ j u, [Value.int .i64 k][j]? = some u → (wd0.alloc (.cells #[.int .i64 k] 3)).cell? ((⟨wd0.heap.size, 0, none⟩ : Addr).add j) = some u) := hide (World.news_of_block (cs := [Value.int .i64 k].toArray) (t := 3) (fr := (0, 0)) (heap_alloc_new wd0 (.cells #[.int .i64 k] 3)))
              have HNE0 := hide (own_fx om0 (HNd0.out.h3.fx 0 (by omega)) (by decide))
              have HNQ0 := hide (own_fx om0 HQd0.out (by decide))
              have HNB0 := hide (own_fx om0 HNd0.out.bx (by decide))
              have HHI0 : Hid (∀ g, Value.ownBlock (.slice la0 l0.length lc0) = some g → W.heap.size ≤ g) := hide fun g e => (om0.lt g e).1
              have HM0 := hide hm0
              have HVM0 := hide hv0
              have e0 : sbA ⟨fa, fc, some ⟨gr, go, none⟩, rc, ba, bc, fb, s0, s1, s2⟩ 0 = s0 := rfl
              rw [e0] at cm0 cmA0
              clear hA0 hm0 hv0 om0 e0
              refine wpAnyH_take (i := 0) (v := ?_) rfl (by kernel_rfl) (by kernel_rfl) (by kernel_rfl) (fun _ _ _ h => h) (Or.inl ⟨by rfl, ?_⟩) (by assumption) ?_
              rotate_left
              · (intro w hSw; (try dsimp only at hSw); first | (go_simp; done) | (go_simp; with_reducible rfl))
              try simp only [List.getElem_toArray, List.getElem_cons_zero, Act.put, List.setIfInBounds_toArray, List.set_cons_zero, List.set_cons_succ]
              refine wpAnyH_take (i := 1) (v := ?_) rfl (by kernel_rfl) (by kernel_rfl) (by kernel_rfl) (fun _ _ _ h => h) (Or.inl ⟨by rfl, ?_⟩) (by assumption) ?_
              rotate_left
              · (intro w hSw; (try dsimp only at hSw); first | (go_simp; done) | (go_simp; with_reducible rfl))
              try simp only [List.getElem_toArray, List.getElem_cons_zero, List.getElem_cons_succ, Act.put, List.setIfInBounds_toArray, List.set_cons_zero, List.set_cons_succ]
              refine wpAnyH_take (i := 2) (v := ?_) rfl (by kernel_rfl) (by kernel_rfl) (by kernel_rfl) (fun _ _ _ h => h) (Or.inl ⟨by rfl, ?_⟩) (by assumption) ?_
              rotate_left
              · (intro w hSw; (try dsimp only at hSw); first | (go_simp; done) | (go_simp; with_reducible rfl))
              try simp only [List.getElem_toArray, List.getElem_cons_zero, List.getElem_cons_succ, Act.put, List.setIfInBounds_toArray, List.set_cons_zero, List.set_cons_succ]
              refine wpAnyH_take (i := 3) (v := ?_) rfl (by kernel_rfl) (by kernel_rfl) (by kernel_rfl) (fun _ _ _ h => h) (Or.inl ⟨by rfl, ?_⟩) (by assumption) ?_
              rotate_left
              · (intro w hSw; (try dsimp only at hSw); first | (go_simp; done) | (go_simp; with_reducible rfl))
              try simp only [List.getElem_toArray, List.getElem_cons_zero, List.getElem_cons_succ, Act.put, List.setIfInBounds_toArray, List.set_cons_zero, List.set_cons_succ]
              refine wpAnyH_take (i := 4) (v := ?_) rfl (by kernel_rfl) (by kernel_rfl) (by kernel_rfl) (fun _ _ _ h => h) (Or.inl ⟨by rfl, ?_⟩) (by assumption) ?_
              rotate_left
              · (intro w hSw; (try dsimp only at hSw); first | (go_simp; done) | (go_simp; with_reducible rfl))
              try simp only [List.getElem_toArray, List.getElem_cons_zero, List.getElem_cons_succ, Act.put, List.setIfInBounds_toArray, List.set_cons_zero, List.set_cons_succ]
              refine wpAnyH_take (i := 5) (v := ?_) rfl (by kernel_rfl) (by kernel_rfl) (by kernel_rfl) (fun _ _ _ h => h) (Or.inl ⟨by rfl, ?_⟩) (by assumption) ?_
              rotate_left
              · (intro w hSw; (try dsimp only at hSw); first | (go_simp; done) | (go_simp; with_reducible rfl))
              try simp only [List.getElem_toArray, List.getElem_cons_zero, List.getElem_cons_succ, Act.put, List.setIfInBounds_toArray, List.set_cons_zero, List.set_cons_succ]
              refine wpAnyH_take (i := 6) (v := ?_) rfl (by kernel_rfl) (by kernel_rfl) (by kernel_rfl) (fun _ _ _ h => h) (Or.inl ⟨by rfl, ?_⟩) (by assumption) ?_
              rotate_left
              · (intro w hSw; (try dsimp only at hSw); first | (go_simp; done) | (go_simp; with_reducible rfl))
              try simp only [List.getElem_toArray, List.getElem_cons_zero, List.getElem_cons_succ, Act.put, List.setIfInBounds_toArray, List.set_cons_zero, List.set_cons_succ]
              refine wpAnyH_take (i := 7) (v := ?_) rfl (by kernel_rfl) (by kernel_rfl) (by kernel_rfl) (fun _ _ _ h => h) (Or.inl ⟨by rfl, ?_⟩) (by assumption) ?_
              rotate_left
              · (intro w hSw; (try dsimp only at hSw); first | (go_simp; done) | (go_simp; with_reducible rfl))
              try simp only [List.getElem_toArray, List.getElem_cons_zero, List.getElem_cons_succ, Act.put, List.setIfInBounds_toArray, List.set_cons_zero, List.set_cons_succ]
              refine wpAnyH_take (i := 8) (v := ?_) rfl (by kernel_rfl) (by kernel_rfl) (by kernel_rfl) (fun _ _ _ h => h) (Or.inl ⟨by rfl, ?_⟩) (by assumption) ?_
              rotate_left
              · (intro w hSw; (try dsimp only at hSw); first | (go_simp; done) | (go_simp; with_reducible rfl))
              try simp only [List.getElem_toArray, List.getElem_cons_zero, List.getElem_cons_succ, Act.put, List.setIfInBounds_toArray, List.set_cons_zero, List.set_cons_succ]
              refine wpAnyH_take (i := 9) (v := ?_) rfl (by kernel_rfl) (by kernel_rfl) (by kernel_rfl) (fun _ _ _ h => h) (Or.inl ⟨by rfl, ?_⟩) (by assumption) ?_
              rotate_left
              · (intro w hSw; (try dsimp only at hSw); first | (go_simp; done) | (go_simp; with_reducible rfl))
              try simp only [List.getElem_toArray, List.getElem_cons_zero, List.getElem_cons_succ, Act.put, List.setIfInBounds_toArray, List.set_cons_zero, List.set_cons_succ]
              refine wpAnyH_take (i := 10) (v := ?_) rfl (by kernel_rfl) (by kernel_rfl) (by kernel_rfl) (fun _ _ _ h => h) (Or.inl ⟨by rfl, ?_⟩) (by assumption) ?_
              rotate_left
              · (intro w hSw; (try dsimp only at hSw); first | (go_simp; done) | (go_simp; with_reducible rfl))
              try simp only [List.getElem_toArray, List.getElem_cons_zero, List.getElem_cons_succ, Act.put, List.setIfInBounds_toArray, List.set_cons_zero, List.set_cons_succ]
              refine wpAnyH_take (i := 11) (v := ?_) rfl (by kernel_rfl) (by kernel_rfl) (by kernel_rfl) (fun _ _ _ h => h) (Or.inl ⟨by rfl, ?_⟩) (by assumption) ?_
              rotate_left
              · (intro w hSw; (try dsimp only at hSw); first | (go_simp; done) | (go_simp; with_reducible rfl))
              try simp only [List.getElem_toArray, List.getElem_cons_zero, List.getElem_cons_succ, Act.put, List.setIfInBounds_toArray, List.set_cons_zero, List.set_cons_succ]
              refine wpAnyH_take (i := 12) (v := ?_) rfl (by kernel_rfl) (by kernel_rfl) (by kernel_rfl) (fun _ _ _ h => h) (Or.inl ⟨by rfl, ?_⟩) (by assumption) ?_
              rotate_left
              · (intro w hSw; (try dsimp only at hSw); first | (go_simp; done) | (go_simp; with_reducible rfl))
              try simp only [List.getElem_toArray, List.getElem_cons_zero, List.getElem_cons_succ, Act.put, List.setIfInBounds_toArray, List.set_cons_zero, List.set_cons_succ]
              refine wpAnyH_take (i := 14) (v := ?_) rfl (by kernel_rfl) (by kernel_rfl) (by kernel_rfl) (fun _ _ _ h => h) (Or.inl ⟨by rfl, ?_⟩) (by assumption) ?_
              rotate_left
              · (intro w hSw; (try dsimp only at hSw); first | (go_simp; done) | (go_simp; with_reducible rfl))
              try simp only [List.getElem_toArray, List.getElem_cons_zero, List.getElem_cons_succ, Act.put, List.setIfInBounds_toArray, List.set_cons_zero, List.set_cons_succ]
              refine wpAnyH_ready (rs := [13, 15]) (by kernel_rfl) (by simp) ?_
              refine AllReadyH.cons rfl (fun KK hKK => ?_) (AllReadyH.cons rfl (fun KK hKK => ?_) AllReadyH.nil)
              · skip
                go_simp
                refine hKK.out _ _ hHeld (fun hHeld2 => ?_)
                clear hKK KK hHeld
                try simp only [List.getElem_toArray, List.getElem_cons_zero, List.getElem_cons_succ, Act.put, List.setIfInBounds_toArray, List.set_cons_zero, List.set_cons_succ]
                refine wpAnyH_ready (rs := [15]) (by kernel_rfl) (by simp) ?_
                refine AllReadyH.cons rfl (fun KK hKK => ?_) AllReadyH.nil
                go_simp
                refine hKK.out _ _ ⟨cell_on hHeld2.1 (below_new _ _), cell_on hHeld2.2 (below_new _ _)⟩ (fun hHeld3 => ?_)
                clear hKK KK hHeld2
                try simp only [List.getElem_toArray, List.getElem_cons_zero, List.getElem_cons_succ, Act.put, List.setIfInBounds_toArray, List.set_cons_zero, List.set_cons_succ]
                refine wpAnyH_ready (rs := [16]) (by kernel_rfl) (by simp) ?_
                refine AllReadyH.cons rfl (fun KK hKK => ?_) AllReadyH.nil
                refine step_append_lies _ (by rfl) _ _ _ (by rfl) W.heap.size 3 iI _ 1 8 Tryz.underlying26 hiI zI0 zI1 zI2 rfl (by decide) (.slice la0 l0.length lc0) l0.length (ints l0) (by rfl) HOM0.out ⟨wd0.heap.size, 0, none⟩ 1 1 [.int .i64 k] (by rfl) rfl HNA0.out (by simp [Value.oneCell']) (by decide) (by unfold maxLen; omega) (by omega) (by rw [HSA0.out]; omega) (wd0.heap.size + 1) HSA0.out ?_
                intro gg0 cap0 v0 hown0 hgw hat0 hlt0
                have hgrow0 : (wd0.alloc (.cells #[.int .i64 k] 3)).drew.grownBy v0 (Value.ownBlock (.slice la0 l0.length lc0)) := ⟨hgw.os, hgw.tape, hgw.output, hgw.size, hgw.block⟩
                have f5 := (HNd0.out.h3.fx 0 (by omega)).keep (grown_old2 hgrow0 (HNd0.out.h3.fx 0 (by omega)).lt HNE0.out)
                have q1 : v0.cell? ⟨s0, xm, none⟩ = some (.slice la0 l0.length lc0) := f5.get HVM0.out
                have q2 : v0.frozen? ⟨s0, xm, none⟩ = false := f5.frz xm
                have q3 := (HQd0.out.keep (grown_old2 hgrow0 HQd0.out.lt HNQ0.out)).get (i := 1) rfl
                have q4 := (HNd0.out.bx.keep (grown_old2 hgrow0 HNd0.out.bx.lt HNB0.out)).get (i := 5) rfl
                refine hKK.out _ _ ⟨q4, q3⟩ (fun hHeld4 => ?_)
                have HN0a : Hid (Nk W.heap.size kb ⟨fa, fc, some ⟨gr, go, none⟩, rc, ba, bc, fb, s0, s1, s2⟩ T n (.slice ma n mc) R (up H 0 ((H 0).set xm (l0 ++ [(k : Int)]))) (up vs 0 ((vs 0).set xm (.slice (some ⟨gg0, 0, none⟩) (l0.length + 1) cap0))) (v0.setCell ⟨s0, xm, none⟩ (.slice (some ⟨gg0, 0, none⟩) (l0.length + 1) cap0))) := hide (HNd0.out.add (c := 0) (by omega) HM0.out HVM0.out hown0 (fun k hk hn => grown_old2 hgrow0 hk hn) (by rcases hat0 with h | h; exact .inl h; exact .inr (by omega)))
                have HQ : Hid (Fx q 63 _ (v0.setCell ⟨s0, xm, none⟩ (.slice (some ⟨gg0, 0, none⟩) (l0.length + 1) cap0))) := hide ((HQd0.out.keep (grown_old2 hgrow0 HQd0.out.lt HNQ0.out)).keep (other_set (fx_ne HQd0.out (HNd0.out.h3.fx 0 (by omega)) (by decide))))
                have HBq := hide (HBd0.out.trans ((grown_low hgrow0 HHI0.out hbs0).setCell (p := ⟨s0, xm, none⟩) (HNd0.out.h3.lo 0 (by omega)) (.slice (some ⟨gg0, 0, none⟩) (l0.length + 1) cap0)))
                have q5 := HN0a.out.bx.get (i := 5) rfl
                have q6 := HQ.out.get (i := 1) rfl
                clear hKK KK f5 q3 q4 hown0 hgrow0 hgw hat0 hlt0 hHeld3
                try simp only [List.getElem_toArray, List.getElem_cons_zero, List.getElem_cons_succ, Act.put, List.setIfInBounds_toArray, List.set_cons_zero, List.set_cons_succ]
                refine wpAnyH_take (i := 17) (v := ?_) rfl (by kernel_rfl) (by kernel_rfl) (by kernel_rfl) (fun _ _ _ h => h) (Or.inl ⟨by rfl, ?_⟩) (by assumption) ?_
                rotate_left
                · (intro w hSw; (try dsimp only at hSw); first | (go_simp; done) | (go_simp; with_reducible rfl))
                try simp only [List.getElem_toArray, List.getElem_cons_zero, List.getElem_cons_succ, Act.put, List.setIfInBounds_toArray, List.set_cons_zero, List.set_cons_succ]
                refine wpAnyH_ready (rs := [18]) (by kernel_rfl) (by simp) ?_
                refine AllReadyH.cons rfl (fun KK hKK => ?_) AllReadyH.nil
                go_simp
                refine hKK.out _ _ ⟨q5, q6⟩ (fun hHeld5 => ?_)
                clear hKK KK hHeld4 hHeld5 q1 q2 q5 q6 cm0 cmA0 HNd0 HQd0 HBd0 HOM0 HSA0 HNA0 HNE0 HNQ0 HNB0 HHI0 HM0 HVM0 HA0
                try simp only [List.getElem_toArray, List.getElem_cons_zero, List.getElem_cons_succ, Act.put, List.setIfInBounds_toArray, List.set_cons_zero, List.set_cons_succ]
                generalize v0.setCell ⟨s0, xm, none⟩ (.slice (some ⟨gg0, 0, none⟩) (l0.length + 1) cap0) = x0 at *
                refine wpAnyH_done (by kernel_rfl) ?_ _
                have z0 := HQ.out.get (i := 0) rfl
                have hd1 := (Below.refl x0.heap.size x0).drew
                have HNd1 := hide (HN0a.out.go hd1)
                have HQd1 := hide (HQ.out.keep (hd1.block _ HQ.out.lt))
                have HBd1 := hide (HBq.out.trans (hd1.mono HBq.out.size))
                have kc1 := HN0a.out.bx.get (i := 6) rfl
                have y1 := HQ.out.get (i := 1) rfl
                go_upto_region 13 with fail
                refine wp_region_held_drew (S := fun X : World => X.cell? ⟨kb, 6, none⟩ = some (.slice (some ⟨s1, 0, none⟩) n n) ∧ X.cell? ⟨q, 1, none⟩ = some (.int .i64 xm)) (by kernel_rfl) ⟨kc1, y1⟩ (fun hHeld => ?_)
                clear HN0a HQ HBq kc1 y1 hd1 z0
                generalize x0.drew = wd1 at *
                obtain ⟨l1, la1, lc1, hm1, hv1, cm1, om1⟩ := HNd1.out.h3.at (c := 1) (by omega) hxn
                have HG1b : Hid (Grp T kT n k ((up H 0 ((H 0).set xm (l0 ++ [(k : Int)]))) 1)) := HG1
                have hml1 := HG1b.out.row_le hm1
                have HU1 : Hid (Grp T kT n (k + 1) (((up H 0 ((H 0).set xm (l0 ++ [(k : Int)]))) 1).set xm (l1 ++ [(k : Int)]))) := hide (by
                  have := HG1b.out.add HRr.out HP1.out HHM.out hxn
                  rw [List.getD_eq_getElem?_getD, hm1] at this
                  exact this)
                have hA1 := below_new wd1 (.cells #[.int .i64 k] 3)
                have hbs1 : W.heap.size ≤ wd1.heap.size := HBd1.out.size
                have HOM1 := hide (owns_keep om1 fun g hg => hA1.block g (owns_lt om1 hg))
                have cmA1 := cell_on cm1 hA1
                have HA1 := hide hA1
                have HSA1 : Hid ((wd1.alloc (.cells #[.int .i64 k] 3)).heap.size = wd1.heap.size + 1) := hide (by simp)
                have HNA1 : Hid (∀ j u, [Value.int .i64 k][j]? = some u → (wd1.alloc (.cells #[.int .i64 k] 3)).cell? ((⟨wd1.heap.size, 0, none⟩ : Addr).add j) = some u) := hide (World.news_of_block (cs := [Value.int .i64 k].toArray) (t := 3) (fr := (0, 0)) (heap_alloc_new wd1 (.cells #[.int .i64 k] 3)))
                have HNE1 := hide (own_fx om1 (HNd1.out.h3.fx 1 (by omega)) (by decide))
                have HNQ1 := hide (own_fx om1 HQd1.out (by decide))
                have HNB1 := hide (own_fx om1 HNd1.out.bx (by decide))
                have HHI1 : Hid (∀ g, Value.ownBlock (.slice la1 l1.length lc1) = some g → W.heap.size ≤ g) := hide fun g e => (om1.lt g e).1
                have HM1 := hide hm1
                have HVM1 := hide hv1
                have e1 : sbA ⟨fa, fc, some ⟨gr, go, none⟩, rc, ba, bc, fb, s0, s1, s2⟩ 1 = s1 := rfl
                rw [e1] at cm1 cmA1
                clear hA1 hm1 hv1 om1 e1
                refine wpAnyH_take (i := 0) (v := ?_) rfl (by kernel_rfl) (by kernel_rfl) (by kernel_rfl) (fun _ _ _ h => h) (Or.inl ⟨by rfl, ?_⟩) (by assumption) ?_
                rotate_left
                · (intro w hSw; (try dsimp only at hSw); first | (go_simp; done) | (go_simp; with_reducible rfl))
                try simp only [List.getElem_toArray, List.getElem_cons_zero, Act.put, List.setIfInBounds_toArray, List.set_cons_zero, List.set_cons_succ]
                refine wpAnyH_take (i := 1) (v := ?_) rfl (by kernel_rfl) (by kernel_rfl) (by kernel_rfl) (fun _ _ _ h => h) (Or.inl ⟨by rfl, ?_⟩) (by assumption) ?_
                rotate_left
                · (intro w hSw; (try dsimp only at hSw); first | (go_simp; done) | (go_simp; with_reducible rfl))
                try simp only [List.getElem_toArray, List.getElem_cons_zero, List.getElem_cons_succ, Act.put, List.setIfInBounds_toArray, List.set_cons_zero, List.set_cons_succ]
                refine wpAnyH_take (i := 2) (v := ?_) rfl (by kernel_rfl) (by kernel_rfl) (by kernel_rfl) (fun _ _ _ h => h) (Or.inl ⟨by rfl, ?_⟩) (by assumption) ?_
                rotate_left
                · (intro w hSw; (try dsimp only at hSw); first | (go_simp; done) | (go_simp; with_reducible rfl))
                try simp only [List.getElem_toArray, List.getElem_cons_zero, List.getElem_cons_succ, Act.put, List.setIfInBounds_toArray, List.set_cons_zero, List.set_cons_succ]
                refine wpAnyH_take (i := 3) (v := ?_) rfl (by kernel_rfl) (by kernel_rfl) (by kernel_rfl) (fun _ _ _ h => h) (Or.inl ⟨by rfl, ?_⟩) (by assumption) ?_
                rotate_left
                · (intro w hSw; (try dsimp only at hSw); first | (go_simp; done) | (go_simp; with_reducible rfl))
                try simp only [List.getElem_toArray, List.getElem_cons_zero, List.getElem_cons_succ, Act.put, List.setIfInBounds_toArray, List.set_cons_zero, List.set_cons_succ]
                refine wpAnyH_take (i := 4) (v := ?_) rfl (by kernel_rfl) (by kernel_rfl) (by kernel_rfl) (fun _ _ _ h => h) (Or.inl ⟨by rfl, ?_⟩) (by assumption) ?_
                rotate_left
                · (intro w hSw; (try dsimp only at hSw); first | (go_simp; done) | (go_simp; with_reducible rfl))
                try simp only [List.getElem_toArray, List.getElem_cons_zero, List.getElem_cons_succ, Act.put, List.setIfInBounds_toArray, List.set_cons_zero, List.set_cons_succ]
                refine wpAnyH_take (i := 5) (v := ?_) rfl (by kernel_rfl) (by kernel_rfl) (by kernel_rfl) (fun _ _ _ h => h) (Or.inl ⟨by rfl, ?_⟩) (by assumption) ?_
                rotate_left
                · (intro w hSw; (try dsimp only at hSw); first | (go_simp; done) | (go_simp; with_reducible rfl))
                try simp only [List.getElem_toArray, List.getElem_cons_zero, List.getElem_cons_succ, Act.put, List.setIfInBounds_toArray, List.set_cons_zero, List.set_cons_succ]
                refine wpAnyH_take (i := 6) (v := ?_) rfl (by kernel_rfl) (by kernel_rfl) (by kernel_rfl) (fun _ _ _ h => h) (Or.inl ⟨by rfl, ?_⟩) (by assumption) ?_
                rotate_left
                · (intro w hSw; (try dsimp only at hSw); first | (go_simp; done) | (go_simp; with_reducible rfl))
                try simp only [List.getElem_toArray, List.getElem_cons_zero, List.getElem_cons_succ, Act.put, List.setIfInBounds_toArray, List.set_cons_zero, List.set_cons_succ]
                refine wpAnyH_take (i := 7) (v := ?_) rfl (by kernel_rfl) (by kernel_rfl) (by kernel_rfl) (fun _ _ _ h => h) (Or.inl ⟨by rfl, ?_⟩) (by assumption) ?_
                rotate_left
                · (intro w hSw; (try dsimp only at hSw); first | (go_simp; done) | (go_simp; with_reducible rfl))
                try simp only [List.getElem_toArray, List.getElem_cons_zero, List.getElem_cons_succ, Act.put, List.setIfInBounds_toArray, List.set_cons_zero, List.set_cons_succ]
                refine wpAnyH_take (i := 8) (v := ?_) rfl (by kernel_rfl) (by kernel_rfl) (by kernel_rfl) (fun _ _ _ h => h) (Or.inl ⟨by rfl, ?_⟩) (by assumption) ?_
                rotate_left
                · (intro w hSw; (try dsimp only at hSw); first | (go_simp; done) | (go_simp; with_reducible rfl))
                try simp only [List.getElem_toArray, List.getElem_cons_zero, List.getElem_cons_succ, Act.put, List.setIfInBounds_toArray, List.set_cons_zero, List.set_cons_succ]
                refine wpAnyH_take (i := 9) (v := ?_) rfl (by kernel_rfl) (by kernel_rfl) (by kernel_rfl) (fun _ _ _ h => h) (Or.inl ⟨by rfl, ?_⟩) (by assumption) ?_
                rotate_left
                · (intro w hSw; (try dsimp only at hSw); first | (go_simp; done) | (go_simp; with_reducible rfl))
                try simp only [List.getElem_toArray, List.getElem_cons_zero, List.getElem_cons_succ, Act.put, List.setIfInBounds_toArray, List.set_cons_zero, List.set_cons_succ]
                refine wpAnyH_take (i := 10) (v := ?_) rfl (by kernel_rfl) (by kernel_rfl) (by kernel_rfl) (fun _ _ _ h => h) (Or.inl ⟨by rfl, ?_⟩) (by assumption) ?_
                rotate_left
                · (intro w hSw; (try dsimp only at hSw); first | (go_simp; done) | (go_simp; with_reducible rfl))
                try simp only [List.getElem_toArray, List.getElem_cons_zero, List.getElem_cons_succ, Act.put, List.setIfInBounds_toArray, List.set_cons_zero, List.set_cons_succ]
                refine wpAnyH_take (i := 11) (v := ?_) rfl (by kernel_rfl) (by kernel_rfl) (by kernel_rfl) (fun _ _ _ h => h) (Or.inl ⟨by rfl, ?_⟩) (by assumption) ?_
                rotate_left
                · (intro w hSw; (try dsimp only at hSw); first | (go_simp; done) | (go_simp; with_reducible rfl))
                try simp only [List.getElem_toArray, List.getElem_cons_zero, List.getElem_cons_succ, Act.put, List.setIfInBounds_toArray, List.set_cons_zero, List.set_cons_succ]
                refine wpAnyH_take (i := 12) (v := ?_) rfl (by kernel_rfl) (by kernel_rfl) (by kernel_rfl) (fun _ _ _ h => h) (Or.inl ⟨by rfl, ?_⟩) (by assumption) ?_
                rotate_left
                · (intro w hSw; (try dsimp only at hSw); first | (go_simp; done) | (go_simp; with_reducible rfl))
                try simp only [List.getElem_toArray, List.getElem_cons_zero, List.getElem_cons_succ, Act.put, List.setIfInBounds_toArray, List.set_cons_zero, List.set_cons_succ]
                refine wpAnyH_take (i := 14) (v := ?_) rfl (by kernel_rfl) (by kernel_rfl) (by kernel_rfl) (fun _ _ _ h => h) (Or.inl ⟨by rfl, ?_⟩) (by assumption) ?_
                rotate_left
                · (intro w hSw; (try dsimp only at hSw); first | (go_simp; done) | (go_simp; with_reducible rfl))
                try simp only [List.getElem_toArray, List.getElem_cons_zero, List.getElem_cons_succ, Act.put, List.setIfInBounds_toArray, List.set_cons_zero, List.set_cons_succ]
                refine wpAnyH_ready (rs := [13, 15]) (by kernel_rfl) (by simp) ?_
                refine AllReadyH.cons rfl (fun KK hKK => ?_) (AllReadyH.cons rfl (fun KK hKK => ?_) AllReadyH.nil)
                · skip
                  go_simp
                  refine hKK.out _ _ hHeld (fun hHeld2 => ?_)
                  clear hKK KK hHeld
                  try simp only [List.getElem_toArray, List.getElem_cons_zero, List.getElem_cons_succ, Act.put, List.setIfInBounds_toArray, List.set_cons_zero, List.set_cons_succ]
                  refine wpAnyH_ready (rs := [15]) (by kernel_rfl) (by simp) ?_
                  refine AllReadyH.cons rfl (fun KK hKK => ?_) AllReadyH.nil
                  go_simp
                  refine hKK.out _ _ ⟨cell_on hHeld2.1 (below_new _ _), cell_on hHeld2.2 (below_new _ _)⟩ (fun hHeld3 => ?_)
                  clear hKK KK hHeld2
                  try simp only [List.getElem_toArray, List.getElem_cons_zero, List.getElem_cons_succ, Act.put, List.setIfInBounds_toArray, List.set_cons_zero, List.set_cons_succ]
                  refine wpAnyH_ready (rs := [16]) (by kernel_rfl) (by simp) ?_
                  refine AllReadyH.cons rfl (fun KK hKK => ?_) AllReadyH.nil
                  refine step_append_lies _ (by rfl) _ _ _ (by rfl) W.heap.size 3 iI _ 1 8 Tryz.underlying26 hiI zI0 zI1 zI2 rfl (by decide) (.slice la1 l1.length lc1) l1.length (ints l1) (by rfl) HOM1.out ⟨wd1.heap.size, 0, none⟩ 1 1 [.int .i64 k] (by rfl) rfl HNA1.out (by simp [Value.oneCell']) (by decide) (by unfold maxLen; omega) (by omega) (by rw [HSA1.out]; omega) (wd1.heap.size + 1) HSA1.out ?_
                  intro gg1 cap1 v1 hown1 hgw hat1 hlt1
                  have hgrow1 : (wd1.alloc (.cells #[.int .i64 k] 3)).drew.grownBy v1 (Value.ownBlock (.slice la1 l1.length lc1)) := ⟨hgw.os, hgw.tape, hgw.output, hgw.size, hgw.block⟩
                  have f5 := (HNd1.out.h3.fx 1 (by omega)).keep (grown_old2 hgrow1 (HNd1.out.h3.fx 1 (by omega)).lt HNE1.out)
                  have q1 : v1.cell? ⟨s1, xm, none⟩ = some (.slice la1 l1.length lc1) := f5.get HVM1.out
                  have q2 : v1.frozen? ⟨s1, xm, none⟩ = false := f5.frz xm
                  have q3 := (HQd1.out.keep (grown_old2 hgrow1 HQd1.out.lt HNQ1.out)).get (i := 1) rfl
                  have q4 := (HNd1.out.bx.keep (grown_old2 hgrow1 HNd1.out.bx.lt HNB1.out)).get (i := 6) rfl
                  refine hKK.out _ _ ⟨q4, q3⟩ (fun hHeld4 => ?_)
                  have HN1a : Hid (Nk W.heap.size kb ⟨fa, fc, some ⟨gr, go, none⟩, rc, ba, bc, fb, s0, s1, s2⟩ T n (.slice ma n mc) R (up (up H 0 ((H 0).set xm (l0 ++ [(k : Int)]))) 1 (((up H 0 ((H 0).set xm (l0 ++ [(k : Int)]))) 1).set xm (l1 ++ [(k : Int)]))) (up (up vs 0 ((vs 0).set xm (.slice (some ⟨gg0, 0, none⟩) (l0.length + 1) cap0))) 1 (((up vs 0 ((vs 0).set xm (.slice (some ⟨gg0, 0, none⟩) (l0.length + 1) cap0))) 1).set xm (.slice (some ⟨gg1, 0, none⟩) (l1.length + 1) cap1))) (v1.setCell ⟨s1, xm, none⟩ (.slice (some ⟨gg1, 0, none⟩) (l1.length + 1) cap1))) := hide (HNd1.out.add (c := 1) (by omega) HM1.out HVM1.out hown1 (fun k hk hn => grown_old2 hgrow1 hk hn) (by rcases hat1 with h | h; exact .inl h; exact .inr (by omega)))
                  have HQ : Hid (Fx q 63 _ (v1.setCell ⟨s1, xm, none⟩ (.slice (some ⟨gg1, 0, none⟩) (l1.length + 1) cap1))) := hide ((HQd1.out.keep (grown_old2 hgrow1 HQd1.out.lt HNQ1.out)).keep (other_set (fx_ne HQd1.out (HNd1.out.h3.fx 1 (by omega)) (by decide))))
                  have HBq := hide (HBd1.out.trans ((grown_low hgrow1 HHI1.out hbs1).setCell (p := ⟨s1, xm, none⟩) (HNd1.out.h3.lo 1 (by omega)) (.slice (some ⟨gg1, 0, none⟩) (l1.length + 1) cap1)))
                  have q5 := HN1a.out.bx.get (i := 6) rfl
                  have q6 := HQ.out.get (i := 1) rfl
                  clear hKK KK f5 q3 q4 hown1 hgrow1 hgw hat1 hlt1 hHeld3
                  try simp only [List.getElem_toArray, List.getElem_cons_zero, List.getElem_cons_succ, Act.put, List.setIfInBounds_toArray, List.set_cons_zero, List.set_cons_succ]
                  refine wpAnyH_take (i := 17) (v := ?_) rfl (by kernel_rfl) (by kernel_rfl) (by kernel_rfl) (fun _ _ _ h => h) (Or.inl ⟨by rfl, ?_⟩) (by assumption) ?_
                  rotate_left
                  · (intro w hSw; (try dsimp only at hSw); first | (go_simp; done) | (go_simp; with_reducible rfl))
                  try simp only [List.getElem_toArray, List.getElem_cons_zero, List.getElem_cons_succ, Act.put, List.setIfInBounds_toArray, List.set_cons_zero, List.set_cons_succ]
                  refine wpAnyH_ready (rs := [18]) (by kernel_rfl) (by simp) ?_
                  refine AllReadyH.cons rfl (fun KK hKK => ?_) AllReadyH.nil
                  go_simp
                  refine hKK.out _ _ ⟨q5, q6⟩ (fun hHeld5 => ?_)
                  clear hKK KK hHeld4 hHeld5 q1 q2 q5 q6 cm1 cmA1 HNd1 HQd1 HBd1 HOM1 HSA1 HNA1 HNE1 HNQ1 HNB1 HHI1 HM1 HVM1 HA1
                  try simp only [List.getElem_toArray, List.getElem_cons_zero, List.getElem_cons_succ, Act.put, List.setIfInBounds_toArray, List.set_cons_zero, List.set_cons_succ]
                  generalize v1.setCell ⟨s1, xm, none⟩ (.slice (some ⟨gg1, 0, none⟩) (l1.length + 1) cap1) = x1 at *
                  refine wpAnyH_done (by kernel_rfl) ?_ _
                  have z0 := HQ.out.get (i := 0) rfl
                  have hd2 := (Below.refl x1.heap.size x1).drew
                  have HNd2 := hide (HN1a.out.go hd2)
                  have HQd2 := hide (HQ.out.keep (hd2.block _ HQ.out.lt))
                  have HBd2 := hide (HBq.out.trans (hd2.mono HBq.out.size))
                  have kc2 := HN1a.out.bx.get (i := 7) rfl
                  have y2 := HQ.out.get (i := 1) rfl
                  go_upto_region 14 with fail
                  refine wp_region_held_drew (S := fun X : World => X.cell? ⟨kb, 7, none⟩ = some (.slice (some ⟨s2, 0, none⟩) n n) ∧ X.cell? ⟨q, 1, none⟩ = some (.int .i64 xm)) (by kernel_rfl) ⟨kc2, y2⟩ (fun hHeld => ?_)
                  clear HN1a HQ HBq kc2 y2 hd2 z0
                  generalize x1.drew = wd2 at *
                  obtain ⟨l2, la2, lc2, hm2, hv2, cm2, om2⟩ := HNd2.out.h3.at (c := 2) (by omega) hxn
                  have HG2b : Hid (Grp T kA n k ((up (up H 0 ((H 0).set xm (l0 ++ [(k : Int)]))) 1 (((up H 0 ((H 0).set xm (l0 ++ [(k : Int)]))) 1).set xm (l1 ++ [(k : Int)]))) 2)) := HG2
                  have hml2 := HG2b.out.row_le hm2
                  have HU2 : Hid (Grp T kA n (k + 1) (((up (up H 0 ((H 0).set xm (l0 ++ [(k : Int)]))) 1 (((up H 0 ((H 0).set xm (l0 ++ [(k : Int)]))) 1).set xm (l1 ++ [(k : Int)]))) 2).set xm (l2 ++ [(k : Int)]))) := hide (by
                    have := HG2b.out.add HRr.out HP2.out HHM.out hxn
                    rw [List.getD_eq_getElem?_getD, hm2] at this
                    exact this)
                  have hA2 := below_new wd2 (.cells #[.int .i64 k] 3)
                  have hbs2 : W.heap.size ≤ wd2.heap.size := HBd2.out.size
                  have HOM2 := hide (owns_keep om2 fun g hg => hA2.block g (owns_lt om2 hg))
                  have cmA2 := cell_on cm2 hA2
                  have HA2 := hide hA2
                  have HSA2 : Hid ((wd2.alloc (.cells #[.int .i64 k] 3)).heap.size = wd2.heap.size + 1) := hide (by simp)
                  have HNA2 : Hid (∀ j u, [Value.int .i64 k][j]? = some u → (wd2.alloc (.cells #[.int .i64 k] 3)).cell? ((⟨wd2.heap.size, 0, none⟩ : Addr).add j) = some u) := hide (World.news_of_block (cs := [Value.int .i64 k].toArray) (t := 3) (fr := (0, 0)) (heap_alloc_new wd2 (.cells #[.int .i64 k] 3)))
                  have HNE2 := hide (own_fx om2 (HNd2.out.h3.fx 2 (by omega)) (by decide))
                  have HNQ2 := hide (own_fx om2 HQd2.out (by decide))
                  have HNB2 := hide (own_fx om2 HNd2.out.bx (by decide))
                  have HHI2 : Hid (∀ g, Value.ownBlock (.slice la2 l2.length lc2) = some g → W.heap.size ≤ g) := hide fun g e => (om2.lt g e).1
                  have HM2 := hide hm2
                  have HVM2 := hide hv2
                  have e2 : sbA ⟨fa, fc, some ⟨gr, go, none⟩, rc, ba, bc, fb, s0, s1, s2⟩ 2 = s2 := rfl
                  rw [e2] at cm2 cmA2
                  clear hA2 hm2 hv2 om2 e2
                  refine wpAnyH_take (i := 0) (v := ?_) rfl (by kernel_rfl) (by kernel_rfl) (by kernel_rfl) (fun _ _ _ h => h) (Or.inl ⟨by rfl, ?_⟩) (by assumption) ?_
                  rotate_left
                  · (intro w hSw; (try dsimp only at hSw); first | (go_simp; done) | (go_simp; with_reducible rfl))
                  try simp only [List.getElem_toArray, List.getElem_cons_zero, Act.put, List.setIfInBounds_toArray, List.set_cons_zero, List.set_cons_succ]
                  refine wpAnyH_take (i := 1) (v := ?_) rfl (by kernel_rfl) (by kernel_rfl) (by kernel_rfl) (fun _ _ _ h => h) (Or.inl ⟨by rfl, ?_⟩) (by assumption) ?_
                  rotate_left
                  · (intro w hSw; (try dsimp only at hSw); first | (go_simp; done) | (go_simp; with_reducible rfl))
                  try simp only [List.getElem_toArray, List.getElem_cons_zero, List.getElem_cons_succ, Act.put, List.setIfInBounds_toArray, List.set_cons_zero, List.set_cons_succ]
                  refine wpAnyH_take (i := 2) (v := ?_) rfl (by kernel_rfl) (by kernel_rfl) (by kernel_rfl) (fun _ _ _ h => h) (Or.inl ⟨by rfl, ?_⟩) (by assumption) ?_
                  rotate_left
                  · (intro w hSw; (try dsimp only at hSw); first | (go_simp; done) | (go_simp; with_reducible rfl))
                  try simp only [List.getElem_toArray, List.getElem_cons_zero, List.getElem_cons_succ, Act.put, List.setIfInBounds_toArray, List.set_cons_zero, List.set_cons_succ]
                  refine wpAnyH_take (i := 3) (v := ?_) rfl (by kernel_rfl) (by kernel_rfl) (by kernel_rfl) (fun _ _ _ h => h) (Or.inl ⟨by rfl, ?_⟩) (by assumption) ?_
                  rotate_left
                  · (intro w hSw; (try dsimp only at hSw); first | (go_simp; done) | (go_simp; with_reducible rfl))
                  try simp only [List.getElem_toArray, List.getElem_cons_zero, List.getElem_cons_succ, Act.put, List.setIfInBounds_toArray, List.set_cons_zero, List.set_cons_succ]
                  refine wpAnyH_take (i := 4) (v := ?_) rfl (by kernel_rfl) (by kernel_rfl) (by kernel_rfl) (fun _ _ _ h => h) (Or.inl ⟨by rfl, ?_⟩) (by assumption) ?_
                  rotate_left
                  · (intro w hSw; (try dsimp only at hSw); first | (go_simp; done) | (go_simp; with_reducible rfl))
                  try simp only [List.getElem_toArray, List.getElem_cons_zero, List.getElem_cons_succ, Act.put, List.setIfInBounds_toArray, List.set_cons_zero, List.set_cons_succ]
                  refine wpAnyH_take (i := 5) (v := ?_) rfl (by kernel_rfl) (by kernel_rfl) (by kernel_rfl) (fun _ _ _ h => h) (Or.inl ⟨by rfl, ?_⟩) (by assumption) ?_
                  rotate_left
                  · (intro w hSw; (try dsimp only at hSw); first | (go_simp; done) | (go_simp; with_reducible rfl))
                  try simp only [List.getElem_toArray, List.getElem_cons_zero, List.getElem_cons_succ, Act.put, List.setIfInBounds_toArray, List.set_cons_zero, List.set_cons_succ]
                  refine wpAnyH_take (i := 6) (v := ?_) rfl (by kernel_rfl) (by kernel_rfl) (by kernel_rfl) (fun _ _ _ h => h) (Or.inl ⟨by rfl, ?_⟩) (by assumption) ?_
                  rotate_left
                  · (intro w hSw; (try dsimp only at hSw); first | (go_simp; done) | (go_simp; with_reducible rfl))
                  try simp only [List.getElem_toArray, List.getElem_cons_zero, List.getElem_cons_succ, Act.put, List.setIfInBounds_toArray, List.set_cons_zero, List.set_cons_succ]
                  refine wpAnyH_take (i := 7) (v := ?_) rfl (by kernel_rfl) (by kernel_rfl) (by kernel_rfl) (fun _ _ _ h => h) (Or.inl ⟨by rfl, ?_⟩) (by assumption) ?_
                  rotate_left
                  · (intro w hSw; (try dsimp only at hSw); first | (go_simp; done) | (go_simp; with_reducible rfl))
                  try simp only [List.getElem_toArray, List.getElem_cons_zero, List.getElem_cons_succ, Act.put, List.setIfInBounds_toArray, List.set_cons_zero, List.set_cons_succ]
                  refine wpAnyH_take (i := 8) (v := ?_) rfl (by kernel_rfl) (by kernel_rfl) (by kernel_rfl) (fun _ _ _ h => h) (Or.inl ⟨by rfl, ?_⟩) (by assumption) ?_
                  rotate_left
                  · (intro w hSw; (try dsimp only at hSw); first | (go_simp; done) | (go_simp; with_reducible rfl))
                  try simp only [List.getElem_toArray, List.getElem_cons_zero, List.getElem_cons_succ, Act.put, List.setIfInBounds_toArray, List.set_cons_zero, List.set_cons_succ]
                  refine wpAnyH_take (i := 9) (v := ?_) rfl (by kernel_rfl) (by kernel_rfl) (by kernel_rfl) (fun _ _ _ h => h) (Or.inl ⟨by rfl, ?_⟩) (by assumption) ?_
                  rotate_left
                  · (intro w hSw; (try dsimp only at hSw); first | (go_simp; done) | (go_simp; with_reducible rfl))
                  try simp only [List.getElem_toArray, List.getElem_cons_zero, List.getElem_cons_succ, Act.put, List.setIfInBounds_toArray, List.set_cons_zero, List.set_cons_succ]
                  refine wpAnyH_take (i := 10) (v := ?_) rfl (by kernel_rfl) (by kernel_rfl) (by kernel_rfl) (fun _ _ _ h => h) (Or.inl ⟨by rfl, ?_⟩) (by assumption) ?_
                  rotate_left
                  · (intro w hSw; (try dsimp only at hSw); first | (go_simp; done) | (go_simp; with_reducible rfl))
                  try simp only [List.getElem_toArray, List.getElem_cons_zero, List.getElem_cons_succ, Act.put, List.setIfInBounds_toArray, List.set_cons_zero, List.set_cons_succ]
                  refine wpAnyH_take (i := 11) (v := ?_) rfl (by kernel_rfl) (by kernel_rfl) (by kernel_rfl) (fun _ _ _ h => h) (Or.inl ⟨by rfl, ?_⟩) (by assumption) ?_
                  rotate_left
                  · (intro w hSw; (try dsimp only at hSw); first | (go_simp; done) | (go_simp; with_reducible rfl))
                  try simp only [List.getElem_toArray, List.getElem_cons_zero, List.getElem_cons_succ, Act.put, List.setIfInBounds_toArray, List.set_cons_zero, List.set_cons_succ]
                  refine wpAnyH_take (i := 12) (v := ?_) rfl (by kernel_rfl) (by kernel_rfl) (by kernel_rfl) (fun _ _ _ h => h) (Or.inl ⟨by rfl, ?_⟩) (by assumption) ?_
                  rotate_left
                  · (intro w hSw; (try dsimp only at hSw); first | (go_simp; done) | (go_simp; with_reducible rfl))
                  try simp only [List.getElem_toArray, List.getElem_cons_zero, List.getElem_cons_succ, Act.put, List.setIfInBounds_toArray, List.set_cons_zero, List.set_cons_succ]
                  refine wpAnyH_take (i := 14) (v := ?_) rfl (by kernel_rfl) (by kernel_rfl) (by kernel_rfl) (fun _ _ _ h => h) (Or.inl ⟨by rfl, ?_⟩) (by assumption) ?_
                  rotate_left
                  · (intro w hSw; (try dsimp only at hSw); first | (go_simp; done) | (go_simp; with_reducible rfl))
                  try simp only [List.getElem_toArray, List.getElem_cons_zero, List.getElem_cons_succ, Act.put, List.setIfInBounds_toArray, List.set_cons_zero, List.set_cons_succ]
                  refine wpAnyH_ready (rs := [13, 15]) (by kernel_rfl) (by simp) ?_
                  refine AllReadyH.cons rfl (fun KK hKK => ?_) (AllReadyH.cons rfl (fun KK hKK => ?_) AllReadyH.nil)
                  · skip
                    go_simp
                    refine hKK.out _ _ hHeld (fun hHeld2 => ?_)
                    clear hKK KK hHeld
                    try simp only [List.getElem_toArray, List.getElem_cons_zero, List.getElem_cons_succ, Act.put, List.setIfInBounds_toArray, List.set_cons_zero, List.set_cons_succ]
                    refine wpAnyH_ready (rs := [15]) (by kernel_rfl) (by simp) ?_
                    refine AllReadyH.cons rfl (fun KK hKK => ?_) AllReadyH.nil
                    go_simp
                    refine hKK.out _ _ ⟨cell_on hHeld2.1 (below_new _ _), cell_on hHeld2.2 (below_new _ _)⟩ (fun hHeld3 => ?_)
                    clear hKK KK hHeld2
                    try simp only [List.getElem_toArray, List.getElem_cons_zero, List.getElem_cons_succ, Act.put, List.setIfInBounds_toArray, List.set_cons_zero, List.set_cons_succ]
                    refine wpAnyH_ready (rs := [16]) (by kernel_rfl) (by simp) ?_
                    refine AllReadyH.cons rfl (fun KK hKK => ?_) AllReadyH.nil
                    refine step_append_lies _ (by rfl) _ _ _ (by rfl) W.heap.size 3 iI _ 1 8 Tryz.underlying26 hiI zI0 zI1 zI2 rfl (by decide) (.slice la2 l2.length lc2) l2.length (ints l2) (by rfl) HOM2.out ⟨wd2.heap.size, 0, none⟩ 1 1 [.int .i64 k] (by rfl) rfl HNA2.out (by simp [Value.oneCell']) (by decide) (by unfold maxLen; omega) (by omega) (by rw [HSA2.out]; omega) (wd2.heap.size + 1) HSA2.out ?_
                    intro gg2 cap2 v2 hown2 hgw hat2 hlt2
                    have hgrow2 : (wd2.alloc (.cells #[.int .i64 k] 3)).drew.grownBy v2 (Value.ownBlock (.slice la2 l2.length lc2)) := ⟨hgw.os, hgw.tape, hgw.output, hgw.size, hgw.block⟩
                    have f5 := (HNd2.out.h3.fx 2 (by omega)).keep (grown_old2 hgrow2 (HNd2.out.h3.fx 2 (by omega)).lt HNE2.out)
                    have q1 : v2.cell? ⟨s2, xm, none⟩ = some (.slice la2 l2.length lc2) := f5.get HVM2.out
                    have q2 : v2.frozen? ⟨s2, xm, none⟩ = false := f5.frz xm
                    have q3 := (HQd2.out.keep (grown_old2 hgrow2 HQd2.out.lt HNQ2.out)).get (i := 1) rfl
                    have q4 := (HNd2.out.bx.keep (grown_old2 hgrow2 HNd2.out.bx.lt HNB2.out)).get (i := 7) rfl
                    refine hKK.out _ _ ⟨q4, q3⟩ (fun hHeld4 => ?_)
                    have HN2a : Hid (Nk W.heap.size kb ⟨fa, fc, some ⟨gr, go, none⟩, rc, ba, bc, fb, s0, s1, s2⟩ T n (.slice ma n mc) R (up (up (up H 0 ((H 0).set xm (l0 ++ [(k : Int)]))) 1 (((up H 0 ((H 0).set xm (l0 ++ [(k : Int)]))) 1).set xm (l1 ++ [(k : Int)]))) 2 (((up (up H 0 ((H 0).set xm (l0 ++ [(k : Int)]))) 1 (((up H 0 ((H 0).set xm (l0 ++ [(k : Int)]))) 1).set xm (l1 ++ [(k : Int)]))) 2).set xm (l2 ++ [(k : Int)]))) (up (up (up vs 0 ((vs 0).set xm (.slice (some ⟨gg0, 0, none⟩) (l0.length + 1) cap0))) 1 (((up vs 0 ((vs 0).set xm (.slice (some ⟨gg0, 0, none⟩) (l0.length + 1) cap0))) 1).set xm (.slice (some ⟨gg1, 0, none⟩) (l1.length + 1) cap1))) 2 (((up (up vs 0 ((vs 0).set xm (.slice (some ⟨gg0, 0, none⟩) (l0.length + 1) cap0))) 1 (((up vs 0 ((vs 0).set xm (.slice (some ⟨gg0, 0, none⟩) (l0.length + 1) cap0))) 1).set xm (.slice (some ⟨gg1, 0, none⟩) (l1.length + 1) cap1))) 2).set xm (.slice (some ⟨gg2, 0, none⟩) (l2.length + 1) cap2))) (v2.setCell ⟨s2, xm, none⟩ (.slice (some ⟨gg2, 0, none⟩) (l2.length + 1) cap2))) := hide (HNd2.out.add (c := 2) (by omega) HM2.out HVM2.out hown2 (fun k hk hn => grown_old2 hgrow2 hk hn) (by rcases hat2 with h | h; exact .inl h; exact .inr (by omega)))
                    have HQ : Hid (Fx q 63 _ (v2.setCell ⟨s2, xm, none⟩ (.slice (some ⟨gg2, 0, none⟩) (l2.length + 1) cap2))) := hide ((HQd2.out.keep (grown_old2 hgrow2 HQd2.out.lt HNQ2.out)).keep (other_set (fx_ne HQd2.out (HNd2.out.h3.fx 2 (by omega)) (by decide))))
                    have HBq := hide (HBd2.out.trans ((grown_low hgrow2 HHI2.out hbs2).setCell (p := ⟨s2, xm, none⟩) (HNd2.out.h3.lo 2 (by omega)) (.slice (some ⟨gg2, 0, none⟩) (l2.length + 1) cap2)))
                    have q5 := HN2a.out.bx.get (i := 7) rfl
                    have q6 := HQ.out.get (i := 1) rfl
                    clear hKK KK f5 q3 q4 hown2 hgrow2 hgw hat2 hlt2 hHeld3
                    try simp only [List.getElem_toArray, List.getElem_cons_zero, List.getElem_cons_succ, Act.put, List.setIfInBounds_toArray, List.set_cons_zero, List.set_cons_succ]
                    refine wpAnyH_take (i := 17) (v := ?_) rfl (by kernel_rfl) (by kernel_rfl) (by kernel_rfl) (fun _ _ _ h => h) (Or.inl ⟨by rfl, ?_⟩) (by assumption) ?_
                    rotate_left
                    · (intro w hSw; (try dsimp only at hSw); first | (go_simp; done) | (go_simp; with_reducible rfl))
                    try simp only [List.getElem_toArray, List.getElem_cons_zero, List.getElem_cons_succ, Act.put, List.setIfInBounds_toArray, List.set_cons_zero, List.set_cons_succ]
                    refine wpAnyH_ready (rs := [18]) (by kernel_rfl) (by simp) ?_
                    refine AllReadyH.cons rfl (fun KK hKK => ?_) AllReadyH.nil
                    go_simp
                    refine hKK.out _ _ ⟨q5, q6⟩ (fun hHeld5 => ?_)
                    clear hKK KK hHeld4 hHeld5 q1 q2 q5 q6 cm2 cmA2 HNd2 HQd2 HBd2 HOM2 HSA2 HNA2 HNE2 HNQ2 HNB2 HHI2 HM2 HVM2 HA2
                    try simp only [List.getElem_toArray, List.getElem_cons_zero, List.getElem_cons_succ, Act.put, List.setIfInBounds_toArray, List.set_cons_zero, List.set_cons_succ]
                    generalize v2.setCell ⟨s2, xm, none⟩ (.slice (some ⟨gg2, 0, none⟩) (l2.length + 1) cap2) = x2 at *
                    refine wpAnyH_done (by kernel_rfl) ?_ _
                    go_wp2_with fail
                    go_roundw
                    case rel => exact ⟨k + 1, (up (up (up H 0 ((H 0).set xm (l0 ++ [(k : Int)]))) 1 (((up H 0 ((H 0).set xm (l0 ++ [(k : Int)]))) 1).set xm (l1 ++ [(k : Int)]))) 2 (((up (up H 0 ((H 0).set xm (l0 ++ [(k : Int)]))) 1 (((up H 0 ((H 0).set xm (l0 ++ [(k : Int)]))) 1).set xm (l1 ++ [(k : Int)]))) 2).set xm (l2 ++ [(k : Int)]))), (up (up (up vs 0 ((vs 0).set xm (.slice (some ⟨gg0, 0, none⟩) (l0.length + 1) cap0))) 1 (((up vs 0 ((vs 0).set xm (.slice (some ⟨gg0, 0, none⟩) (l0.length + 1) cap0))) 1).set xm (.slice (some ⟨gg1, 0, none⟩) (l1.length + 1) cap1))) 2 (((up (up vs 0 ((vs 0).set xm (.slice (some ⟨gg0, 0, none⟩) (l0.length + 1) cap0))) 1 (((up vs 0 ((vs 0).set xm (.slice (some ⟨gg0, 0, none⟩) (l0.length + 1) cap0))) 1).set xm (.slice (some ⟨gg1, 0, none⟩) (l1.length + 1) cap1))) 2).set xm (.slice (some ⟨gg2, 0, none⟩) (l2.length + 1) cap2))), by omega, by go_num, HU0, HU1, HU2, HN2a, HBq⟩
                    case measure => simp [intOf]; omega
                  · skip
                    go_simp
                    refine hKK.out _ _ ⟨cell_on hHeld.1 (below_new _ _), cell_on hHeld.2 (below_new _ _)⟩ (fun hHeld3 => ?_)
                    clear hKK KK hHeld
                    try simp only [List.getElem_toArray, List.getElem_cons_zero, List.getElem_cons_succ, Act.put, List.setIfInBounds_toArray, List.set_cons_zero, List.set_cons_succ]
                    refine wpAnyH_ready (rs := [13]) (by kernel_rfl) (by simp) ?_
                    refine AllReadyH.cons rfl (fun KK hKK => ?_) AllReadyH.nil
                    go_simp
                    refine hKK.out _ _ hHeld3 (fun hHeld2 => ?_)
                    clear hKK KK hHeld3
                    try simp only [List.getElem_toArray, List.getElem_cons_zero, List.getElem_cons_succ, Act.put, List.setIfInBounds_toArray, List.set_cons_zero, List.set_cons_succ]
                    refine wpAnyH_ready (rs := [16]) (by kernel_rfl) (by simp) ?_
                    refine AllReadyH.cons rfl (fun KK hKK => ?_) AllReadyH.nil
                    refine step_append_lies _ (by rfl) _ _ _ (by rfl) W.heap.size 3 iI _ 1 8 Tryz.underlying26 hiI zI0 zI1 zI2 rfl (by decide) (.slice la2 l2.length lc2) l2.length (ints l2) (by rfl) HOM2.out ⟨wd2.heap.size, 0, none⟩ 1 1 [.int .i64 k] (by rfl) rfl HNA2.out (by simp [Value.oneCell']) (by decide) (by unfold maxLen; omega) (by omega) (by rw [HSA2.out]; omega) (wd2.heap.size + 1) HSA2.out ?_
                    intro gg2 cap2 v2 hown2 hgw hat2 hlt2
                    have hgrow2 : (wd2.alloc (.cells #[.int .i64 k] 3)).drew.grownBy v2 (Value.ownBlock (.slice la2 l2.length lc2)) := ⟨hgw.os, hgw.tape, hgw.output, hgw.size, hgw.block⟩
                    have f5 := (HNd2.out.h3.fx 2 (by omega)).keep (grown_old2 hgrow2 (HNd2.out.h3.fx 2 (by omega)).lt HNE2.out)
                    have q1 : v2.cell? ⟨s2, xm, none⟩ = some (.slice la2 l2.length lc2) := f5.get HVM2.out
                    have q2 : v2.frozen? ⟨s2, xm, none⟩ = false := f5.frz xm
                    have q3 := (HQd2.out.keep (grown_old2 hgrow2 HQd2.out.lt HNQ2.out)).get (i := 1) rfl
                    have q4 := (HNd2.out.bx.keep (grown_old2 hgrow2 HNd2.out.bx.lt HNB2.out)).get (i := 7) rfl
                    refine hKK.out _ _ ⟨q4, q3⟩ (fun hHeld4 => ?_)
                    have HN2a : Hid (Nk W.heap.size kb ⟨fa, fc, some ⟨gr, go, none⟩, rc, ba, bc, fb, s0, s1, s2⟩ T n (.slice ma n mc) R (up (up (up H 0 ((H 0).set xm (l0 ++ [(k : Int)]))) 1 (((up H 0 ((H 0).set xm (l0 ++ [(k : Int)]))) 1).set xm (l1 ++ [(k : Int)]))) 2 (((up (up H 0 ((H 0).set xm (l0 ++ [(k : Int)]))) 1 (((up H 0 ((H 0).set xm (l0 ++ [(k : Int)]))) 1).set xm (l1 ++ [(k : Int)]))) 2).set xm (l2 ++ [(k : Int)]))) (up (up (up vs 0 ((vs 0).set xm (.slice (some ⟨gg0, 0, none⟩) (l0.length + 1) cap0))) 1 (((up vs 0 ((vs 0).set xm (.slice (some ⟨gg0, 0, none⟩) (l0.length + 1) cap0))) 1).set xm (.slice (some ⟨gg1, 0, none⟩) (l1.length + 1) cap1))) 2 (((up (up vs 0 ((vs 0).set xm (.slice (some ⟨gg0, 0, none⟩) (l0.length + 1) cap0))) 1 (((up vs 0 ((vs 0).set xm (.slice (some ⟨gg0, 0, none⟩) (l0.length + 1) cap0))) 1).set xm (.slice (some ⟨gg1, 0, none⟩) (l1.length + 1) cap1))) 2).set xm (.slice (some ⟨gg2, 0, none⟩) (l2.length + 1) cap2))) (v2.setCell ⟨s2, xm, none⟩ (.slice (some ⟨gg2, 0, none⟩) (l2.length + 1) cap2))) := hide (HNd2.out.add (c := 2) (by omega) HM2.out HVM2.out hown2 (fun k hk hn => grown_old2 hgrow2 hk hn) (by rcases hat2 with h | h; exact .inl h; exact .inr (by omega)))
                    have HQ : Hid (Fx q 63 _ (v2.setCell ⟨s2, xm, none⟩ (.slice (some ⟨gg2, 0, none⟩) (l2.length + 1) cap2))) := hide ((HQd2.out.keep (grown_old2 hgrow2 HQd2.out.lt HNQ2.out)).keep (other_set (fx_ne HQd2.out (HNd2.out.h3.fx 2 (by omega)) (by decide))))
                    have HBq := hide (HBd2.out.trans ((grown_low hgrow2 HHI2.out hbs2).setCell (p := ⟨s2, xm, none⟩) (HNd2.out.h3.lo 2 (by omega)) (.slice (some ⟨gg2, 0, none⟩) (l2.length + 1) cap2)))
                    have q5 := HN2a.out.bx.get (i := 7) rfl
                    have q6 := HQ.out.get (i := 1) rfl
                    clear hKK KK f5 q3 q4 hown2 hgrow2 hgw hat2 hlt2 hHeld2
                    try simp only [List.getElem_toArray, List.getElem_cons_zero, List.getElem_cons_succ, Act.put, List.setIfInBounds_toArray, List.set_cons_zero, List.set_cons_succ]
                    refine wpAnyH_take (i := 17) (v := ?_) rfl (by kernel_rfl) (by kernel_rfl) (by kernel_rfl) (fun _ _ _ h => h) (Or.inl ⟨by rfl, ?_⟩) (by assumption) ?_
                    rotate_left
                    · (intro w hSw; (try dsimp only at hSw); first | (go_simp; done) | (go_simp; with_reducible rfl))
                    try simp only [List.getElem_toArray, List.getElem_cons_zero, List.getElem_cons_succ, Act.put, List.setIfInBounds_toArray, List.set_cons_zero, List.set_cons_succ]
                    refine wpAnyH_ready (rs := [18]) (by kernel_rfl) (by simp) ?_
                    refine AllReadyH.cons rfl (fun KK hKK => ?_) AllReadyH.nil
                    go_simp
                    refine hKK.out _ _ ⟨q5, q6⟩ (fun hHeld5 => ?_)
                    clear hKK KK hHeld4 hHeld5 q1 q2 q5 q6 cm2 cmA2 HNd2 HQd2 HBd2 HOM2 HSA2 HNA2 HNE2 HNQ2 HNB2 HHI2 HM2 HVM2 HA2
                    try simp only [List.getElem_toArray, List.getElem_cons_zero, List.getElem_cons_succ, Act.put, List.setIfInBounds_toArray, List.set_cons_zero, List.set_cons_succ]
                    generalize v2.setCell ⟨s2, xm, none⟩ (.slice (some ⟨gg2, 0, none⟩) (l2.length + 1) cap2) = x2 at *
                    refine wpAnyH_done (by kernel_rfl) ?_ _
                    go_wp2_with fail
                    go_roundw
                    case rel => exact ⟨k + 1, (up (up (up H 0 ((H 0).set xm (l0 ++ [(k : Int)]))) 1 (((up H 0 ((H 0).set xm (l0 ++ [(k : Int)]))) 1).set xm (l1 ++ [(k : Int)]))) 2 (((up (up H 0 ((H 0).set xm (l0 ++ [(k : Int)]))) 1 (((up H 0 ((H 0).set xm (l0 ++ [(k : Int)]))) 1).set xm (l1 ++ [(k : Int)]))) 2).set xm (l2 ++ [(k : Int)]))), (up (up (up vs 0 ((vs 0).set xm (.slice (some ⟨gg0, 0, none⟩) (l0.length + 1) cap0))) 1 (((up vs 0 ((vs 0).set xm (.slice (some ⟨gg0, 0, none⟩) (l0.length + 1) cap0))) 1).set xm (.slice (some ⟨gg1, 0, none⟩) (l1.length + 1) cap1))) 2 (((up (up vs 0 ((vs 0).set xm (.slice (some ⟨gg0, 0, none⟩) (l0.length + 1) cap0))) 1 (((up vs 0 ((vs 0).set xm (.slice (some ⟨gg0, 0, none⟩) (l0.length + 1) cap0))) 1).set xm (.slice (some ⟨gg1, 0, none⟩) (l1.length + 1) cap1))) 2).set xm (.slice (some ⟨gg2, 0, none⟩) (l2.length + 1) cap2))), by omega, by go_num, HU0, HU1, HU2, HN2a, HBq⟩
                    case measure => simp [intOf]; omega
                · skip
                  go_simp
                  refine hKK.out _ _ ⟨cell_on hHeld.1 (below_new _ _), cell_on hHeld.2 (below_new _ _)⟩ (fun hHeld3 => ?_)
                  clear hKK KK hHeld
                  try simp only [List.getElem_toArray, List.getElem_cons_zero, List.getElem_cons_succ, Act.put, List.setIfInBounds_toArray, List.set_cons_zero, List.set_cons_succ]
                  refine wpAnyH_ready (rs := [13]) (by kernel_rfl) (by simp) ?_
                  refine AllReadyH.cons rfl (fun KK hKK => ?_) AllReadyH.nil
                  go_simp
                  refine hKK.out _ _ hHeld3 (fun hHeld2 => ?_)
                  clear hKK KK hHeld3
                  try simp only [List.getElem_toArray, List.getElem_cons_zero, List.getElem_cons_succ, Act.put, List.setIfInBounds_toArray, List.set_cons_zero, List.set_cons_succ]
                  refine wpAnyH_ready (rs := [16]) (by kernel_rfl) (by simp) ?_
                  refine AllReadyH.cons rfl (fun KK hKK => ?_) AllReadyH.nil
                  refine step_append_lies _ (by rfl) _ _ _ (by rfl) W.heap.size 3 iI _ 1 8 Tryz.underlying26 hiI zI0 zI1 zI2 rfl (by decide) (.slice la1 l1.length lc1) l1.length (ints l1) (by rfl) HOM1.out ⟨wd1.heap.size, 0, none⟩ 1 1 [.int .i64 k] (by rfl) rfl HNA1.out (by simp [Value.oneCell']) (by decide) (by unfold maxLen; omega) (by omega) (by rw [HSA1.out]; omega) (wd1.heap.size + 1) HSA1.out ?_
                  intro gg1 cap1 v1 hown1 hgw hat1 hlt1
                  have hgrow1 : (wd1.alloc (.cells #[.int .i64 k] 3)).drew.grownBy v1 (Value.ownBlock (.slice la1 l1.length lc1)) := ⟨hgw.os, hgw.tape, hgw.output, hgw.size, hgw.block⟩
                  have f5 := (HNd1.out.h3.fx 1 (by omega)).keep (grown_old2 hgrow1 (HNd1.out.h3.fx 1 (by omega)).lt HNE1.out)
                  have q1 : v1.cell? ⟨s1, xm, none⟩ = some (.slice la1 l1.length lc1) := f5.get HVM1.out
                  have q2 : v1.frozen? ⟨s1, xm, none⟩ = false := f5.frz xm
                  have q3 := (HQd1.out.keep (grown_old2 hgrow1 HQd1.out.lt HNQ1.out)).get (i := 1) rfl
                  have q4 := (HNd1.out.bx.keep (grown_old2 hgrow1 HNd1.out.bx.lt HNB1.out)).get (i := 6) rfl
                  refine hKK.out _ _ ⟨q4, q3⟩ (fun hHeld4 => ?_)
                  have HN1a : Hid (Nk W.heap.size kb ⟨fa, fc, some ⟨gr, go, none⟩, rc, ba, bc, fb, s0, s1, s2⟩ T n (.slice ma n mc) R (up (up H 0 ((H 0).set xm (l0 ++ [(k : Int)]))) 1 (((up H 0 ((H 0).set xm (l0 ++ [(k : Int)]))) 1).set xm (l1 ++ [(k : Int)]))) (up (up vs 0 ((vs 0).set xm (.slice (some ⟨gg0, 0, none⟩) (l0.length + 1) cap0))) 1 (((up vs 0 ((vs 0).set xm (.slice (some ⟨gg0, 0, none⟩) (l0.length + 1) cap0))) 1).set xm (.slice (some ⟨gg1, 0, none⟩) (l1.length + 1) cap1))) (v1.setCell ⟨s1, xm, none⟩ (.slice (some ⟨gg1, 0, none⟩) (l1.length + 1) cap1))) := hide (HNd1.out.add (c := 1) (by omega) HM1.out HVM1.out hown1 (fun k hk hn => grown_old2 hgrow1 hk hn) (by rcases hat1 with h | h; exact .inl h; exact .inr (by omega)))
                  have HQ : Hid (Fx q 63 _ (v1.setCell ⟨s1, xm, none⟩ (.slice (some ⟨gg1, 0, none⟩) (l1.length + 1) cap1))) := hide ((HQd1.out.keep (grown_old2 hgrow1 HQd1.out.lt HNQ1.out)).keep (other_set (fx_ne HQd1.out (HNd1.out.h3.fx 1 (by omega)) (by decide))))
                  have HBq := hide (HBd1.out.trans ((grown_low hgrow1 HHI1.out hbs1).setCell (p := ⟨s1, xm, none⟩) (HNd1.out.h3.lo 1 (by omega)) (.slice (some ⟨gg1, 0, none⟩) (l1.length + 1) cap1)))
                  have q5 := HN1a.out.bx.get (i := 6) rfl
                  have q6 := HQ.out.get (i := 1) rfl
                  clear hKK KK f5 q3 q4 hown1 hgrow1 hgw hat1 hlt1 hHeld2
                  try simp only [List.getElem_toArray, List.getElem_cons_zero, List.getElem_cons_succ, Act.put, List.setIfInBounds_toArray, List.set_cons_zero, List.set_cons_succ]
                  refine wpAnyH_take (i := 17) (v := ?_) rfl (by kernel_rfl) (by kernel_rfl) (by kernel_rfl) (fun _ _ _ h => h) (Or.inl ⟨by rfl, ?_⟩) (by assumption) ?_
                  rotate_left
                  · (intro w hSw; (try dsimp only at hSw); first | (go_simp; done) | (go_simp; with_reducible rfl))
                  try simp only [List.getElem_toArray, List.getElem_cons_zero, List.getElem_cons_succ, Act.put, List.setIfInBounds_toArray, List.set_cons_zero, List.set_cons_succ]
                  refine wpAnyH_ready (rs := [18]) (by kernel_rfl) (by simp) ?_
                  refine AllReadyH.cons rfl (fun KK hKK => ?_) AllReadyH.nil
                  go_simp
                  refine hKK.out _ _ ⟨q5, q6⟩ (fun hHeld5 => ?_)
                  clear hKK KK hHeld4 hHeld5 q1 q2 q5 q6 cm1 cmA1 HNd1 HQd1 HBd1 HOM1 HSA1 HNA1 HNE1 HNQ1 HNB1 HHI1 HM1 HVM1 HA1
                  try simp only [List.getElem_toArray, List.getElem_cons_zero, List.getElem_cons_succ, Act.put, List.setIfInBounds_toArray, List.set_cons_zero, List.set_cons_succ]
                  generalize v1.setCell ⟨s1, xm, none⟩ (.slice (some ⟨gg1, 0, none⟩) (l1.length + 1) cap1) = x1 at *
                  refine wpAnyH_done (by kernel_rfl) ?_ _
                  have z0 := HQ.out.get (i := 0) rfl
                  have hd2 := (Below.refl x1.heap.size x1).drew
                  have HNd2 := hide (HN1a.out.go hd2)
                  have HQd2 := hide (HQ.out.keep (hd2.block _ HQ.out.lt))
                  have HBd2 := hide (HBq.out.trans (hd2.mono HBq.out.size))
                  have kc2 := HN1a.out.bx.get (i := 7) rfl
                  have y2 := HQ.out.get (i := 1) rfl
                  go_upto_region 14 with fail
                  refine wp_region_held_drew (S := fun X : World => X.cell? ⟨kb, 7, none⟩ = some (.slice (some ⟨s2, 0, none⟩) n n) ∧ X.cell? ⟨q, 1, none⟩ = some (.int .i64 xm)) (by kernel_rfl) ⟨kc2, y2⟩ (fun hHeld => ?_)
                  clear HN1a HQ HBq kc2 y2 hd2 z0
                  generalize x1.drew = wd2 at *
                  obtain ⟨l2, la2, lc2, hm2, hv2, cm2, om2⟩ := HNd2.out.h3.at (c := 2) (by omega) hxn
                  have HG2b : Hid (Grp T kA n k ((up (up H 0 ((H 0).set xm (l0 ++ [(k : Int)]))) 1 (((up H 0 ((H 0).set xm (l0 ++ [(k : Int)]))) 1).set xm (l1 ++ [(k : Int)]))) 2)) := HG2
                  have hml2 := HG2b.out.row_le hm2
                  have HU2 : Hid (Grp T kA n (k + 1) (((up (up H 0 ((H 0).set xm (l0 ++ [(k : Int)]))) 1 (((up H 0 ((H 0).set xm (l0 ++ [(k : Int)]))) 1).set xm (l1 ++ [(k : Int)]))) 2).set xm (l2 ++ [(k : Int)]))) := hide (by
                    have := HG2b.out.add HRr.out HP2.out HHM.out hxn
                    rw [List.getD_eq_getElem?_getD, hm2] at this
                    exact this)
                  have hA2 := below_new wd2 (.cells #[.int .i64 k] 3)
                  have hbs2 : W.heap.size ≤ wd2.heap.size := HBd2.out.size
                  have HOM2 := hide (owns_keep om2 fun g hg => hA2.block g (owns_lt om2 hg))
                  have cmA2 := cell_on cm2 hA2
                  have HA2 := hide hA2
                  have HSA2 : Hid ((wd2.alloc (.cells #[.int .i64 k] 3)).heap.size = wd2.heap.size + 1) := hide (by simp)
                  have HNA2 : Hid (∀ j u, [Value.int .i64 k][j]? = some u → (wd2.alloc (.cells #[.int .i64 k] 3)).cell? ((⟨wd2.heap.size, 0, none⟩ : Addr).add j) = some u) := hide (World.news_of_block (cs := [Value.int .i64 k].toArray) (t := 3) (fr := (0, 0)) (heap_alloc_new wd2 (.cells #[.int .i64 k] 3)))
                  have HNE2 := hide (own_fx om2 (HNd2.out.h3.fx 2 (by omega)) (by decide))
                  have HNQ2 := hide (own_fx om2 HQd2.out (by decide))
                  have HNB2 := hide (own_fx om2 HNd2.out.bx (by decide))
                  have HHI2 : Hid (∀ g, Value.ownBlock (.slice la2 l2.length lc2) = some g → W.heap.size ≤ g) := hide fun g e => (om2.lt g e).1
                  have HM2 := hide hm2
                  have HVM2 := hide hv2
                  have e2 : sbA ⟨fa, fc, some ⟨gr, go, none⟩, rc, ba, bc, fb, s0, s1, s2⟩ 2 = s2 := rfl
                  rw [e2] at cm2 cmA2
                  clear hA2 hm2 hv2 om2 e2
                  refine wpAnyH_take (i := 0) (v := ?_) rfl (by kernel_rfl) (by kernel_rfl) (by kernel_rfl) (fun _ _ _ h => h) (Or.inl ⟨by rfl, ?_⟩) (by assumption) ?_
                  rotate_left
                  · (intro w hSw; (try dsimp only at hSw); first | (go_simp; done) | (go_simp; with_reducible rfl))
                  try simp only [List.getElem_toArray, List.getElem_cons_zero, Act.put, List.setIfInBounds_toArray, List.set_cons_zero, List.set_cons_succ]
                  refine wpAnyH_take (i := 1) (v := ?_) rfl (by kernel_rfl) (by kernel_rfl) (by kernel_rfl) (fun _ _ _ h => h) (Or.inl ⟨by rfl, ?_⟩) (by assumption) ?_
                  rotate_left
                  · (intro w hSw; (try dsimp only at hSw); first | (go_simp; done) | (go_simp; with_reducible rfl))
                  try simp only [List.getElem_toArray, List.getElem_cons_zero, List.getElem_cons_succ, Act.put, List.setIfInBounds_toArray, List.set_cons_zero, List.set_cons_succ]
                  refine wpAnyH_take (i := 2) (v := ?_) rfl (by kernel_rfl) (by kernel_rfl) (by kernel_rfl) (fun _ _ _ h => h) (Or.inl ⟨by rfl, ?_⟩) (by assumption) ?_
                  rotate_left
                  · (intro w hSw; (try dsimp only at hSw); first | (go_simp; done) | (go_simp; with_reducible rfl))
                  try simp only [List.getElem_toArray, List.getElem_cons_zero, List.getElem_cons_succ, Act.put, List.setIfInBounds_toArray, List.set_cons_zero, List.set_cons_succ]
                  refine wpAnyH_take (i := 3) (v := ?_) rfl (by kernel_rfl) (by kernel_rfl) (by kernel_rfl) (fun _ _ _ h => h) (Or.inl ⟨by rfl, ?_⟩) (by assumption) ?_
                  rotate_left
                  · (intro w hSw; (try dsimp only at hSw); first | (go_simp; done) | (go_simp; with_reducible rfl))
                  try simp only [List.getElem_toArray, List.getElem_cons_zero, List.getElem_cons_succ, Act.put, List.setIfInBounds_toArray, List.set_cons_zero, List.set_cons_succ]
                  refine wpAnyH_take (i := 4) (v := ?_) rfl (by kernel_rfl) (by kernel_rfl) (by kernel_rfl) (fun _ _ _ h => h) (Or.inl ⟨by rfl, ?_⟩) (by assumption) ?_
                  rotate_left
                  · (intro w hSw; (try dsimp only at hSw); first | (go_simp; done) | (go_simp; with_reducible rfl))
                  try simp only [List.getElem_toArray, List.getElem_cons_zero, List.getElem_cons_succ, Act.put, List.setIfInBounds_toArray, List.set_cons_zero, List.set_cons_succ]
                  refine wpAnyH_take (i := 5) (v := ?_) rfl (by kernel_rfl) (by kernel_rfl) (by kernel_rfl) (fun _ _ _ h => h) (Or.inl ⟨by rfl, ?_⟩) (by assumption) ?_
                  rotate_left
                  · (intro w hSw; (try dsimp only at hSw); first | (go_simp; done) | (go_simp; with_reducible rfl))
                  try simp only [List.getElem_toArray, List.getElem_cons_zero, List.getElem_cons_succ, Act.put, List.setIfInBounds_toArray, List.set_cons_zero, List.set_cons_succ]
                  refine wpAnyH_take (i := 6) (v := ?_) rfl (by kernel_rfl) (by kernel_rfl) (by kernel_rfl) (fun _ _ _ h => h) (Or.inl ⟨by rfl, ?_⟩) (by assumption) ?_
                  rotate_left
                  · (intro w hSw; (try dsimp only at hSw); first | (go_simp; done) | (go_simp; with_reducible rfl))
                  try simp only [List.getElem_toArray, List.getElem_cons_zero, List.getElem_cons_succ, Act.put, List.setIfInBounds_toArray, List.set_cons_zero, List.set_cons_succ]
                  refine wpAnyH_take (i := 7) (v := ?_) rfl (by kernel_rfl) (by kernel_rfl) (by kernel_rfl) (fun _ _ _ h => h) (Or.inl ⟨by rfl, ?_⟩) (by assumption) ?_
                  rotate_left
                  · (intro w hSw; (try dsimp only at hSw); first | (go_simp; done) | (go_simp; with_reducible rfl))
                  try simp only [List.getElem_toArray, List.getElem_cons_zero, List.getElem_cons_succ, Act.put, List.setIfInBounds_toArray, List.set_cons_zero, List.set_cons_succ]
                  refine wpAnyH_take (i := 8) (v := ?_) rfl (by kernel_rfl) (by kernel_rfl) (by kernel_rfl) (fun _ _ _ h => h) (Or.inl ⟨by rfl, ?_⟩) (by assumption) ?_
                  rotate_left
                  · (intro w hSw; (try dsimp only at hSw); first | (go_simp; done) | (go_simp; with_reducible rfl))
                  try simp only [List.getElem_toArray, List.getElem_cons_zero, List.getElem_cons_succ, Act.put, List.setIfInBounds_toArray, List.set_cons_zero, List.set_cons_succ]
                  refine wpAnyH_take (i := 9) (v := ?_) rfl (by kernel_rfl) (by kernel_rfl) (by kernel_rfl) (fun _ _ _ h => h) (Or.inl ⟨by rfl, ?_⟩) (by assumption) ?_
                  rotate_left
                  · (intro w hSw; (try dsimp only at hSw); first | (go_simp; done) | (go_simp; with_reducible rfl))
                  try simp only [List.getElem_toArray, List.getElem_cons_zero, List.getElem_cons_succ, Act.put, List.setIfInBounds_toArray, List.set_cons_zero, List.set_cons_succ]
                  refine wpAnyH_take (i := 10) (v := ?_) rfl (by kernel_rfl) (by kernel_rfl) (by kernel_rfl) (fun _ _ _ h => h) (Or.inl ⟨by rfl, ?_⟩) (by assumption) ?_
                  rotate_left
                  · (intro w hSw; (try dsimp only at hSw); first | (go_simp; done) | (go_simp; with_reducible rfl))
                  try simp only [List.getElem_toArray, List.getElem_cons_zero, List.getElem_cons_succ, Act.put, List.setIfInBounds_toArray, List.set_cons_zero, List.set_cons_succ]
                  refine wpAnyH_take (i := 11) (v := ?_) rfl (by kernel_rfl) (by kernel_rfl) (by kernel_rfl) (fun _ _ _ h => h) (Or.inl ⟨by rfl, ?_⟩) (by assumption) ?_
                  rotate_left
                  · (intro w hSw; (try dsimp only at hSw); first | (go_simp; done) | (go_simp; with_reducible rfl))
                  try simp only [List.getElem_toArray, List.getElem_cons_zero, List.getElem_cons_succ, Act.put, List.setIfInBounds_toArray, List.set_cons_zero, List.set_cons_succ]
                  refine wpAnyH_take (i := 12) (v := ?_) rfl (by kernel_rfl) (by kernel_rfl) (by kernel_rfl) (fun _ _ _ h => h) (Or.inl ⟨by rfl, ?_⟩) (by assumption) ?_
                  rotate_left
                  · (intro w hSw; (try dsimp only at hSw); first | (go_simp; done) | (go_simp; with_reducible rfl))
                  try simp only [List.getElem_toArray, List.getElem_cons_zero, List.getElem_cons_succ, Act.put, List.setIfInBounds_toArray, List.set_cons_zero, List.set_cons_succ]
                  refine wpAnyH_take (i := 14) (v := ?_) rfl (by kernel_rfl) (by kernel_rfl) (by kernel_rfl) (fun _ _ _ h => h) (Or.inl ⟨by rfl, ?_⟩) (by assumption) ?_
                  rotate_left
                  · (intro w hSw; (try dsimp only at hSw); first | (go_simp; done) | (go_simp; with_reducible rfl))
                  try simp only [List.getElem_toArray, List.getElem_cons_zero, List.getElem_cons_succ, Act.put, List.setIfInBounds_toArray, List.set_cons_zero, List.set_cons_succ]
                  refine wpAnyH_ready (rs := [13, 15]) (by kernel_rfl) (by simp) ?_
                  refine AllReadyH.cons rfl (fun KK hKK => ?_) (AllReadyH.cons rfl (fun KK hKK => ?_) AllReadyH.nil)
                  · skip
                    go_simp
                    refine hKK.out _ _ hHeld (fun hHeld2 => ?_)
                    clear hKK KK hHeld
                    try simp only [List.getElem_toArray, List.getElem_cons_zero, List.getElem_cons_succ, Act.put, List.setIfInBounds_toArray, List.set_cons_zero, List.set_cons_succ]
                    refine wpAnyH_ready (rs := [15]) (by kernel_rfl) (by simp) ?_
                    refine AllReadyH.cons rfl (fun KK hKK => ?_) AllReadyH.nil
                    go_simp
                    refine hKK.out _ _ ⟨cell_on hHeld2.1 (below_new _ _), cell_on hHeld2.2 (below_new _ _)⟩ (fun hHeld3 => ?_)
                    clear hKK KK hHeld2
                    try simp only [List.getElem_toArray, List.getElem_cons_zero, List.getElem_cons_succ, Act.put, List.setIfInBounds_toArray, List.set_cons_zero, List.set_cons_succ]
                    refine wpAnyH_ready (rs := [16]) (by kernel_rfl) (by simp) ?_
                    refine AllReadyH.cons rfl (fun KK hKK => ?_) AllReadyH.nil
                    refine step_append_lies _ (by rfl) _ _ _ (by rfl) W.heap.size 3 iI _ 1 8 Tryz.underlying26 hiI zI0 zI1 zI2 rfl (by decide) (.slice la2 l2.length lc2) l2.length (ints l2) (by rfl) HOM2.out ⟨wd2.heap.size, 0, none⟩ 1 1 [.int .i64 k] (by rfl) rfl HNA2.out (by simp [Value.oneCell']) (by decide) (by unfold maxLen; omega) (by omega) (by rw [HSA2.out]; omega) (wd2.heap.size + 1) HSA2.out ?_
                    intro gg2 cap2 v2 hown2 hgw hat2 hlt2
                    have hgrow2 : (wd2.alloc (.cells #[.int .i64 k] 3)).drew.grownBy v2 (Value.ownBlock (.slice la2 l2.length lc2)) := ⟨hgw.os, hgw.tape, hgw.output, hgw.size, hgw.block⟩
                    have f5 := (HNd2.out.h3.fx 2 (by omega)).keep (grown_old2 hgrow2 (HNd2.out.h3.fx 2 (by omega)).lt HNE2.out)
                    have q1 : v2.cell? ⟨s2, xm, none⟩ = some (.slice la2 l2.length lc2) := f5.get HVM2.out
                    have q2 : v2.frozen? ⟨s2, xm, none⟩ = false := f5.frz xm
                    have q3 := (HQd2.out.keep (grown_old2 hgrow2 HQd2.out.lt HNQ2.out)).get (i := 1) rfl
                    have q4 := (HNd2.out.bx.keep (grown_old2 hgrow2 HNd2.out.bx.lt HNB2.out)).get (i := 7) rfl
                    refine hKK.out _ _ ⟨q4, q3⟩ (fun hHeld4 => ?_)
                    have HN2a : Hid (Nk W.heap.size kb ⟨fa, fc, some ⟨gr, go, none⟩, rc, ba, bc, fb, s0, s1, s2⟩ T n (.slice ma n mc) R (up (up (up H 0 ((H 0).set xm (l0 ++ [(k : Int)]))) 1 (((up H 0 ((H 0).set xm (l0 ++ [(k : Int)]))) 1).set xm (l1 ++ [(k : Int)]))) 2 (((up (up H 0 ((H 0).set xm (l0 ++ [(k : Int)]))) 1 (((up H 0 ((H 0).set xm (l0 ++ [(k : Int)]))) 1).set xm (l1 ++ [(k : Int)]))) 2).set xm (l2 ++ [(k : Int)]))) (up (up (up vs 0 ((vs 0).set xm (.slice (some ⟨gg0, 0, none⟩) (l0.length + 1) cap0))) 1 (((up vs 0 ((vs 0).set xm (.slice (some ⟨gg0, 0, none⟩) (l0.length + 1) cap0))) 1).set xm (.slice (some ⟨gg1, 0, none⟩) (l1.length + 1) cap1))) 2 (((up (up vs 0 ((vs 0).set xm (.slice (some ⟨gg0, 0, none⟩) (l0.length + 1) cap0))) 1 (((up vs 0 ((vs 0).set xm (.slice (some ⟨gg0, 0, none⟩) (l0.length + 1) cap0))) 1).set xm (.slice (some ⟨gg1, 0, none⟩) (l1.length + 1) cap1))) 2).set xm (.slice (some ⟨gg2, 0, none⟩) (l2.length + 1) cap2))) (v2.setCell ⟨s2, xm, none⟩ (.slice (some ⟨gg2, 0, none⟩) (l2.length + 1) cap2))) := hide (HNd2.out.add (c := 2) (by omega) HM2.out HVM2.out hown2 (fun k hk hn => grown_old2 hgrow2 hk hn) (by rcases hat2 with h | h; exact .inl h; exact .inr (by omega)))
                    have HQ : Hid (Fx q 63 _ (v2.setCell ⟨s2, xm, none⟩ (.slice (some ⟨gg2, 0, none⟩) (l2.length + 1) cap2))) := hide ((HQd2.out.keep (grown_old2 hgrow2 HQd2.out.lt HNQ2.out)).keep (other_set (fx_ne HQd2.out (HNd2.out.h3.fx 2 (by omega)) (by decide))))
                    have HBq := hide (HBd2.out.trans ((grown_low hgrow2 HHI2.out hbs2).setCell (p := ⟨s2, xm, none⟩) (HNd2.out.h3.lo 2 (by omega)) (.slice (some ⟨gg2, 0, none⟩) (l2.length + 1) cap2)))
                    have q5 := HN2a.out.bx.get (i := 7) rfl
                    have q6 := HQ.out.get (i := 1) rfl
                    clear hKK KK f5 q3 q4 hown2 hgrow2 hgw hat2 hlt2 hHeld3
                    try simp only [List.getElem_toArray, List.getElem_cons_zero, List.getElem_cons_succ, Act.put, List.setIfInBounds_toArray, List.set_cons_zero, List.set_cons_succ]
                    refine wpAnyH_take (i := 17) (v := ?_) rfl (by kernel_rfl) (by kernel_rfl) (by kernel_rfl) (fun _ _ _ h => h) (Or.inl ⟨by rfl, ?_⟩) (by assumption) ?_
                    rotate_left
                    · (intro w hSw; (try dsimp only at hSw); first | (go_simp; done) | (go_simp; with_reducible rfl))
                    try simp only [List.getElem_toArray, List.getElem_cons_zero, List.getElem_cons_succ, Act.put, List.setIfInBounds_toArray, List.set_cons_zero, List.set_cons_succ]
                    refine wpAnyH_ready (rs := [18]) (by kernel_rfl) (by simp) ?_
                    refine AllReadyH.cons rfl (fun KK hKK => ?_) AllReadyH.nil
                    go_simp
                    refine hKK.out _ _ ⟨q5, q6⟩ (fun hHeld5 => ?_)
                    clear hKK KK hHeld4 hHeld5 q1 q2 q5 q6 cm2 cmA2 HNd2 HQd2 HBd2 HOM2 HSA2 HNA2 HNE2 HNQ2 HNB2 HHI2 HM2 HVM2 HA2
                    try simp only [List.getElem_toArray, List.getElem_cons_zero, List.getElem_cons_succ, Act.put, List.setIfInBounds_toArray, List.set_cons_zero, List.set_cons_succ]
                    generalize v2.setCell ⟨s2, xm, none⟩ (.slice (some ⟨gg2, 0, none⟩) (l2.length + 1) cap2) = x2 at *
                    refine wpAnyH_done (by kernel_rfl) ?_ _
                    go_wp2_with fail
                    go_roundw
                    case rel => exact ⟨k + 1, (up (up (up H 0 ((H 0).set xm (l0 ++ [(k : Int)]))) 1 (((up H 0 ((H 0).set xm (l0 ++ [(k : Int)]))) 1).set xm (l1 ++ [(k : Int)]))) 2 (((up (up H 0 ((H 0).set xm (l0 ++ [(k : Int)]))) 1 (((up H 0 ((H 0).set xm (l0 ++ [(k : Int)]))) 1).set xm (l1 ++ [(k : Int)]))) 2).set xm (l2 ++ [(k : Int)]))), (up (up (up vs 0 ((vs 0).set xm (.slice (some ⟨gg0, 0, none⟩) (l0.length + 1) cap0))) 1 (((up vs 0 ((vs 0).set xm (.slice (some ⟨gg0, 0, none⟩) (l0.length + 1) cap0))) 1).set xm (.slice (some ⟨gg1, 0, none⟩) (l1.length + 1) cap1))) 2 (((up (up vs 0 ((vs 0).set xm (.slice (some ⟨gg0, 0, none⟩) (l0.length + 1) cap0))) 1 (((up vs 0 ((vs 0).set xm (.slice (some ⟨gg0, 0, none⟩) (l0.length + 1) cap0))) 1).set xm (.slice (some ⟨gg1, 0, none⟩) (l1.length + 1) cap1))) 2).set xm (.slice (some ⟨gg2, 0, none⟩) (l2.length + 1) cap2))), by omega, by go_num, HU0, HU1, HU2, HN2a, HBq⟩
                    case measure => simp [intOf]; omega
                  · skip
                    go_simp
                    refine hKK.out _ _ ⟨cell_on hHeld.1 (below_new _ _), cell_on hHeld.2 (below_new _ _)⟩ (fun hHeld3 => ?_)
                    clear hKK KK hHeld
                    try simp only [List.getElem_toArray, List.getElem_cons_zero, List.getElem_cons_succ, Act.put, List.setIfInBounds_toArray, List.set_cons_zero, List.set_cons_succ]
                    refine wpAnyH_ready (rs := [13]) (by kernel_rfl) (by simp) ?_
                    refine AllReadyH.cons rfl (fun KK hKK => ?_) AllReadyH.nil
                    go_simp
                    refine hKK.out _ _ hHeld3 (fun hHeld2 => ?_)
                    clear hKK KK hHeld3
                    try simp only [List.getElem_toArray, List.getElem_cons_zero, List.getElem_cons_succ, Act.put, List.setIfInBounds_toArray, List.set_cons_zero, List.set_cons_succ]
                    refine wpAnyH_ready (rs := [16]) (by kernel_rfl) (by simp) ?_
                    refine AllReadyH.cons rfl (fun KK hKK => ?_) AllReadyH.nil
                    refine step_append_lies _ (by rfl) _ _ _ (by rfl) W.heap.size 3 iI _ 1 8 Tryz.underlying26 hiI zI0 zI1 zI2 rfl (by decide) (.slice la2 l2.length lc2) l2.length (ints l2) (by rfl) HOM2.out ⟨wd2.heap.size, 0, none⟩ 1 1 [.int .i64 k] (by rfl) rfl HNA2.out (by simp [Value.oneCell']) (by decide) (by unfold maxLen; omega) (by omega) (by rw [HSA2.out]; omega) (wd2.heap.size + 1) HSA2.out ?_
                    intro gg2 cap2 v2 hown2 hgw hat2 hlt2
                    have hgrow2 : (wd2.alloc (.cells #[.int .i64 k] 3)).drew.grownBy v2 (Value.ownBlock (.slice la2 l2.length lc2)) := ⟨hgw.os, hgw.tape, hgw.output, hgw.size, hgw.block⟩
                    have f5 := (HNd2.out.h3.fx 2 (by omega)).keep (grown_old2 hgrow2 (HNd2.out.h3.fx 2 (by omega)).lt HNE2.out)
                    have q1 : v2.cell? ⟨s2, xm, none⟩ = some (.slice la2 l2.length lc2) := f5.get HVM2.out
                    have q2 : v2.frozen? ⟨s2, xm, none⟩ = false := f5.frz xm
                    have q3 := (HQd2.out.keep (grown_old2 hgrow2 HQd2.out.lt HNQ2.out)).get (i := 1) rfl
                    have q4 := (HNd2.out.bx.keep (grown_old2 hgrow2 HNd2.out.bx.lt HNB2.out)).get (i := 7) rfl
                    refine hKK.out _ _ ⟨q4, q3⟩ (fun hHeld4 => ?_)
                    have HN2a : Hid (Nk W.heap.size kb ⟨fa, fc, some ⟨gr, go, none⟩, rc, ba, bc, fb, s0, s1, s2⟩ T n (.slice ma n mc) R (up (up (up H 0 ((H 0).set xm (l0 ++ [(k : Int)]))) 1 (((up H 0 ((H 0).set xm (l0 ++ [(k : Int)]))) 1).set xm (l1 ++ [(k : Int)]))) 2 (((up (up H 0 ((H 0).set xm (l0 ++ [(k : Int)]))) 1 (((up H 0 ((H 0).set xm (l0 ++ [(k : Int)]))) 1).set xm (l1 ++ [(k : Int)]))) 2).set xm (l2 ++ [(k : Int)]))) (up (up (up vs 0 ((vs 0).set xm (.slice (some ⟨gg0, 0, none⟩) (l0.length + 1) cap0))) 1 (((up vs 0 ((vs 0).set xm (.slice (some ⟨gg0, 0, none⟩) (l0.length + 1) cap0))) 1).set xm (.slice (some ⟨gg1, 0, none⟩) (l1.length + 1) cap1))) 2 (((up (up vs 0 ((vs 0).set xm (.slice (some ⟨gg0, 0, none⟩) (l0.length + 1) cap0))) 1 (((up vs 0 ((vs 0).set xm (.slice (some ⟨gg0, 0, none⟩) (l0.length + 1) cap0))) 1).set xm (.slice (some ⟨gg1, 0, none⟩) (l1.length + 1) cap1))) 2).set xm (.slice (some ⟨gg2, 0, none⟩) (l2.length + 1) cap2))) (v2.setCell ⟨s2, xm, none⟩ (.slice (some ⟨gg2, 0, none⟩) (l2.length + 1) cap2))) := hide (HNd2.out.add (c := 2) (by omega) HM2.out HVM2.out hown2 (fun k hk hn => grown_old2 hgrow2 hk hn) (by rcases hat2 with h | h; exact .inl h; exact .inr (by omega)))
                    have HQ : Hid (Fx q 63 _ (v2.setCell ⟨s2, xm, none⟩ (.slice (some ⟨gg2, 0, none⟩) (l2.length + 1) cap2))) := hide ((HQd2.out.keep (grown_old2 hgrow2 HQd2.out.lt HNQ2.out)).keep (other_set (fx_ne HQd2.out (HNd2.out.h3.fx 2 (by omega)) (by decide))))
                    have HBq := hide (HBd2.out.trans ((grown_low hgrow2 HHI2.out hbs2).setCell (p := ⟨s2, xm, none⟩) (HNd2.out.h3.lo 2 (by omega)) (.slice (some ⟨gg2, 0, none⟩) (l2.length + 1) cap2)))
                    have q5 := HN2a.out.bx.get (i := 7) rfl
                    have q6 := HQ.out.get (i := 1) rfl
                    clear hKK KK f5 q3 q4 hown2 hgrow2 hgw hat2 hlt2 hHeld2
                    try simp only [List.getElem_toArray, List.getElem_cons_zero, List.getElem_cons_succ, Act.put, List.setIfInBounds_toArray, List.set_cons_zero, List.set_cons_succ]
                    refine wpAnyH_take (i := 17) (v := ?_) rfl (by kernel_rfl) (by kernel_rfl) (by kernel_rfl) (fun _ _ _ h => h) (Or.inl ⟨by rfl, ?_⟩) (by assumption) ?_
                    rotate_left
                    · (intro w hSw; (try dsimp only at hSw); first | (go_simp; done) | (go_simp; with_reducible rfl))
                    try simp only [List.getElem_toArray, List.getElem_cons_zero, List.getElem_cons_succ, Act.put, List.setIfInBounds_toArray, List.set_cons_zero, List.set_cons_succ]
                    refine wpAnyH_ready (rs := [18]) (by kernel_rfl) (by simp) ?_
                    refine AllReadyH.cons rfl (fun KK hKK => ?_) AllReadyH.nil
                    go_simp
                    refine hKK.out _ _ ⟨q5, q6⟩ (fun hHeld5 => ?_)
                    clear hKK KK hHeld4 hHeld5 q1 q2 q5 q6 cm2 cmA2 HNd2 HQd2 HBd2 HOM2 HSA2 HNA2 HNE2 HNQ2 HNB2 HHI2 HM2 HVM2 HA2
                    try simp only [List.getElem_toArray, List.getElem_cons_zero, List.getElem_cons_succ, Act.put, List.setIfInBounds_toArray, List.set_cons_zero, List.set_cons_succ]
                    generalize v2.setCell ⟨s2, xm, none⟩ (.slice (some ⟨gg2, 0, none⟩) (l2.length + 1) cap2) = x2 at *
                    refine wpAnyH_done (by kernel_rfl) ?_ _
                    go_wp2_with fail
                    go_roundw
                    case rel => exact ⟨k + 1, (up (up (up H 0 ((H 0).set xm (l0 ++ [(k : Int)]))) 1 (((up H 0 ((H 0).set xm (l0 ++ [(k : Int)]))) 1).set xm (l1 ++ [(k : Int)]))) 2 (((up (up H 0 ((H 0).set xm (l0 ++ [(k : Int)]))) 1 (((up H 0 ((H 0).set xm (l0 ++ [(k : Int)]))) 1).set xm (l1 ++ [(k : Int)]))) 2).set xm (l2 ++ [(k : Int)]))), (up (up (up vs 0 ((vs 0).set xm (.slice (some ⟨gg0, 0, none⟩) (l0.length + 1) cap0))) 1 (((up vs 0 ((vs 0).set xm (.slice (some ⟨gg0, 0, none⟩) (l0.length + 1) cap0))) 1).set xm (.slice (some ⟨gg1, 0, none⟩) (l1.length + 1) cap1))) 2 (((up (up vs 0 ((vs 0).set xm (.slice (some ⟨gg0, 0, none⟩) (l0.length + 1) cap0))) 1 (((up vs 0 ((vs 0).set xm (.slice (some ⟨gg0, 0, none⟩) (l0.length + 1) cap0))) 1).set xm (.slice (some ⟨gg1, 0, none⟩) (l1.length + 1) cap1))) 2).set xm (.slice (some ⟨gg2, 0, none⟩) (l2.length + 1) cap2))), by omega, by go_num, HU0, HU1, HU2, HN2a, HBq⟩
                    case measure => simp [intOf]; omega
              · skip
                go_simp
                refine hKK.out _ _ ⟨cell_on hHeld.1 (below_new _ _), cell_on hHeld.2 (below_new _ _)⟩ (fun hHeld3 => ?_)
                clear hKK KK hHeld
                try simp only [List.getElem_toArray, List.getElem_cons_zero, List.getElem_cons_succ, Act.put, List.setIfInBounds_toArray, List.set_cons_zero, List.set_cons_succ]
                refine wpAnyH_ready (rs := [13]) (by kernel_rfl) (by simp) ?_
                refine AllReadyH.cons rfl (fun KK hKK => ?_) AllReadyH.nil
                go_simp
                refine hKK.out _ _ hHeld3 (fun hHeld2 => ?_)
                clear hKK KK hHeld3
                try simp only [List.getElem_toArray, List.getElem_cons_zero, List.getElem_cons_succ, Act.put, List.setIfInBounds_toArray, List.set_cons_zero, List.set_cons_succ]
                refine wpAnyH_ready (rs := [16]) (by kernel_rfl) (by simp) ?_
                refine AllReadyH.cons rfl (fun KK hKK => ?_) AllReadyH.nil
                refine step_append_lies _ (by rfl) _ _ _ (by rfl) W.heap.size 3 iI _ 1 8 Tryz.underlying26 hiI zI0 zI1 zI2 rfl (by decide) (.slice la0 l0.length lc0) l0.length (ints l0) (by rfl) HOM0.out ⟨wd0.heap.size, 0, none⟩ 1 1 [.int .i64 k] (by rfl) rfl HNA0.out (by simp [Value.oneCell']) (by decide) (by unfold maxLen; omega) (by omega) (by rw [HSA0.out]; omega) (wd0.heap.size + 1) HSA0.out ?_
                intro gg0 cap0 v0 hown0 hgw hat0 hlt0
                have hgrow0 : (wd0.alloc (.cells #[.int .i64 k] 3)).drew.grownBy v0 (Value.ownBlock (.slice la0 l0.length lc0)) := ⟨hgw.os, hgw.tape, hgw.output, hgw.size, hgw.block⟩
                have f5 := (HNd0.out.h3.fx 0 (by omega)).keep (grown_old2 hgrow0 (HNd0.out.h3.fx 0 (by omega)).lt HNE0.out)
                have q1 : v0.cell? ⟨s0, xm, none⟩ = some (.slice la0 l0.length lc0) := f5.get HVM0.out
                have q2 : v0.frozen? ⟨s0, xm, none⟩ = false := f5.frz xm
                have q3 := (HQd0.out.keep (grown_old2 hgrow0 HQd0.out.lt HNQ0.out)).get (i := 1) rfl
                have q4 := (HNd0.out.bx.keep (grown_old2 hgrow0 HNd0.out.bx.lt HNB0.out)).get (i := 5) rfl
                refine hKK.out _ _ ⟨q4, q3⟩ (fun hHeld4 => ?_)
                have HN0a : Hid (Nk W.heap.size kb ⟨fa, fc, some ⟨gr, go, none⟩, rc, ba, bc, fb, s0, s1, s2⟩ T n (.slice ma n mc) R (up H 0 ((H 0).set xm (l0 ++ [(k : Int)]))) (up vs 0 ((vs 0).set xm (.slice (some ⟨gg0, 0, none⟩) (l0.length + 1) cap0))) (v0.setCell ⟨s0, xm, none⟩ (.slice (some ⟨gg0, 0, none⟩) (l0.length + 1) cap0))) := hide (HNd0.out.add (c := 0) (by omega) HM0.out HVM0.out hown0 (fun k hk hn => grown_old2 hgrow0 hk hn) (by rcases hat0 with h | h; exact .inl h; exact .inr (by omega)))
                have HQ : Hid (Fx q 63 _ (v0.setCell ⟨s0, xm, none⟩ (.slice (some ⟨gg0, 0, none⟩) (l0.length + 1) cap0))) := hide ((HQd0.out.keep (grown_old2 hgrow0 HQd0.out.lt HNQ0.out)).keep (other_set (fx_ne HQd0.out (HNd0.out.h3.fx 0 (by omega)) (by decide))))
                have HBq := hide (HBd0.out.trans ((grown_low hgrow0 HHI0.out hbs0).setCell (p := ⟨s0, xm, none⟩) (HNd0.out.h3.lo 0 (by omega)) (.slice (some ⟨gg0, 0, none⟩) (l0.length + 1) cap0)))
                have q5 := HN0a.out.bx.get (i := 5) rfl
                have q6 := HQ.out.get (i := 1) rfl
                clear hKK KK f5 q3 q4 hown0 hgrow0 hgw hat0 hlt0 hHeld2
                try simp only [List.getElem_toArray, List.getElem_cons_zero, List.getElem_cons_succ, Act.put, List.setIfInBounds_toArray, List.set_cons_zero, List.set_cons_succ]
                refine wpAnyH_take (i := 17) (v := ?_) rfl (by kernel_rfl) (by kernel_rfl) (by kernel_rfl) (fun _ _ _ h => h) (Or.inl ⟨by rfl, ?_⟩) (by assumption) ?_
                rotate_left
                · (intro w hSw; (try dsimp only at hSw); first | (go_simp; done) | (go_simp; with_reducible rfl))
                try simp only [List.getElem_toArray, List.getElem_cons_zero, List.getElem_cons_succ, Act.put, List.setIfInBounds_toArray, List.set_cons_zero, List.set_cons_succ]
                refine wpAnyH_ready (rs := [18]) (by kernel_rfl) (by simp) ?_
                refine AllReadyH.cons rfl (fun KK hKK => ?_) AllReadyH.nil
                go_simp
                refine hKK.out _ _ ⟨q5, q6⟩ (fun hHeld5 => ?_)
                clear hKK KK hHeld4 hHeld5 q1 q2 q5 q6 cm0 cmA0 HNd0 HQd0 HBd0 HOM0 HSA0 HNA0 HNE0 HNQ0 HNB0 HHI0 HM0 HVM0 HA0
                try simp only [List.getElem_toArray, List.getElem_cons_zero, List.getElem_cons_succ, Act.put, List.setIfInBounds_toArray, List.set_cons_zero, List.set_cons_succ]
                generalize v0.setCell ⟨s0, xm, none⟩ (.slice (some ⟨gg0, 0, none⟩) (l0.length + 1) cap0) = x0 at *
                refine wpAnyH_done (by kernel_rfl) ?_ _
                have z0 := HQ.out.get (i := 0) rfl
                have hd1 := (Below.refl x0.heap.size x0).drew
                have HNd1 := hide (HN0a.out.go hd1)
                have HQd1 := hide (HQ.out.keep (hd1.block _ HQ.out.lt))
                have HBd1 := hide (HBq.out.trans (hd1.mono HBq.out.size))
                have kc1 := HN0a.out.bx.get (i := 6) rfl
                have y1 := HQ.out.get (i := 1) rfl
                go_upto_region 13 with fail
                refine wp_region_held_drew (S := fun X : World => X.cell? ⟨kb, 6, none⟩ = some (.slice (some ⟨s1, 0, none⟩) n n) ∧ X.cell? ⟨q, 1, none⟩ = some (.int .i64 xm)) (by kernel_rfl) ⟨kc1, y1⟩ (fun hHeld => ?_)
                clear HN0a HQ HBq kc1 y1 hd1 z0
                generalize x0.drew = wd1 at *
                obtain ⟨l1, la1, lc1, hm1, hv1, cm1, om1⟩ := HNd1.out.h3.at (c := 1) (by omega) hxn
                have HG1b : Hid (Grp T kT n k ((up H 0 ((H 0).set xm (l0 ++ [(k : Int)]))) 1)) := HG1
                have hml1 := HG1b.out.row_le hm1
                have HU1 : Hid (Grp T kT n (k + 1) (((up H 0 ((H 0).set xm (l0 ++ [(k : Int)]))) 1).set xm (l1 ++ [(k : Int)]))) := hide (by
                  have := HG1b.out.add HRr.out HP1.out HHM.out hxn
                  rw [List.getD_eq_getElem?_getD, hm1] at this
                  exact this)
                have hA1 := below_new wd1 (.cells #[.int .i64 k] 3)
                have hbs1 : W.heap.size ≤ wd1.heap.size := HBd1.out.size
                have HOM1 := hide (owns_keep om1 fun g hg => hA1.block g (owns_lt om1 hg))
                have cmA1 := cell_on cm1 hA1
                have HA1 := hide hA1
                have HSA1 : Hid ((wd1.alloc (.cells #[.int .i64 k] 3)).heap.size = wd1.heap.size + 1) := hide (by simp)
                have HNA1 : Hid (∀ j u, [Value.int .i64 k][j]? = some u → (wd1.alloc (.cells #[.int .i64 k] 3)).cell? ((⟨wd1.heap.size, 0, none⟩ : Addr).add j) = some u) := hide (World.news_of_block (cs := [Value.int .i64 k].toArray) (t := 3) (fr := (0, 0)) (heap_alloc_new wd1 (.cells #[.int .i64 k] 3)))
                have HNE1 := hide (own_fx om1 (HNd1.out.h3.fx 1 (by omega)) (by decide))
                have HNQ1 := hide (own_fx om1 HQd1.out (by decide))
                have HNB1 := hide (own_fx om1 HNd1.out.bx (by decide))
                have HHI1 : Hid (∀ g, Value.ownBlock (.slice la1 l1.length lc1) = some g → W.heap.size ≤ g) := hide fun g e => (om1.lt g e).1
                have HM1 := hide hm1
                have HVM1 := hide hv1
                have e1 : sbA ⟨fa, fc, some ⟨gr, go, none⟩, rc, ba, bc, fb, s0, s1, s2⟩ 1 = s1 := rfl
                rw [e1] at cm1 cmA1
                clear hA1 hm1 hv1 om1 e1
                refine wpAnyH_take (i := 0) (v := ?_) rfl (by kernel_rfl) (by kernel_rfl) (by kernel_rfl) (fun _ _ _ h => h) (Or.inl ⟨by rfl, ?_⟩) (by assumption) ?_
                rotate_left
                · (intro w hSw; (try dsimp only at hSw); first | (go_simp; done) | (go_simp; with_reducible rfl))
                try simp only [List.getElem_toArray, List.getElem_cons_zero, Act.put, List.setIfInBounds_toArray, List.set_cons_zero, List.set_cons_succ]
                refine wpAnyH_take (i := 1) (v := ?_) rfl (by kernel_rfl) (by kernel_rfl) (by kernel_rfl) (fun _ _ _ h => h) (Or.inl ⟨by rfl, ?_⟩) (by assumption) ?_
                rotate_left
                · (intro w hSw; (try dsimp only at hSw); first | (go_simp; done) | (go_simp; with_reducible rfl))
                try simp only [List.getElem_toArray, List.getElem_cons_zero, List.getElem_cons_succ, Act.put, List.setIfInBounds_toArray, List.set_cons_zero, List.set_cons_succ]
                refine wpAnyH_take (i := 2) (v := ?_) rfl (by kernel_rfl) (by kernel_rfl) (by kernel_rfl) (fun _ _ _ h => h) (Or.inl ⟨by rfl, ?_⟩) (by assumption) ?_
                rotate_left
                · (intro w hSw; (try dsimp only at hSw); first | (go_simp; done) | (go_simp; with_reducible rfl))
                try simp only [List.getElem_toArray, List.getElem_cons_zero, List.getElem_cons_succ, Act.put, List.setIfInBounds_toArray, List.set_cons_zero, List.set_cons_succ]
                refine wpAnyH_take (i := 3) (v := ?_) rfl (by kernel_rfl) (by kernel_rfl) (by kernel_rfl) (fun _ _ _ h => h) (Or.inl ⟨by rfl, ?_⟩) (by assumption) ?_
                rotate_left
                · (intro w hSw; (try dsimp only at hSw); first | (go_simp; done) | (go_simp; with_reducible rfl))
                try simp only [List.getElem_toArray, List.getElem_cons_zero, List.getElem_cons_succ, Act.put, List.setIfInBounds_toArray, List.set_cons_zero, List.set_cons_succ]
                refine wpAnyH_take (i := 4) (v := ?_) rfl (by kernel_rfl) (by kernel_rfl) (by kernel_rfl) (fun _ _ _ h => h) (Or.inl ⟨by rfl, ?_⟩) (by assumption) ?_
                rotate_left
                · (intro w hSw; (try dsimp only at hSw); first | (go_simp; done) | (go_simp; with_reducible rfl))
                try simp only [List.getElem_toArray, List.getElem_cons_zero, List.getElem_cons_succ, Act.put, List.setIfInBounds_toArray, List.set_cons_zero, List.set_cons_succ]
                refine wpAnyH_take (i := 5) (v := ?_) rfl (by kernel_rfl) (by kernel_rfl) (by kernel_rfl) (fun _ _ _ h => h) (Or.inl ⟨by rfl, ?_⟩) (by assumption) ?_
                rotate_left
                · (intro w hSw; (try dsimp only at hSw); first | (go_simp; done) | (go_simp; with_reducible rfl))
                try simp only [List.getElem_toArray, List.getElem_cons_zero, List.getElem_cons_succ, Act.put, List.setIfInBounds_toArray, List.set_cons_zero, List.set_cons_succ]
                refine wpAnyH_take (i := 6) (v := ?_) rfl (by kernel_rfl) (by kernel_rfl) (by kernel_rfl) (fun _ _ _ h => h) (Or.inl ⟨by rfl, ?_⟩) (by assumption) ?_
                rotate_left
                · (intro w hSw; (try dsimp only at hSw); first | (go_simp; done) | (go_simp; with_reducible rfl))
                try simp only [List.getElem_toArray, List.getElem_cons_zero, List.getElem_cons_succ, Act.put, List.setIfInBounds_toArray, List.set_cons_zero, List.set_cons_succ]
                refine wpAnyH_take (i := 7) (v := ?_) rfl (by kernel_rfl) (by kernel_rfl) (by kernel_rfl) (fun _ _ _ h => h) (Or.inl ⟨by rfl, ?_⟩) (by assumption) ?_
                rotate_left
                · (intro w hSw; (try dsimp only at hSw); first | (go_simp; done) | (go_simp; with_reducible rfl))
                try simp only [List.getElem_toArray, List.getElem_cons_zero, List.getElem_cons_succ, Act.put, List.setIfInBounds_toArray, List.set_cons_zero, List.set_cons_succ]
                refine wpAnyH_take (i := 8) (v := ?_) rfl (by kernel_rfl) (by kernel_rfl) (by kernel_rfl) (fun _ _ _ h => h) (Or.inl ⟨by rfl, ?_⟩) (by assumption) ?_
                rotate_left
                · (intro w hSw; (try dsimp only at hSw); first | (go_simp; done) | (go_simp; with_reducible rfl))
                try simp only [List.getElem_toArray, List.getElem_cons_zero, List.getElem_cons_succ, Act.put, List.setIfInBounds_toArray, List.set_cons_zero, List.set_cons_succ]
                refine wpAnyH_take (i := 9) (v := ?_) rfl (by kernel_rfl) (by kernel_rfl) (by kernel_rfl) (fun _ _ _ h => h) (Or.inl ⟨by rfl, ?_⟩) (by assumption) ?_
                rotate_left
                · (intro w hSw; (try dsimp only at hSw); first | (go_simp; done) | (go_simp; with_reducible rfl))
                try simp only [List.getElem_toArray, List.getElem_cons_zero, List.getElem_cons_succ, Act.put, List.setIfInBounds_toArray, List.set_cons_zero, List.set_cons_succ]
                refine wpAnyH_take (i := 10) (v := ?_) rfl (by kernel_rfl) (by kernel_rfl) (by kernel_rfl) (fun _ _ _ h => h) (Or.inl ⟨by rfl, ?_⟩) (by assumption) ?_
                rotate_left
                · (intro w hSw; (try dsimp only at hSw); first | (go_simp; done) | (go_simp; with_reducible rfl))
                try simp only [List.getElem_toArray, List.getElem_cons_zero, List.getElem_cons_succ, Act.put, List.setIfInBounds_toArray, List.set_cons_zero, List.set_cons_succ]
                refine wpAnyH_take (i := 11) (v := ?_) rfl (by kernel_rfl) (by kernel_rfl) (by kernel_rfl) (fun _ _ _ h => h) (Or.inl ⟨by rfl, ?_⟩) (by assumption) ?_
                rotate_left
                · (intro w hSw; (try dsimp only at hSw); first | (go_simp; done) | (go_simp; with_reducible rfl))
                try simp only [List.getElem_toArray, List.getElem_cons_zero, List.getElem_cons_succ, Act.put, List.setIfInBounds_toArray, List.set_cons_zero, List.set_cons_succ]
                refine wpAnyH_take (i := 12) (v := ?_) rfl (by kernel_rfl) (by kernel_rfl) (by kernel_rfl) (fun _ _ _ h => h) (Or.inl ⟨by rfl, ?_⟩) (by assumption) ?_
                rotate_left
                · (intro w hSw; (try dsimp only at hSw); first | (go_simp; done) | (go_simp; with_reducible rfl))
                try simp only [List.getElem_toArray, List.getElem_cons_zero, List.getElem_cons_succ, Act.put, List.setIfInBounds_toArray, List.set_cons_zero, List.set_cons_succ]
                refine wpAnyH_take (i := 14) (v := ?_) rfl (by kernel_rfl) (by kernel_rfl) (by kernel_rfl) (fun _ _ _ h => h) (Or.inl ⟨by rfl, ?_⟩) (by assumption) ?_
                rotate_left
                · (intro w hSw; (try dsimp only at hSw); first | (go_simp; done) | (go_simp; with_reducible rfl))
                try simp only [List.getElem_toArray, List.getElem_cons_zero, List.getElem_cons_succ, Act.put, List.setIfInBounds_toArray, List.set_cons_zero, List.set_cons_succ]
                refine wpAnyH_ready (rs := [13, 15]) (by kernel_rfl) (by simp) ?_
                refine AllReadyH.cons rfl (fun KK hKK => ?_) (AllReadyH.cons rfl (fun KK hKK => ?_) AllReadyH.nil)
                · skip
                  go_simp
                  refine hKK.out _ _ hHeld (fun hHeld2 => ?_)
                  clear hKK KK hHeld
                  try simp only [List.getElem_toArray, List.getElem_cons_zero, List.getElem_cons_succ, Act.put, List.setIfInBounds_toArray, List.set_cons_zero, List.set_cons_succ]
                  refine wpAnyH_ready (rs := [15]) (by kernel_rfl) (by simp) ?_
                  refine AllReadyH.cons rfl (fun KK hKK => ?_) AllReadyH.nil
                  go_simp
                  refine hKK.out _ _ ⟨cell_on hHeld2.1 (below_new _ _), cell_on hHeld2.2 (below_new _ _)⟩ (fun hHeld3 => ?_)
                  clear hKK KK hHeld2
                  try simp only [List.getElem_toArray, List.getElem_cons_zero, List.getElem_cons_succ, Act.put, List.setIfInBounds_toArray, List.set_cons_zero, List.set_cons_succ]
                  refine wpAnyH_ready (rs := [16]) (by kernel_rfl) (by simp) ?_
                  refine AllReadyH.cons rfl (fun KK hKK => ?_) AllReadyH.nil
                  refine step_append_lies _ (by rfl) _ _ _ (by rfl) W.heap.size 3 iI _ 1 8 Tryz.underlying26 hiI zI0 zI1 zI2 rfl (by decide) (.slice la1 l1.length lc1) l1.length (ints l1) (by rfl) HOM1.out ⟨wd1.heap.size, 0, none⟩ 1 1 [.int .i64 k] (by rfl) rfl HNA1.out (by simp [Value.oneCell']) (by decide) (by unfold maxLen; omega) (by omega) (by rw [HSA1.out]; omega) (wd1.heap.size + 1) HSA1.out ?_
                  intro gg1 cap1 v1 hown1 hgw hat1 hlt1
                  have hgrow1 : (wd1.alloc (.cells #[.int .i64 k] 3)).drew.grownBy v1 (Value.ownBlock (.slice la1 l1.length lc1)) := ⟨hgw.os, hgw.tape, hgw.output, hgw.size, hgw.block⟩
                  have f5 := (HNd1.out.h3.fx 1 (by omega)).keep (grown_old2 hgrow1 (HNd1.out.h3.fx 1 (by omega)).lt HNE1.out)
                  have q1 : v1.cell? ⟨s1, xm, none⟩ = some (.slice la1 l1.length lc1) := f5.get HVM1.out
                  have q2 : v1.frozen? ⟨s1, xm, none⟩ = false := f5.frz xm
                  have q3 := (HQd1.out.keep (grown_old2 hgrow1 HQd1.out.lt HNQ1.out)).get (i := 1) rfl
                  have q4 := (HNd1.out.bx.keep (grown_old2 hgrow1 HNd1.out.bx.lt HNB1.out)).get (i := 6) rfl
                  refine hKK.out _ _ ⟨q4, q3⟩ (fun hHeld4 => ?_)
                  have HN1a : Hid (Nk W.heap.size kb ⟨fa, fc, some ⟨gr, go, none⟩, rc, ba, bc, fb, s0, s1, s2⟩ T n (.slice ma n mc) R (up (up H 0 ((H 0).set xm (l0 ++ [(k : Int)]))) 1 (((up H 0 ((H 0).set xm (l0 ++ [(k : Int)]))) 1).set xm (l1 ++ [(k : Int)]))) (up (up vs 0 ((vs 0).set xm (.slice (some ⟨gg0, 0, none⟩) (l0.length + 1) cap0))) 1 (((up vs 0 ((vs 0).set xm (.slice (some ⟨gg0, 0, none⟩) (l0.length + 1) cap0))) 1).set xm (.slice (some ⟨gg1, 0, none⟩) (l1.length + 1) cap1))) (v1.setCell ⟨s1, xm, none⟩ (.slice (some ⟨gg1, 0, none⟩) (l1.length + 1) cap1))) := hide (HNd1.out.add (c := 1) (by omega) HM1.out HVM1.out hown1 (fun k hk hn => grown_old2 hgrow1 hk hn) (by rcases hat1 with h | h; exact .inl h; exact .inr (by omega)))
                  have HQ : Hid (Fx q 63 _ (v1.setCell ⟨s1, xm, none⟩ (.slice (some ⟨gg1, 0, none⟩) (l1.length + 1) cap1))) := hide ((HQd1.out.keep (grown_old2 hgrow1 HQd1.out.lt HNQ1.out)).keep (other_set (fx_ne HQd1.out (HNd1.out.h3.fx 1 (by omega)) (by decide))))
                  have HBq := hide (HBd1.out.trans ((grown_low hgrow1 HHI1.out hbs1).setCell (p := ⟨s1, xm, none⟩) (HNd1.out.h3.lo 1 (by omega)) (.slice (some ⟨gg1, 0, none⟩) (l1.length + 1) cap1)))
                  have q5 := HN1a.out.bx.get (i := 6) rfl
                  have q6 := HQ.out.get (i := 1) rfl
                  clear hKK KK f5 q3 q4 hown1 hgrow1 hgw hat1 hlt1 hHeld3
                  try simp only [List.getElem_toArray, List.getElem_cons_zero, List.getElem_cons_succ, Act.put, List.setIfInBounds_toArray, List.set_cons_zero, List.set_cons_succ]
                  refine wpAnyH_take (i := 17) (v := ?_) rfl (by kernel_rfl) (by kernel_rfl) (by kernel_rfl) (fun _ _ _ h => h) (Or.inl ⟨by rfl, ?_⟩) (by assumption) ?_
                  rotate_left
                  · (intro w hSw; (try dsimp only at hSw); first | (go_simp; done) | (go_simp; with_reducible rfl))
                  try simp only [List.getElem_toArray, List.getElem_cons_zero, List.getElem_cons_succ, Act.put, List.setIfInBounds_toArray, List.set_cons_zero, List.set_cons_succ]
                  refine wpAnyH_ready (rs := [18]) (by kernel_rfl) (by simp) ?_
                  refine AllReadyH.cons rfl (fun KK hKK => ?_) AllReadyH.nil
                  go_simp
                  refine hKK.out _ _ ⟨q5, q6⟩ (fun hHeld5 => ?_)
                  clear hKK KK hHeld4 hHeld5 q1 q2 q5 q6 cm1 cmA1 HNd1 HQd1 HBd1 HOM1 HSA1 HNA1 HNE1 HNQ1 HNB1 HHI1 HM1 HVM1 HA1
                  try simp only [List.getElem_toArray, List.getElem_cons_zero, List.getElem_cons_succ, Act.put, List.setIfInBounds_toArray, List.set_cons_zero, List.set_cons_succ]
                  generalize v1.setCell ⟨s1, xm, none⟩ (.slice (some ⟨gg1, 0, none⟩) (l1.length + 1) cap1) = x1 at *
                  refine wpAnyH_done (by kernel_rfl) ?_ _
                  have z0 := HQ.out.get (i := 0) rfl
                  have hd2 := (Below.refl x1.heap.size x1).drew
                  have HNd2 := hide (HN1a.out.go hd2)
                  have HQd2 := hide (HQ.out.keep (hd2.block _ HQ.out.lt))
                  have HBd2 := hide (HBq.out.trans (hd2.mono HBq.out.size))
                  have kc2 := HN1a.out.bx.get (i := 7) rfl
                  have y2 := HQ.out.get (i := 1) rfl
                  go_upto_region 14 with fail
                  refine wp_region_held_drew (S := fun X : World => X.cell? ⟨kb, 7, none⟩ = some (.slice (some ⟨s2, 0, none⟩) n n) ∧ X.cell? ⟨q, 1, none⟩ = some (.int .i64 xm)) (by kernel_rfl) ⟨kc2, y2⟩ (fun hHeld => ?_)
                  clear HN1a HQ HBq kc2 y2 hd2 z0
                  generalize x1.drew = wd2 at *
                  obtain ⟨l2, la2, lc2, hm2, hv2, cm2, om2⟩ := HNd2.out.h3.at (c := 2) (by omega) hxn
                  have HG2b : Hid (Grp T kA n k ((up (up H 0 ((H 0).set xm (l0 ++ [(k : Int)]))) 1 (((up H 0 ((H 0).set xm (l0 ++ [(k : Int)]))) 1).set xm (l1 ++ [(k : Int)]))) 2)) := HG2
                  have hml2 := HG2b.out.row_le hm2
                  have HU2 : Hid (Grp T kA n (k + 1) (((up (up H 0 ((H 0).set xm (l0 ++ [(k : Int)]))) 1 (((up H 0 ((H 0).set xm (l0 ++ [(k : Int)]))) 1).set xm (l1 ++ [(k : Int)]))) 2).set xm (l2 ++ [(k : Int)]))) := hide (by
                    have := HG2b.out.add HRr.out HP2.out HHM.out hxn
                    rw [List.getD_eq_getElem?_getD, hm2] at this
                    exact this)
                  have hA2 := below_new wd2 (.cells #[.int .i64 k] 3)
                  have hbs2 : W.heap.size ≤ wd2.heap.size := HBd2.out.size
                  have HOM2 := hide (owns_keep om2 fun g hg => hA2.block g (owns_lt om2 hg))
                  have cmA2 := cell_on cm2 hA2
                  have HA2 := hide hA2
                  have HSA2 : Hid ((wd2.alloc (.cells #[.int .i64 k] 3)).heap.size = wd2.heap.size + 1) := hide (by simp)
                  have HNA2 : Hid (∀ j u, [Value.int .i64 k][j]? = some u → (wd2.alloc (.cells #[.int .i64 k] 3)).cell? ((⟨wd2.heap.size, 0, none⟩ : Addr).add j) = some u) := hide (World.news_of_block (cs := [Value.int .i64 k].toArray) (t := 3) (fr := (0, 0)) (heap_alloc_new wd2 (.cells #[.int .i64 k] 3)))
                  have HNE2 := hide (own_fx om2 (HNd2.out.h3.fx 2 (by omega)) (by decide))
                  have HNQ2 := hide (own_fx om2 HQd2.out (by decide))
                  have HNB2 := hide (own_fx om2 HNd2.out.bx (by decide))
                  have HHI2 : Hid (∀ g, Value.ownBlock (.slice la2 l2.length lc2) = some g → W.heap.size ≤ g) := hide fun g e => (om2.lt g e).1
                  have HM2 := hide hm2
                  have HVM2 := hide hv2
                  have e2 : sbA ⟨fa, fc, some ⟨gr, go, none⟩, rc, ba, bc, fb, s0, s1, s2⟩ 2 = s2 := rfl
                  rw [e2] at cm2 cmA2
                  clear hA2 hm2 hv2 om2 e2
                  refine wpAnyH_take (i := 0) (v := ?_) rfl (by kernel_rfl) (by kernel_rfl) (by kernel_rfl) (fun _ _ _ h => h) (Or.inl ⟨by rfl, ?_⟩) (by assumption) ?_
                  rotate_left
                  · (intro w hSw; (try dsimp only at hSw); first | (go_simp; done) | (go_simp; with_reducible rfl))
                  try simp only [List.getElem_toArray, List.getElem_cons_zero, Act.put, List.setIfInBounds_toArray, List.set_cons_zero, List.set_cons_succ]
                  refine wpAnyH_take (i := 1) (v := ?_) rfl (by kernel_rfl) (by kernel_rfl) (by kernel_rfl) (fun _ _ _ h => h) (Or.inl ⟨by rfl, ?_⟩) (by assumption) ?_
                  rotate_left
                  · (intro w hSw; (try dsimp only at hSw); first | (go_simp; done) | (go_simp; with_reducible rfl))
                  try simp only [List.getElem_toArray, List.getElem_cons_zero, List.getElem_cons_succ, Act.put, List.setIfInBounds_toArray, List.set_cons_zero, List.set_cons_succ]
                  refine wpAnyH_take (i := 2) (v := ?_) rfl (by kernel_rfl) (by kernel_rfl) (by kernel_rfl) (fun _ _ _ h => h) (Or.inl ⟨by rfl, ?_⟩) (by assumption) ?_
                  rotate_left
                  · (intro w hSw; (try dsimp only at hSw); first | (go_simp; done) | (go_simp; with_reducible rfl))
                  try simp only [List.getElem_toArray, List.getElem_cons_zero, List.getElem_cons_succ, Act.put, List.setIfInBounds_toArray, List.set_cons_zero, List.set_cons_succ]
                  refine wpAnyH_take (i := 3) (v := ?_) rfl (by kernel_rfl) (by kernel_rfl) (by kernel_rfl) (fun _ _ _ h => h) (Or.inl ⟨by rfl, ?_⟩) (by assumption) ?_
                  rotate_left
                  · (intro w hSw; (try dsimp only at hSw); first | (go_simp; done) | (go_simp; with_reducible rfl))
                  try simp only [List.getElem_toArray, List.getElem_cons_zero, List.getElem_cons_succ, Act.put, List.setIfInBounds_toArray, List.set_cons_zero, List.set_cons_succ]
                  refine wpAnyH_take (i := 4) (v := ?_) rfl (by kernel_rfl) (by kernel_rfl) (by kernel_rfl) (fun _ _ _ h => h) (Or.inl ⟨by rfl, ?_⟩) (by assumption) ?_
                  rotate_left
                  · (intro w hSw; (try dsimp only at hSw); first | (go_simp; done) | (go_simp; with_reducible rfl))
                  try simp only [List.getElem_toArray, List.getElem_cons_zero, List.getElem_cons_succ, Act.put, List.setIfInBounds_toArray, List.set_cons_zero, List.set_cons_succ]
                  refine wpAnyH_take (i := 5) (v := ?_) rfl (by kernel_rfl) (by kernel_rfl) (by kernel_rfl) (fun _ _ _ h => h) (Or.inl ⟨by rfl, ?_⟩) (by assumption) ?_
                  rotate_left
                  · (intro w hSw; (try dsimp only at hSw); first | (go_simp; done) | (go_simp; with_reducible rfl))
                  try simp only [List.getElem_toArray, List.getElem_cons_zero, List.getElem_cons_succ, Act.put, List.setIfInBounds_toArray, List.set_cons_zero, List.set_cons_succ]
                  refine wpAnyH_take (i := 6) (v := ?_) rfl (by kernel_rfl) (by kernel_rfl) (by kernel_rfl) (fun _ _ _ h => h) (Or.inl ⟨by rfl, ?_⟩) (by assumption) ?_
                  rotate_left
                  · (intro w hSw; (try dsimp only at hSw); first | (go_simp; done) | (go_simp; with_reducible rfl))
                  try simp only [List.getElem_toArray, List.getElem_cons_zero, List.getElem_cons_succ, Act.put, List.setIfInBounds_toArray, List.set_cons_zero, List.set_cons_succ]
                  refine wpAnyH_take (i := 7) (v := ?_) rfl (by kernel_rfl) (by kernel_rfl) (by kernel_rfl) (fun _ _ _ h => h) (Or.inl ⟨by rfl, ?_⟩) (by assumption) ?_
                  rotate_left
                  · (intro w hSw; (try dsimp only at hSw); first | (go_simp; done) | (go_simp; with_reducible rfl))
                  try simp only [List.getElem_toArray, List.getElem_cons_zero, List.getElem_cons_succ, Act.put, List.setIfInBounds_toArray, List.set_cons_zero, List.set_cons_succ]
                  refine wpAnyH_take (i := 8) (v := ?_) rfl (by kernel_rfl) (by kernel_rfl) (by kernel_rfl) (fun _ _ _ h => h) (Or.inl ⟨by rfl, ?_⟩) (by assumption) ?_
                  rotate_left
                  · (intro w hSw; (try dsimp only at hSw); first | (go_simp; done) | (go_simp; with_reducible rfl))
                  try simp only [List.getElem_toArray, List.getElem_cons_zero, List.getElem_cons_succ, Act.put, List.setIfInBounds_toArray, List.set_cons_zero, List.set_cons_succ]
                  refine wpAnyH_take (i := 9) (v := ?_) rfl (by kernel_rfl) (by kernel_rfl) (by kernel_rfl) (fun _ _ _ h => h) (Or.inl ⟨by rfl, ?_⟩) (by assumption) ?_
                  rotate_left
                  · (intro w hSw; (try dsimp only at hSw); first | (go_simp; done) | (go_simp; with_reducible rfl))
                  try simp only [List.getElem_toArray, List.getElem_cons_zero, List.getElem_cons_succ, Act.put, List.setIfInBounds_toArray, List.set_cons_zero, List.set_cons_succ]
                  refine wpAnyH_take (i := 10) (v := ?_) rfl (by kernel_rfl) (by kernel_rfl) (by kernel_rfl) (fun _ _ _ h => h) (Or.inl ⟨by rfl, ?_⟩) (by assumption) ?_
                  rotate_left
                  · (intro w hSw; (try dsimp only at hSw); first | (go_simp; done) | (go_simp; with_reducible rfl))
                  try simp only [List.getElem_toArray, List.getElem_cons_zero, List.getElem_cons_succ, Act.put, List.setIfInBounds_toArray, List.set_cons_zero, List.set_cons_succ]
                  refine wpAnyH_take (i := 11) (v := ?_) rfl (by kernel_rfl) (by kernel_rfl) (by kernel_rfl) (fun _ _ _ h => h) (Or.inl ⟨by rfl, ?_⟩) (by assumption) ?_
                  rotate_left
                  · (intro w hSw; (try dsimp only at hSw); first | (go_simp; done) | (go_simp; with_reducible rfl))
                  try simp only [List.getElem_toArray, List.getElem_cons_zero, List.getElem_cons_succ, Act.put, List.setIfInBounds_toArray, List.set_cons_zero, List.set_cons_succ]
                  refine wpAnyH_take (i := 12) (v := ?_) rfl (by kernel_rfl) (by kernel_rfl) (by kernel_rfl) (fun _ _ _ h => h) (Or.inl ⟨by rfl, ?_⟩) (by assumption) ?_
                  rotate_left
                  · (intro w hSw; (try dsimp only at hSw); first | (go_simp; done) | (go_simp; with_reducible rfl))
                  try simp only [List.getElem_toArray, List.getElem_cons_zero, List.getElem_cons_succ, Act.put, List.setIfInBounds_toArray, List.set_cons_zero, List.set_cons_succ]
                  refine wpAnyH_take (i := 14) (v := ?_) rfl (by kernel_rfl) (by kernel_rfl) (by kernel_rfl) (fun _ _ _ h => h) (Or.inl ⟨by rfl, ?_⟩) (by assumption) ?_
                  rotate_left
                  · (intro w hSw; (try dsimp only at hSw); first | (go_simp; done) | (go_simp; with_reducible rfl))
                  try simp only [List.getElem_toArray, List.getElem_cons_zero, List.getElem_cons_succ, Act.put, List.setIfInBounds_toArray, List.set_cons_zero, List.set_cons_succ]
                  refine wpAnyH_ready (rs := [13, 15]) (by kernel_rfl) (by simp) ?_
                  refine AllReadyH.cons rfl (fun KK hKK => ?_) (AllReadyH.cons rfl (fun KK hKK => ?_) AllReadyH.nil)
                  · skip
                    go_simp
                    refine hKK.out _ _ hHeld (fun hHeld2 => ?_)
                    clear hKK KK hHeld
                    try simp only [List.getElem_toArray, List.getElem_cons_zero, List.getElem_cons_succ, Act.put, List.setIfInBounds_toArray, List.set_cons_zero, List.set_cons_succ]
                    refine wpAnyH_ready (rs := [15]) (by kernel_rfl) (by simp) ?_
                    refine AllReadyH.cons rfl (fun KK hKK => ?_) AllReadyH.nil
                    go_simp
                    refine hKK.out _ _ ⟨cell_on hHeld2.1 (below_new _ _), cell_on hHeld2.2 (below_new _ _)⟩ (fun hHeld3 => ?_)
                    clear hKK KK hHeld2
                    try simp only [List.getElem_toArray, List.getElem_cons_zero, List.getElem_cons_succ, Act.put, List.setIfInBounds_toArray, List.set_cons_zero, List.set_cons_succ]
                    refine wpAnyH_ready (rs := [16]) (by kernel_rfl) (by simp) ?_
                    refine AllReadyH.cons rfl (fun KK hKK => ?_) AllReadyH.nil
                    refine step_append_lies _ (by rfl) _ _ _ (by rfl) W.heap.size 3 iI _ 1 8 Tryz.underlying26 hiI zI0 zI1 zI2 rfl (by decide) (.slice la2 l2.length lc2) l2.length (ints l2) (by rfl) HOM2.out ⟨wd2.heap.size, 0, none⟩ 1 1 [.int .i64 k] (by rfl) rfl HNA2.out (by simp [Value.oneCell']) (by decide) (by unfold maxLen; omega) (by omega) (by rw [HSA2.out]; omega) (wd2.heap.size + 1) HSA2.out ?_
                    intro gg2 cap2 v2 hown2 hgw hat2 hlt2
                    have hgrow2 : (wd2.alloc (.cells #[.int .i64 k] 3)).drew.grownBy v2 (Value.ownBlock (.slice la2 l2.length lc2)) := ⟨hgw.os, hgw.tape, hgw.output, hgw.size, hgw.block⟩
                    have f5 := (HNd2.out.h3.fx 2 (by omega)).keep (grown_old2 hgrow2 (HNd2.out.h3.fx 2 (by omega)).lt HNE2.out)
                    have q1 : v2.cell? ⟨s2, xm, none⟩ = some (.slice la2 l2.length lc2) := f5.get HVM2.out
                    have q2 : v2.frozen? ⟨s2, xm, none⟩ = false := f5.frz xm
                    have q3 := (HQd2.out.keep (grown_old2 hgrow2 HQd2.out.lt HNQ2.out)).get (i := 1) rfl
                    have q4 := (HNd2.out.bx.keep (grown_old2 hgrow2 HNd2.out.bx.lt HNB2.out)).get (i := 7) rfl
                    refine hKK.out _ _ ⟨q4, q3⟩ (fun hHeld4 => ?_)
                    have HN2a : Hid (Nk W.heap.size kb ⟨fa, fc, some ⟨gr, go, none⟩, rc, ba, bc, fb, s0, s1, s2⟩ T n (.slice ma n mc) R (up (up (up H 0 ((H 0).set xm (l0 ++ [(k : Int)]))) 1 (((up H 0 ((H 0).set xm (l0 ++ [(k : Int)]))) 1).set xm (l1 ++ [(k : Int)]))) 2 (((up (up H 0 ((H 0).set xm (l0 ++ [(k : Int)]))) 1 (((up H 0 ((H 0).set xm (l0 ++ [(k : Int)]))) 1).set xm (l1 ++ [(k : Int)]))) 2).set xm (l2 ++ [(k : Int)]))) (up (up (up vs 0 ((vs 0).set xm (.slice (some ⟨gg0, 0, none⟩) (l0.length + 1) cap0))) 1 (((up vs 0 ((vs 0).set xm (.slice (some ⟨gg0, 0, none⟩) (l0.length + 1) cap0))) 1).set xm (.slice (some ⟨gg1, 0, none⟩) (l1.length + 1) cap1))) 2 (((up (up vs 0 ((vs 0).set xm (.slice (some ⟨gg0, 0, none⟩) (l0.length + 1) cap0))) 1 (((up vs 0 ((vs 0).set xm (.slice (some ⟨gg0, 0, none⟩) (l0.length + 1) cap0))) 1).set xm (.slice (some ⟨gg1, 0, none⟩) (l1.length + 1) cap1))) 2).set xm (.slice (some ⟨gg2, 0, none⟩) (l2.length + 1) cap2))) (v2.setCell ⟨s2, xm, none⟩ (.slice (some ⟨gg2, 0, none⟩) (l2.length + 1) cap2))) := hide (HNd2.out.add (c := 2) (by omega) HM2.out HVM2.out hown2 (fun k hk hn => grown_old2 hgrow2 hk hn) (by rcases hat2 with h | h; exact .inl h; exact .inr (by omega)))
                    have HQ : Hid (Fx q 63 _ (v2.setCell ⟨s2, xm, none⟩ (.slice (some ⟨gg2, 0, none⟩) (l2.length + 1) cap2))) := hide ((HQd2.out.keep (grown_old2 hgrow2 HQd2.out.lt HNQ2.out)).keep (other_set (fx_ne HQd2.out (HNd2.out.h3.fx 2 (by omega)) (by decide))))
                    have HBq := hide (HBd2.out.trans ((grown_low hgrow2 HHI2.out hbs2).setCell (p := ⟨s2, xm, none⟩) (HNd2.out.h3.lo 2 (by omega)) (.slice (some ⟨gg2, 0, none⟩) (l2.length + 1) cap2)))
                    have q5 := HN2a.out.bx.get (i := 7) rfl
                    have q6 := HQ.out.get (i := 1) rfl
                    clear hKK KK f5 q3 q4 hown2 hgrow2 hgw hat2 hlt2 hHeld3
                    try simp only [List.getElem_toArray, List.getElem_cons_zero, List.getElem_cons_succ, Act.put, List.setIfInBounds_toArray, List.set_cons_zero, List.set_cons_succ]
                    refine wpAnyH_take (i := 17) (v := ?_) rfl (by kernel_rfl) (by kernel_rfl) (by kernel_rfl) (fun _ _ _ h => h) (Or.inl ⟨by rfl, ?_⟩) (by assumption) ?_
                    rotate_left
                    · (intro w hSw; (try dsimp only at hSw); first | (go_simp; done) | (go_simp; with_reducible rfl))
                    try simp only [List.getElem_toArray, List.getElem_cons_zero, List.getElem_cons_succ, Act.put, List.setIfInBounds_toArray, List.set_cons_zero, List.set_cons_succ]
                    refine wpAnyH_ready (rs := [18]) (by kernel_rfl) (by simp) ?_
                    refine AllReadyH.cons rfl (fun KK hKK => ?_) AllReadyH.nil
                    go_simp
                    refine hKK.out _ _ ⟨q5, q6⟩ (fun hHeld5 => ?_)
                    clear hKK KK hHeld4 hHeld5 q1 q2 q5 q6 cm2 cmA2 HNd2 HQd2 HBd2 HOM2 HSA2 HNA2 HNE2 HNQ2 HNB2 HHI2 HM2 HVM2 HA2
                    try simp only [List.getElem_toArray, List.getElem_cons_zero, List.getElem_cons_succ, Act.put, List.setIfInBounds_toArray, List.set_cons_zero, List.set_cons_succ]
                    generalize v2.setCell ⟨s2, xm, none⟩ (.slice (some ⟨gg2, 0, none⟩) (l2.length + 1) cap2) = x2 at *
                    refine wpAnyH_done (by kernel_rfl) ?_ _
                    go_wp2_with fail
                    go_roundw
                    case rel => exact ⟨k + 1, (up (up (up H 0 ((H 0).set xm (l0 ++ [(k : Int)]))) 1 (((up H 0 ((H 0).set xm (l0 ++ [(k : Int)]))) 1).set xm (l1 ++ [(k : Int)]))) 2 (((up (up H 0 ((H 0).set xm (l0 ++ [(k : Int)]))) 1 (((up H 0 ((H 0).set xm (l0 ++ [(k : Int)]))) 1).set xm (l1 ++ [(k : Int)]))) 2).set xm (l2 ++ [(k : Int)]))), (up (up (up vs 0 ((vs 0).set xm (.slice (some ⟨gg0, 0, none⟩) (l0.length + 1) cap0))) 1 (((up vs 0 ((vs 0).set xm (.slice (some ⟨gg0, 0, none⟩) (l0.length + 1) cap0))) 1).set xm (.slice (some ⟨gg1, 0, none⟩) (l1.length + 1) cap1))) 2 (((up (up vs 0 ((vs 0).set xm (.slice (some ⟨gg0, 0, none⟩) (l0.length + 1) cap0))) 1 (((up vs 0 ((vs 0).set xm (.slice (some ⟨gg0, 0, none⟩) (l0.length + 1) cap0))) 1).set xm (.slice (some ⟨gg1, 0, none⟩) (l1.length + 1) cap1))) 2).set xm (.slice (some ⟨gg2, 0, none⟩) (l2.length + 1) cap2))), by omega, by go_num, HU0, HU1, HU2, HN2a, HBq⟩
                    case measure => simp [intOf]; omega
                  · skip
                    go_simp
                    refine hKK.out _ _ ⟨cell_on hHeld.1 (below_new _ _), cell_on hHeld.2 (below_new _ _)⟩ (fun hHeld3 => ?_)
                    clear hKK KK hHeld
                    try simp only [List.getElem_toArray, List.getElem_cons_zero, List.getElem_cons_succ, Act.put, List.setIfInBounds_toArray, List.set_cons_zero, List.set_cons_succ]
                    refine wpAnyH_ready (rs := [13]) (by kernel_rfl) (by simp) ?_
                    refine AllReadyH.cons rfl (fun KK hKK => ?_) AllReadyH.nil
                    go_simp
                    refine hKK.out _ _ hHeld3 (fun hHeld2 => ?_)
                    clear hKK KK hHeld3
                    try simp only [List.getElem_toArray, List.getElem_cons_zero, List.getElem_cons_succ, Act.put, List.setIfInBounds_toArray, List.set_cons_zero, List.set_cons_succ]
                    refine wpAnyH_ready (rs := [16]) (by kernel_rfl) (by simp) ?_
                    refine AllReadyH.cons rfl (fun KK hKK => ?_) AllReadyH.nil
                    refine step_append_lies _ (by rfl) _ _ _ (by rfl) W.heap.size 3 iI _ 1 8 Tryz.underlying26 hiI zI0 zI1 zI2 rfl (by decide) (.slice la2 l2.length lc2) l2.length (ints l2) (by rfl) HOM2.out ⟨wd2.heap.size, 0, none⟩ 1 1 [.int .i64 k] (by rfl) rfl HNA2.out (by simp [Value.oneCell']) (by decide) (by unfold maxLen; omega) (by omega) (by rw [HSA2.out]; omega) (wd2.heap.size + 1) HSA2.out ?_
                    intro gg2 cap2 v2 hown2 hgw hat2 hlt2
                    have hgrow2 : (wd2.alloc (.cells #[.int .i64 k] 3)).drew.grownBy v2 (Value.ownBlock (.slice la2 l2.length lc2)) := ⟨hgw.os, hgw.tape, hgw.output, hgw.size, hgw.block⟩
                    have f5 := (HNd2.out.h3.fx 2 (by omega)).keep (grown_old2 hgrow2 (HNd2.out.h3.fx 2 (by omega)).lt HNE2.out)
                    have q1 : v2.cell? ⟨s2, xm, none⟩ = some (.slice la2 l2.length lc2) := f5.get HVM2.out
                    have q2 : v2.frozen? ⟨s2, xm, none⟩ = false := f5.frz xm
                    have q3 := (HQd2.out.keep (grown_old2 hgrow2 HQd2.out.lt HNQ2.out)).get (i := 1) rfl
                    have q4 := (HNd2.out.bx.keep (grown_old2 hgrow2 HNd2.out.bx.lt HNB2.out)).get (i := 7) rfl
                    refine hKK.out _ _ ⟨q4, q3⟩ (fun hHeld4 => ?_)
                    have HN2a : Hid (Nk W.heap.size kb ⟨fa, fc, some ⟨gr, go, none⟩, rc, ba, bc, fb, s0, s1, s2⟩ T n (.slice ma n mc) R (up (up (up H 0 ((H 0).set xm (l0 ++ [(k : Int)]))) 1 (((up H 0 ((H 0).set xm (l0 ++ [(k : Int)]))) 1).set xm (l1 ++ [(k : Int)]))) 2 (((up (up H 0 ((H 0).set xm (l0 ++ [(k : Int)]))) 1 (((up H 0 ((H 0).set xm (l0 ++ [(k : Int)]))) 1).set xm (l1 ++ [(k : Int)]))) 2).set xm (l2 ++ [(k : Int)]))) (up (up (up vs 0 ((vs 0).set xm (.slice (some ⟨gg0, 0, none⟩) (l0.length + 1) cap0))) 1 (((up vs 0 ((vs 0).set xm (.slice (some ⟨gg0, 0, none⟩) (l0.length + 1) cap0))) 1).set xm (.slice (some ⟨gg1, 0, none⟩) (l1.length + 1) cap1))) 2 (((up (up vs 0 ((vs 0).set xm (.slice (some ⟨gg0, 0, none⟩) (l0.length + 1) cap0))) 1 (((up vs 0 ((vs 0).set xm (.slice (some ⟨gg0, 0, none⟩) (l0.length + 1) cap0))) 1).set xm (.slice (some ⟨gg1, 0, none⟩) (l1.length + 1) cap1))) 2).set xm (.slice (some ⟨gg2, 0, none⟩) (l2.length + 1) cap2))) (v2.setCell ⟨s2, xm, none⟩ (.slice (some ⟨gg2, 0, none⟩) (l2.length + 1) cap2))) := hide (HNd2.out.add (c := 2) (by omega) HM2.out HVM2.out hown2 (fun k hk hn => grown_old2 hgrow2 hk hn) (by rcases hat2 with h | h; exact .inl h; exact .inr (by omega)))
                    have HQ : Hid (Fx q 63 _ (v2.setCell ⟨s2, xm, none⟩ (.slice (some ⟨gg2, 0, none⟩) (l2.length + 1) cap2))) := hide ((HQd2.out.keep (grown_old2 hgrow2 HQd2.out.lt HNQ2.out)).keep (other_set (fx_ne HQd2.out (HNd2.out.h3.fx 2 (by omega)) (by decide))))
                    have HBq := hide (HBd2.out.trans ((grown_low hgrow2 HHI2.out hbs2).setCell (p := ⟨s2, xm, none⟩) (HNd2.out.h3.lo 2 (by omega)) (.slice (some ⟨gg2, 0, none⟩) (l2.length + 1) cap2)))
                    have q5 := HN2a.out.bx.get (i := 7) rfl
                    have q6 := HQ.out.get (i := 1) rfl
                    clear hKK KK f5 q3 q4 hown2 hgrow2 hgw hat2 hlt2 hHeld2
                    try simp only [List.getElem_toArray, List.getElem_cons_zero, List.getElem_cons_succ, Act.put, List.setIfInBounds_toArray, List.set_cons_zero, List.set_cons_succ]
                    refine wpAnyH_take (i := 17) (v := ?_) rfl (by kernel_rfl) (by kernel_rfl) (by kernel_rfl) (fun _ _ _ h => h) (Or.inl ⟨by rfl, ?_⟩) (by assumption) ?_
                    rotate_left
                    · (intro w hSw; (try dsimp only at hSw); first | (go_simp; done) | (go_simp; with_reducible rfl))
                    try simp only [List.getElem_toArray, List.getElem_cons_zero, List.getElem_cons_succ, Act.put, List.setIfInBounds_toArray, List.set_cons_zero, List.set_cons_succ]
                    refine wpAnyH_ready (rs := [18]) (by kernel_rfl) (by simp) ?_
                    refine AllReadyH.cons rfl (fun KK hKK => ?_) AllReadyH.nil
                    go_simp
                    refine hKK.out _ _ ⟨q5, q6⟩ (fun hHeld5 => ?_)
                    clear hKK KK hHeld4 hHeld5 q1 q2 q5 q6 cm2 cmA2 HNd2 HQd2 HBd2 HOM2 HSA2 HNA2 HNE2 HNQ2 HNB2 HHI2 HM2 HVM2 HA2
                    try simp only [List.getElem_toArray, List.getElem_cons_zero, List.getElem_cons_succ, Act.put, List.setIfInBounds_toArray, List.set_cons_zero, List.set_cons_succ]
                    generalize v2.setCell ⟨s2, xm, none⟩ (.slice (some ⟨gg2, 0, none⟩) (l2.length + 1) cap2) = x2 at *
                    refine wpAnyH_done (by kernel_rfl) ?_ _
                    go_wp2_with fail
                    go_roundw
                    case rel => exact ⟨k + 1, (up (up (up H 0 ((H 0).set xm (l0 ++ [(k : Int)]))) 1 (((up H 0 ((H 0).set xm (l0 ++ [(k : Int)]))) 1).set xm (l1 ++ [(k : Int)]))) 2 (((up (up H 0 ((H 0).set xm (l0 ++ [(k : Int)]))) 1 (((up H 0 ((H 0).set xm (l0 ++ [(k : Int)]))) 1).set xm (l1 ++ [(k : Int)]))) 2).set xm (l2 ++ [(k : Int)]))), (up (up (up vs 0 ((vs 0).set xm (.slice (some ⟨gg0, 0, none⟩) (l0.length + 1) cap0))) 1 (((up vs 0 ((vs 0).set xm (.slice (some ⟨gg0, 0, none⟩) (l0.length + 1) cap0))) 1).set xm (.slice (some ⟨gg1, 0, none⟩) (l1.length + 1) cap1))) 2 (((up (up vs 0 ((vs 0).set xm (.slice (some ⟨gg0, 0, none⟩) (l0.length + 1) cap0))) 1 (((up vs 0 ((vs 0).set xm (.slice (some ⟨gg0, 0, none⟩) (l0.length + 1) cap0))) 1).set xm (.slice (some ⟨gg1, 0, none⟩) (l1.length + 1) cap1))) 2).set xm (.slice (some ⟨gg2, 0, none⟩) (l2.length + 1) cap2))), by omega, by go_num, HU0, HU1, HU2, HN2a, HBq⟩
                    case measure => simp [intOf]; omega
                · skip
                  go_simp
                  refine hKK.out _ _ ⟨cell_on hHeld.1 (below_new _ _), cell_on hHeld.2 (below_new _ _)⟩ (fun hHeld3 => ?_)
                  clear hKK KK hHeld
                  try simp only [List.getElem_toArray, List.getElem_cons_zero, List.getElem_cons_succ, Act.put, List.setIfInBounds_toArray, List.set_cons_zero, List.set_cons_succ]
                  refine wpAnyH_ready (rs := [13]) (by kernel_rfl) (by simp) ?_
                  refine AllReadyH.cons rfl (fun KK hKK => ?_) AllReadyH.nil
                  go_simp
                  refine hKK.out _ _ hHeld3 (fun hHeld2 => ?_)
                  clear hKK KK hHeld3
                  try simp only [List.getElem_toArray, List.getElem_cons_zero, List.getElem_cons_succ, Act.put, List.setIfInBounds_toArray, List.set_cons_zero, List.set_cons_succ]
                  refine wpAnyH_ready (rs := [16]) (by kernel_rfl) (by simp) ?_
                  refine AllReadyH.cons rfl (fun KK hKK => ?_) AllReadyH.nil
                  refine step_append_lies _ (by rfl) _ _ _ (by rfl) W.heap.size 3 iI _ 1 8 Tryz.underlying26 hiI zI0 zI1 zI2 rfl (by decide) (.slice la1 l1.length lc1) l1.length (ints l1) (by rfl) HOM1.out ⟨wd1.heap.size, 0, none⟩ 1 1 [.int .i64 k] (by rfl) rfl HNA1.out (by simp [Value.oneCell']) (by decide) (by unfold maxLen; omega) (by omega) (by rw [HSA1.out]; omega) (wd1.heap.size + 1) HSA1.out ?_
                  intro gg1 cap1 v1 hown1 hgw hat1 hlt1
                  have hgrow1 : (wd1.alloc (.cells #[.int .i64 k] 3)).drew.grownBy v1 (Value.ownBlock (.slice la1 l1.length lc1)) := ⟨hgw.os, hgw.tape, hgw.output, hgw.size, hgw.block⟩
                  have f5 := (HNd1.out.h3.fx 1 (by omega)).keep (grown_old2 hgrow1 (HNd1.out.h3.fx 1 (by omega)).lt HNE1.out)
                  have q1 : v1.cell? ⟨s1, xm, none⟩ = some (.slice la1 l1.length lc1) := f5.get HVM1.out
                  have q2 : v1.frozen? ⟨s1, xm, none⟩ = false := f5.frz xm
                  have q3 := (HQd1.out.keep (grown_old2 hgrow1 HQd1.out.lt HNQ1.out)).get (i := 1) rfl
                  have q4 := (HNd1.out.bx.keep (grown_old2 hgrow1 HNd1.out.bx.lt HNB1.out)).get (i := 6) rfl
                  refine hKK.out _ _ ⟨q4, q3⟩ (fun hHeld4 => ?_)
                  have HN1a : Hid (Nk W.heap.size kb ⟨fa, fc, some ⟨gr, go, none⟩, rc, ba, bc, fb, s0, s1, s2⟩ T n (.slice ma n mc) R (up (up H 0 ((H 0).set xm (l0 ++ [(k : Int)]))) 1 (((up H 0 ((H 0).set xm (l0 ++ [(k : Int)]))) 1).set xm (l1 ++ [(k : Int)]))) (up (up vs 0 ((vs 0).set xm (.slice (some ⟨gg0, 0, none⟩) (l0.length + 1) cap0))) 1 (((up vs 0 ((vs 0).set xm (.slice (some ⟨gg0, 0, none⟩) (l0.length + 1) cap0))) 1).set xm (.slice (some ⟨gg1, 0, none⟩) (l1.length + 1) cap1))) (v1.setCell ⟨s1, xm, none⟩ (.slice (some ⟨gg1, 0, none⟩) (l1.length + 1) cap1))) := hide (HNd1.out.add (c := 1) (by omega) HM1.out HVM1.out hown1 (fun k hk hn => grown_old2 hgrow1 hk hn) (by rcases hat1 with h | h; exact .inl h; exact .inr (by omega)))
                  have HQ : Hid (Fx q 63 _ (v1.setCell ⟨s1, xm, none⟩ (.slice (some ⟨gg1, 0, none⟩) (l1.length + 1) cap1))) := hide ((HQd1.out.keep (grown_old2 hgrow1 HQd1.out.lt HNQ1.out)).keep (other_set (fx_ne HQd1.out (HNd1.out.h3.fx 1 (by omega)) (by decide))))
                  have HBq := hide (HBd1.out.trans ((grown_low hgrow1 HHI1.out hbs1).setCell (p := ⟨s1, xm, none⟩) (HNd1.out.h3.lo 1 (by omega)) (.slice (some ⟨gg1, 0, none⟩) (l1.length + 1) cap1)))
                  have q5 := HN1a.out.bx.get (i := 6) rfl
                  have q6 := HQ.out.get (i := 1) rfl
                  clear hKK KK f5 q3 q4 hown1 hgrow1 hgw hat1 hlt1 hHeld2
                  try simp only [List.getElem_toArray, List.getElem_cons_zero, List.getElem_cons_succ, Act.put, List.setIfInBounds_toArray, List.set_cons_zero, List.set_cons_succ]
                  refine wpAnyH_take (i := 17) (v := ?_) rfl (by kernel_rfl) (by kernel_rfl) (by kernel_rfl) (fun _ _ _ h => h) (Or.inl ⟨by rfl, ?_⟩) (by assumption) ?_
                  rotate_left
                  · (intro w hSw; (try dsimp only at hSw); first | (go_simp; done) | (go_simp; with_reducible rfl))
                  try simp only [List.getElem_toArray, List.getElem_cons_zero, List.getElem_cons_succ, Act.put, List.setIfInBounds_toArray, List.set_cons_zero, List.set_cons_succ]
                  refine wpAnyH_ready (rs := [18]) (by kernel_rfl) (by simp) ?_
                  refine AllReadyH.cons rfl (fun KK hKK => ?_) AllReadyH.nil
                  go_simp
                  refine hKK.out _ _ ⟨q5, q6⟩ (fun hHeld5 => ?_)
                  clear hKK KK hHeld4 hHeld5 q1 q2 q5 q6 cm1 cmA1 HNd1 HQd1 HBd1 HOM1 HSA1 HNA1 HNE1 HNQ1 HNB1 HHI1 HM1 HVM1 HA1
                  try simp only [List.getElem_toArray, List.getElem_cons_zero, List.getElem_cons_succ, Act.put, List.setIfInBounds_toArray, List.set_cons_zero, List.set_cons_succ]
                  generalize v1.setCell ⟨s1, xm, none⟩ (.slice (some ⟨gg1, 0, none⟩) (l1.length + 1) cap1) = x1 at *
                  refine wpAnyH_done (by kernel_rfl) ?_ _
                  have z0 := HQ.out.get (i := 0) rfl
                  have hd2 := (Below.refl x1.heap.size x1).drew
                  have HNd2 := hide (HN1a.out.go hd2)
                  have HQd2 := hide (HQ.out.keep (hd2.block _ HQ.out.lt))
                  have HBd2 := hide (HBq.out.trans (hd2.mono HBq.out.size))
                  have kc2 := HN1a.out.bx.get (i := 7) rfl
                  have y2 := HQ.out.get (i := 1) rfl
                  go_upto_region 14 with fail
                  refine wp_region_held_drew (S := fun X : World => X.cell? ⟨kb, 7, none⟩ = some (.slice (some ⟨s2, 0, none⟩) n n) ∧ X.cell? ⟨q, 1, none⟩ = some (.int .i64 xm)) (by kernel_rfl) ⟨kc2, y2⟩ (fun hHeld => ?_)
                  clear HN1a HQ HBq kc2 y2 hd2 z0
                  generalize x1.drew = wd2 at *
                  obtain ⟨l2, la2, lc2, hm2, hv2, cm2, om2⟩ := HNd2.out.h3.at (c := 2) (by omega) hxn
                  have HG2b : Hid (Grp T kA n k ((up (up H 0 ((H 0).set xm (l0 ++ [(k : Int)]))) 1 (((up H 0 ((H 0).set xm (l0 ++ [(k : Int)]))) 1).set xm (l1 ++ [(k : Int)]))) 2)) := HG2
                  have hml2 := HG2b.out.row_le hm2
                  have HU2 : Hid (Grp T kA n (k + 1) (((up (up H 0 ((H 0).set xm (l0 ++ [(k : Int)]))) 1 (((up H 0 ((H 0).set xm (l0 ++ [(k : Int)]))) 1).set xm (l1 ++ [(k : Int)]))) 2).set xm (l2 ++ [(k : Int)]))) := hide (by
                    have := HG2b.out.add HRr.out HP2.out HHM.out hxn
                    rw [List.getD_eq_getElem?_getD, hm2] at this
                    exact this)
                  have hA2 := below_new wd2 (.cells #[.int .i64 k] 3)
                  have hbs2 : W.heap.size ≤ wd2.heap.size := HBd2.out.size
                  have HOM2 := hide (owns_keep om2 fun g hg => hA2.block g (owns_lt om2 hg))
                  have cmA2 := cell_on cm2 hA2
                  have HA2 := hide hA2
                  have HSA2 : Hid ((wd2.alloc (.cells #[.int .i64 k] 3)).heap.size = wd2.heap.size + 1) := hide (by simp)
                  have HNA2 : Hid (∀ j u, [Value.int .i64 k][j]? = some u → (wd2.alloc (.cells #[.int .i64 k] 3)).cell? ((⟨wd2.heap.size, 0, none⟩ : Addr).add j) = some u) := hide (World.news_of_block (cs := [Value.int .i64 k].toArray) (t := 3) (fr := (0, 0)) (heap_alloc_new wd2 (.cells #[.int .i64 k] 3)))
                  have HNE2 := hide (own_fx om2 (HNd2.out.h3.fx 2 (by omega)) (by decide))
                  have HNQ2 := hide (own_fx om2 HQd2.out (by decide))
                  have HNB2 := hide (own_fx om2 HNd2.out.bx (by decide))
                  have HHI2 : Hid (∀ g, Value.ownBlock (.slice la2 l2.length lc2) = some g → W.heap.size ≤ g) := hide fun g e => (om2.lt g e).1
                  have HM2 := hide hm2
                  have HVM2 := hide hv2
                  have e2 : sbA ⟨fa, fc, some ⟨gr, go, none⟩, rc, ba, bc, fb, s0, s1, s2⟩ 2 = s2 := rfl
                  rw [e2] at cm2 cmA2
                  clear hA2 hm2 hv2 om2 e2
                  refine wpAnyH_take (i := 0) (v := ?_) rfl (by kernel_rfl) (by kernel_rfl) (by kernel_rfl) (fun _ _ _ h => h) (Or.inl ⟨by rfl, ?_⟩) (by assumption) ?_
                  rotate_left
                  · (intro w hSw; (try dsimp only at hSw); first | (go_simp; done) | (go_simp; with_reducible rfl))
                  try simp only [List.getElem_toArray, List.getElem_cons_zero, Act.put, List.setIfInBounds_toArray, List.set_cons_zero, List.set_cons_succ]
                  refine wpAnyH_take (i := 1) (v := ?_) rfl (by kernel_rfl) (by kernel_rfl) (by kernel_rfl) (fun _ _ _ h => h) (Or.inl ⟨by rfl, ?_⟩) (by assumption) ?_
                  rotate_left
                  · (intro w hSw; (try dsimp only at hSw); first | (go_simp; done) | (go_simp; with_reducible rfl))
                  try simp only [List.getElem_toArray, List.getElem_cons_zero, List.getElem_cons_succ, Act.put, List.setIfInBounds_toArray, List.set_cons_zero, List.set_cons_succ]
                  refine wpAnyH_take (i := 2) (v := ?_) rfl (by kernel_rfl) (by kernel_rfl) (by kernel_rfl) (fun _ _ _ h => h) (Or.inl ⟨by rfl, ?_⟩) (by assumption) ?_
                  rotate_left
                  · (intro w hSw; (try dsimp only at hSw); first | (go_simp; done) | (go_simp; with_reducible rfl))
                  try simp only [List.getElem_toArray, List.getElem_cons_zero, List.getElem_cons_succ, Act.put, List.setIfInBounds_toArray, List.set_cons_zero, List.set_cons_succ]
                  refine wpAnyH_take (i := 3) (v := ?_) rfl (by kernel_rfl) (by kernel_rfl) (by kernel_rfl) (fun _ _ _ h => h) (Or.inl ⟨by rfl, ?_⟩) (by assumption) ?_
                  rotate_left
                  · (intro w hSw; (try dsimp only at hSw); first | (go_simp; done) | (go_simp; with_reducible rfl))
                  try simp only [List.getElem_toArray, List.getElem_cons_zero, List.getElem_cons_succ, Act.put, List.setIfInBounds_toArray, List.set_cons_zero, List.set_cons_succ]
                  refine wpAnyH_take (i := 4) (v := ?_) rfl (by kernel_rfl) (by kernel_rfl) (by kernel_rfl) (fun _ _ _ h => h) (Or.inl ⟨by rfl, ?_⟩) (by assumption) ?_
                  rotate_left
                  · (intro w hSw; (try dsimp only at hSw); first | (go_simp; done) | (go_simp; with_reducible rfl))
                  try simp only [List.getElem_toArray, List.getElem_cons_zero, List.getElem_cons_succ, Act.put, List.setIfInBounds_toArray, List.set_cons_zero, List.set_cons_succ]
                  refine wpAnyH_take (i := 5) (v := ?_) rfl (by kernel_rfl) (by kernel_rfl) (by kernel_rfl) (fun _ _ _ h => h) (Or.inl ⟨by rfl, ?_⟩) (by assumption) ?_
                  rotate_left
                  · (intro w hSw; (try dsimp only at hSw); first | (go_simp; done) | (go_simp; with_reducible rfl))
                  try simp only [List.getElem_toArray, List.getElem_cons_zero, List.getElem_cons_succ, Act.put, List.setIfInBounds_toArray, List.set_cons_zero, List.set_cons_succ]
                  refine wpAnyH_take (i := 6) (v := ?_) rfl (by kernel_rfl) (by kernel_rfl) (by kernel_rfl) (fun _ _ _ h => h) (Or.inl ⟨by rfl, ?_⟩) (by assumption) ?_
                  rotate_left
                  · (intro w hSw; (try dsimp only at hSw); first | (go_simp; done) | (go_simp; with_reducible rfl))
                  try simp only [List.getElem_toArray, List.getElem_cons_zero, List.getElem_cons_succ, Act.put, List.setIfInBounds_toArray, List.set_cons_zero, List.set_cons_succ]
                  refine wpAnyH_take (i := 7) (v := ?_) rfl (by kernel_rfl) (by kernel_rfl) (by kernel_rfl) (fun _ _ _ h => h) (Or.inl ⟨by rfl, ?_⟩) (by assumption) ?_
                  rotate_left
                  · (intro w hSw; (try dsimp only at hSw); first | (go_simp; done) | (go_simp; with_reducible rfl))
                  try simp only [List.getElem_toArray, List.getElem_cons_zero, List.getElem_cons_succ, Act.put, List.setIfInBounds_toArray, List.set_cons_zero, List.set_cons_succ]
                  refine wpAnyH_take (i := 8) (v := ?_) rfl (by kernel_rfl) (by kernel_rfl) (by kernel_rfl) (fun _ _ _ h => h) (Or.inl ⟨by rfl, ?_⟩) (by assumption) ?_
                  rotate_left
                  · (intro w hSw; (try dsimp only at hSw); first | (go_simp; done) | (go_simp; with_reducible rfl))
                  try simp only [List.getElem_toArray, List.getElem_cons_zero, List.getElem_cons_succ, Act.put, List.setIfInBounds_toArray, List.set_cons_zero, List.set_cons_succ]
                  refine wpAnyH_take (i := 9) (v := ?_) rfl (by kernel_rfl) (by kernel_rfl) (by kernel_rfl) (fun _ _ _ h => h) (Or.inl ⟨by rfl, ?_⟩) (by assumption) ?_
                  rotate_left
                  · (intro w hSw; (try dsimp only at hSw); first | (go_simp; done) | (go_simp; with_reducible rfl))
                  try simp only [List.getElem_toArray, List.getElem_cons_zero, List.getElem_cons_succ, Act.put, List.setIfInBounds_toArray, List.set_cons_zero, List.set_cons_succ]
                  refine wpAnyH_take (i := 10) (v := ?_) rfl (by kernel_rfl) (by kernel_rfl) (by kernel_rfl) (fun _ _ _ h => h) (Or.inl ⟨by rfl, ?_⟩) (by assumption) ?_
                  rotate_left
                  · (intro w hSw; (try dsimp only at hSw); first | (go_simp; done) | (go_simp; with_reducible rfl))
                  try simp only [List.getElem_toArray, List.getElem_cons_zero, List.getElem_cons_succ, Act.put, List.setIfInBounds_toArray, List.set_cons_zero, List.set_cons_succ]
                  refine wpAnyH_take (i := 11) (v := ?_) rfl (by kernel_rfl) (by kernel_rfl) (by kernel_rfl) (fun _ _ _ h => h) (Or.inl ⟨by rfl, ?_⟩) (by assumption) ?_
                  rotate_left
                  · (intro w hSw; (try dsimp only at hSw); first | (go_simp; done) | (go_simp; with_reducible rfl))
                  try simp only [List.getElem_toArray, List.getElem_cons_zero, List.getElem_cons_succ, Act.put, List.setIfInBounds_toArray, List.set_cons_zero, List.set_cons_succ]
                  refine wpAnyH_take (i := 12) (v := ?_) rfl (by kernel_rfl) (by kernel_rfl) (by kernel_rfl) (fun _ _ _ h => h) (Or.inl ⟨by rfl, ?_⟩) (by assumption) ?_
                  rotate_left
                  · (intro w hSw; (try dsimp only at hSw); first | (go_simp; done) | (go_simp; with_reducible rfl))
                  try simp only [List.getElem_toArray, List.getElem_cons_zero, List.getElem_cons_succ, Act.put, List.setIfInBounds_toArray, List.set_cons_zero, List.set_cons_succ]
                  refine wpAnyH_take (i := 14) (v := ?_) rfl (by kernel_rfl) (by kernel_rfl) (by kernel_rfl) (fun _ _ _ h => h) (Or.inl ⟨by rfl, ?_⟩) (by assumption) ?_
                  rotate_left
                  · (intro w hSw; (try dsimp only at hSw); first | (go_simp; done) | (go_simp; with_reducible rfl))
                  try simp only [List.getElem_toArray, List.getElem_cons_zero, List.getElem_cons_succ, Act.put, List.setIfInBounds_toArray, List.set_cons_zero, List.set_cons_succ]
                  refine wpAnyH_ready (rs := [13, 15]) (by kernel_rfl) (by simp) ?_
                  refine AllReadyH.cons rfl (fun KK hKK => ?_) (AllReadyH.cons rfl (fun KK hKK => ?_) AllReadyH.nil)
                  · skip
                    go_simp
                    refine hKK.out _ _ hHeld (fun hHeld2 => ?_)
                    clear hKK KK hHeld
                    try simp only [List.getElem_toArray, List.getElem_cons_zero, List.getElem_cons_succ, Act.put, List.setIfInBounds_toArray, List.set_cons_zero, List.set_cons_succ]
                    refine wpAnyH_ready (rs := [15]) (by kernel_rfl) (by simp) ?_
                    refine AllReadyH.cons rfl (fun KK hKK => ?_) AllReadyH.nil
                    go_simp
                    refine hKK.out _ _ ⟨cell_on hHeld2.1 (below_new _ _), cell_on hHeld2.2 (below_new _ _)⟩ (fun hHeld3 => ?_)
                    clear hKK KK hHeld2
                    try simp only [List.getElem_toArray, List.getElem_cons_zero, List.getElem_cons_succ, Act.put, List.setIfInBounds_toArray, List.set_cons_zero, List.set_cons_succ]
                    refine wpAnyH_ready (rs := [16]) (by kernel_rfl) (by simp) ?_
                    refine AllReadyH.cons rfl (fun KK hKK => ?_) AllReadyH.nil
                    refine step_append_lies _ (by rfl) _ _ _ (by rfl) W.heap.size 3 iI _ 1 8 Tryz.underlying26 hiI zI0 zI1 zI2 rfl (by decide) (.slice la2 l2.length lc2) l2.length (ints l2) (by rfl) HOM2.out ⟨wd2.heap.size, 0, none⟩ 1 1 [.int .i64 k] (by rfl) rfl HNA2.out (by simp [Value.oneCell']) (by decide) (by unfold maxLen; omega) (by omega) (by rw [HSA2.out]; omega) (wd2.heap.size + 1) HSA2.out ?_
                    intro gg2 cap2 v2 hown2 hgw hat2 hlt2
                    have hgrow2 : (wd2.alloc (.cells #[.int .i64 k] 3)).drew.grownBy v2 (Value.ownBlock (.slice la2 l2.length lc2)) := ⟨hgw.os, hgw.tape, hgw.output, hgw.size, hgw.block⟩
                    have f5 := (HNd2.out.h3.fx 2 (by omega)).keep (grown_old2 hgrow2 (HNd2.out.h3.fx 2 (by omega)).lt HNE2.out)
                    have q1 : v2.cell? ⟨s2, xm, none⟩ = some (.slice la2 l2.length lc2) := f5.get HVM2.out
                    have q2 : v2.frozen? ⟨s2, xm, none⟩ = false := f5.frz xm
                    have q3 := (HQd2.out.keep (grown_old2 hgrow2 HQd2.out.lt HNQ2.out)).get (i := 1) rfl
                    have q4 := (HNd2.out.bx.keep (grown_old2 hgrow2 HNd2.out.bx.lt HNB2.out)).get (i := 7) rfl
                    refine hKK.out _ _ ⟨q4, q3⟩ (fun hHeld4 => ?_)
                    have HN2a : Hid (Nk W.heap.size kb ⟨fa, fc, some ⟨gr, go, none⟩, rc, ba, bc, fb, s0, s1, s2⟩ T n (.slice ma n mc) R (up (up (up H 0 ((H 0).set xm (l0 ++ [(k : Int)]))) 1 (((up H 0 ((H 0).set xm (l0 ++ [(k : Int)]))) 1).set xm (l1 ++ [(k : Int)]))) 2 (((up (up H 0 ((H 0).set xm (l0 ++ [(k : Int)]))) 1 (((up H 0 ((H 0).set xm (l0 ++ [(k : Int)]))) 1).set xm (l1 ++ [(k : Int)]))) 2).set xm (l2 ++ [(k : Int)]))) (up (up (up vs 0 ((vs 0).set xm (.slice (some ⟨gg0, 0, none⟩) (l0.length + 1) cap0))) 1 (((up vs 0 ((vs 0).set xm (.slice (some ⟨gg0, 0, none⟩) (l0.length + 1) cap0))) 1).set xm (.slice (some ⟨gg1, 0, none⟩) (l1.length + 1) cap1))) 2 (((up (up vs 0 ((vs 0).set xm (.slice (some ⟨gg0, 0, none⟩) (l0.length + 1) cap0))) 1 (((up vs 0 ((vs 0).set xm (.slice (some ⟨gg0, 0, none⟩) (l0.length + 1) cap0))) 1).set xm (.slice (some ⟨gg1, 0, none⟩) (l1.length + 1) cap1))) 2).set xm (.slice (some ⟨gg2, 0, none⟩) (l2.length + 1) cap2))) (v2.setCell ⟨s2, xm, none⟩ (.slice (some ⟨gg2, 0, none⟩) (l2.length + 1) cap2))) := hide (HNd2.out.add (c := 2) (by omega) HM2.out HVM2.out hown2 (fun k hk hn => grown_old2 hgrow2 hk hn) (by rcases hat2 with h | h; exact .inl h; exact .inr (by omega)))
                    have HQ : Hid (Fx q 63 _ (v2.setCell ⟨s2, xm, none⟩ (.slice (some ⟨gg2, 0, none⟩) (l2.length + 1) cap2))) := hide ((HQd2.out.keep (grown_old2 hgrow2 HQd2.out.lt HNQ2.out)).keep (other_set (fx_ne HQd2.out (HNd2.out.h3.fx 2 (by omega)) (by decide))))
                    have HBq := hide (HBd2.out.trans ((grown_low hgrow2 HHI2.out hbs2).setCell (p := ⟨s2, xm, none⟩) (HNd2.out.h3.lo 2 (by omega)) (.slice (some ⟨gg2, 0, none⟩) (l2.length + 1) cap2)))
                    have q5 := HN2a.out.bx.get (i := 7) rfl
                    have q6 := HQ.out.get (i := 1) rfl
                    clear hKK KK f5 q3 q4 hown2 hgrow2 hgw hat2 hlt2 hHeld3
                    try simp only [List.getElem_toArray, List.getElem_cons_zero, List.getElem_cons_succ, Act.put, List.setIfInBounds_toArray, List.set_cons_zero, List.set_cons_succ]
                    refine wpAnyH_take (i := 17) (v := ?_) rfl (by kernel_rfl) (by kernel_rfl) (by kernel_rfl) (fun _ _ _ h => h) (Or.inl ⟨by rfl, ?_⟩) (by assumption) ?_
                    rotate_left
                    · (intro w hSw; (try dsimp only at hSw); first | (go_simp; done) | (go_simp; with_reducible rfl))
                    try simp only [List.getElem_toArray, List.getElem_cons_zero, List.getElem_cons_succ, Act.put, List.setIfInBounds_toArray, List.set_cons_zero, List.set_cons_succ]
                    refine wpAnyH_ready (rs := [18]) (by kernel_rfl) (by simp) ?_
                    refine AllReadyH.cons rfl (fun KK hKK => ?_) AllReadyH.nil
                    go_simp
                    refine hKK.out _ _ ⟨q5, q6⟩ (fun hHeld5 => ?_)
                    clear hKK KK hHeld4 hHeld5 q1 q2 q5 q6 cm2 cmA2 HNd2 HQd2 HBd2 HOM2 HSA2 HNA2 HNE2 HNQ2 HNB2 HHI2 HM2 HVM2 HA2
                    try simp only [List.getElem_toArray, List.getElem_cons_zero, List.getElem_cons_succ, Act.put, List.setIfInBounds_toArray, List.set_cons_zero, List.set_cons_succ]
                    generalize v2.setCell ⟨s2, xm, none⟩ (.slice (some ⟨gg2, 0, none⟩) (l2.length + 1) cap2) = x2 at *
                    refine wpAnyH_done (by kernel_rfl) ?_ _
                    go_wp2_with fail
                    go_roundw
                    case rel => exact ⟨k + 1, (up (up (up H 0 ((H 0).set xm (l0 ++ [(k : Int)]))) 1 (((up H 0 ((H 0).set xm (l0 ++ [(k : Int)]))) 1).set xm (l1 ++ [(k : Int)]))) 2 (((up (up H 0 ((H 0).set xm (l0 ++ [(k : Int)]))) 1 (((up H 0 ((H 0).set xm (l0 ++ [(k : Int)]))) 1).set xm (l1 ++ [(k : Int)]))) 2).set xm (l2 ++ [(k : Int)]))), (up (up (up vs 0 ((vs 0).set xm (.slice (some ⟨gg0, 0, none⟩) (l0.length + 1) cap0))) 1 (((up vs 0 ((vs 0).set xm (.slice (some ⟨gg0, 0, none⟩) (l0.length + 1) cap0))) 1).set xm (.slice (some ⟨gg1, 0, none⟩) (l1.length + 1) cap1))) 2 (((up (up vs 0 ((vs 0).set xm (.slice (some ⟨gg0, 0, none⟩) (l0.length + 1) cap0))) 1 (((up vs 0 ((vs 0).set xm (.slice (some ⟨gg0, 0, none⟩) (l0.length + 1) cap0))) 1).set xm (.slice (some ⟨gg1, 0, none⟩) (l1.length + 1) cap1))) 2).set xm (.slice (some ⟨gg2, 0, none⟩) (l2.length + 1) cap2))), by omega, by go_num, HU0, HU1, HU2, HN2a, HBq⟩
                    case measure => simp [intOf]; omega
                  · skip
                    go_simp
                    refine hKK.out _ _ ⟨cell_on hHeld.1 (below_new _ _), cell_on hHeld.2 (below_new _ _)⟩ (fun hHeld3 => ?_)
                    clear hKK KK hHeld
                    try simp only [List.getElem_toArray, List.getElem_cons_zero, List.getElem_cons_succ, Act.put, List.setIfInBounds_toArray, List.set_cons_zero, List.set_cons_succ]
                    refine wpAnyH_ready (rs := [13]) (by kernel_rfl) (by simp) ?_
                    refine AllReadyH.cons rfl (fun KK hKK => ?_) AllReadyH.nil
                    go_simp
                    refine hKK.out _ _ hHeld3 (fun hHeld2 => ?_)
                    clear hKK KK hHeld3
                    try simp only [List.getElem_toArray, List.getElem_cons_zero, List.getElem_cons_succ, Act.put, List.setIfInBounds_toArray, List.set_cons_zero, List.set_cons_succ]
                    refine wpAnyH_ready (rs := [16]) (by kernel_rfl) (by simp) ?_
                    refine AllReadyH.cons rfl (fun KK hKK => ?_) AllReadyH.nil
                    refine step_append_lies _ (by rfl) _ _ _ (by rfl) W.heap.size 3 iI _ 1 8 Tryz.underlying26 hiI zI0 zI1 zI2 rfl (by decide) (.slice la2 l2.length lc2) l2.length (ints l2) (by rfl) HOM2.out ⟨wd2.heap.size, 0, none⟩ 1 1 [.int .i64 k] (by rfl) rfl HNA2.out (by simp [Value.oneCell']) (by decide) (by unfold maxLen; omega) (by omega) (by rw [HSA2.out]; omega) (wd2.heap.size + 1) HSA2.out ?_
                    intro gg2 cap2 v2 hown2 hgw hat2 hlt2
                    have hgrow2 : (wd2.alloc (.cells #[.int .i64 k] 3)).drew.grownBy v2 (Value.ownBlock (.slice la2 l2.length lc2)) := ⟨hgw.os, hgw.tape, hgw.output, hgw.size, hgw.block⟩
                    have f5 := (HNd2.out.h3.fx 2 (by omega)).keep (grown_old2 hgrow2 (HNd2.out.h3.fx 2 (by omega)).lt HNE2.out)
                    have q1 : v2.cell? ⟨s2, xm, none⟩ = some (.slice la2 l2.length lc2) := f5.get HVM2.out
                    have q2 : v2.frozen? ⟨s2, xm, none⟩ = false := f5.frz xm
                    have q3 := (HQd2.out.keep (grown_old2 hgrow2 HQd2.out.lt HNQ2.out)).get (i := 1) rfl
                    have q4 := (HNd2.out.bx.keep (grown_old2 hgrow2 HNd2.out.bx.lt HNB2.out)).get (i := 7) rfl
                    refine hKK.out _ _ ⟨q4, q3⟩ (fun hHeld4 => ?_)
                    have HN2a : Hid (Nk W.heap.size kb ⟨fa, fc, some ⟨gr, go, none⟩, rc, ba, bc, fb, s0, s1, s2⟩ T n (.slice ma n mc) R (up (up (up H 0 ((H 0).set xm (l0 ++ [(k : Int)]))) 1 (((up H 0 ((H 0).set xm (l0 ++ [(k : Int)]))) 1).set xm (l1 ++ [(k : Int)]))) 2 (((up (up H 0 ((H 0).set xm (l0 ++ [(k : Int)]))) 1 (((up H 0 ((H 0).set xm (l0 ++ [(k : Int)]))) 1).set xm (l1 ++ [(k : Int)]))) 2).set xm (l2 ++ [(k : Int)]))) (up (up (up vs 0 ((vs 0).set xm (.slice (some ⟨gg0, 0, none⟩) (l0.length + 1) cap0))) 1 (((up vs 0 ((vs 0).set xm (.slice (some ⟨gg0, 0, none⟩) (l0.length + 1) cap0))) 1).set xm (.slice (some ⟨gg1, 0, none⟩) (l1.length + 1) cap1))) 2 (((up (up vs 0 ((vs 0).set xm (.slice (some ⟨gg0, 0, none⟩) (l0.length + 1) cap0))) 1 (((up vs 0 ((vs 0).set xm (.slice (some ⟨gg0, 0, none⟩) (l0.length + 1) cap0))) 1).set xm (.slice (some ⟨gg1, 0, none⟩) (l1.length + 1) cap1))) 2).set xm (.slice (some ⟨gg2, 0, none⟩) (l2.length + 1) cap2))) (v2.setCell ⟨s2, xm, none⟩ (.slice (some ⟨gg2, 0, none⟩) (l2.length + 1) cap2))) := hide (HNd2.out.add (c := 2) (by omega) HM2.out HVM2.out hown2 (fun k hk hn => grown_old2 hgrow2 hk hn) (by rcases hat2 with h | h; exact .inl h; exact .inr (by omega)))
                    have HQ : Hid (Fx q 63 _ (v2.setCell ⟨s2, xm, none⟩ (.slice (some ⟨gg2, 0, none⟩) (l2.length + 1) cap2))) := hide ((HQd2.out.keep (grown_old2 hgrow2 HQd2.out.lt HNQ2.out)).keep (other_set (fx_ne HQd2.out (HNd2.out.h3.fx 2 (by omega)) (by decide))))
                    have HBq := hide (HBd2.out.trans ((grown_low hgrow2 HHI2.out hbs2).setCell (p := ⟨s2, xm, none⟩) (HNd2.out.h3.lo 2 (by omega)) (.slice (some ⟨gg2, 0, none⟩) (l2.length + 1) cap2)))
                    have q5 := HN2a.out.bx.get (i := 7) rfl
                    have q6 := HQ.out.get (i := 1) rfl
                    clear hKK KK f5 q3 q4 hown2 hgrow2 hgw hat2 hlt2 hHeld2
                    try simp only [List.getElem_toArray, List.getElem_cons_zero, List.getElem_cons_succ, Act.put, List.setIfInBounds_toArray, List.set_cons_zero, List.set_cons_succ]
                    refine wpAnyH_take (i := 17) (v := ?_) rfl (by kernel_rfl) (by kernel_rfl) (by kernel_rfl) (fun _ _ _ h => h) (Or.inl ⟨by rfl, ?_⟩) (by assumption) ?_
                    rotate_left
                    · (intro w hSw; (try dsimp only at hSw); first | (go_simp; done) | (go_simp; with_reducible rfl))
                    try simp only [List.getElem_toArray, List.getElem_cons_zero, List.getElem_cons_succ, Act.put, List.setIfInBounds_toArray, List.set_cons_zero, List.set_cons_succ]
                    refine wpAnyH_ready (rs := [18]) (by kernel_rfl) (by simp) ?_
                    refine AllReadyH.cons rfl (fun KK hKK => ?_) AllReadyH.nil
                    go_simp
                    refine hKK.out _ _ ⟨q5, q6⟩ (fun hHeld5 => ?_)
                    clear hKK KK hHeld4 hHeld5 q1 q2 q5 q6 cm2 cmA2 HNd2 HQd2 HBd2 HOM2 HSA2 HNA2 HNE2 HNQ2 HNB2 HHI2 HM2 HVM2 HA2
                    try simp only [List.getElem_toArray, List.getElem_cons_zero, List.getElem_cons_succ, Act.put, List.setIfInBounds_toArray, List.set_cons_zero, List.set_cons_succ]
                    generalize v2.setCell ⟨s2, xm, none⟩ (.slice (some ⟨gg2, 0, none⟩) (l2.length + 1) cap2) = x2 at *
                    refine wpAnyH_done (by kernel_rfl) ?_ _
                    go_wp2_with fail
                    go_roundw
                    case rel => exact ⟨k + 1, (up (up (up H 0 ((H 0).set xm (l0 ++ [(k : Int)]))) 1 (((up H 0 ((H 0).set xm (l0 ++ [(k : Int)]))) 1).set xm (l1 ++ [(k : Int)]))) 2 (((up (up H 0 ((H 0).set xm (l0 ++ [(k : Int)]))) 1 (((up H 0 ((H 0).set xm (l0 ++ [(k : Int)]))) 1).set xm (l1 ++ [(k : Int)]))) 2).set xm (l2 ++ [(k : Int)]))), (up (up (up vs 0 ((vs 0).set xm (.slice (some ⟨gg0, 0, none⟩) (l0.length + 1) cap0))) 1 (((up vs 0 ((vs 0).set xm (.slice (some ⟨gg0, 0, none⟩) (l0.length + 1) cap0))) 1).set xm (.slice (some ⟨gg1, 0, none⟩) (l1.length + 1) cap1))) 2 (((up (up vs 0 ((vs 0).set xm (.slice (some ⟨gg0, 0, none⟩) (l0.length + 1) cap0))) 1 (((up vs 0 ((vs 0).set xm (.slice (some ⟨gg0, 0, none⟩) (l0.length + 1) cap0))) 1).set xm (.slice (some ⟨gg1, 0, none⟩) (l1.length + 1) cap1))) 2).set xm (.slice (some ⟨gg2, 0, none⟩) (l2.length + 1) cap2))), by omega, by go_num, HU0, HU1, HU2, HN2a, HBq⟩
                    case measure => simp [intOf]; omega
            · have HP0 : Hid (kS r = false) := hide (by unfold kS; rw [hk3]; rfl)
              have HP1 : Hid (kT r = true) := hide (by unfold kT; rw [hk3]; rfl)
              have HP2 : Hid (kA r = true) := hide rfl
              rw [hk3] at x0 HNq HBq HQ
              clear hk3
              go_upto_region 10 with fail
              generalize wr.alloc (.cells #[.int .i64 2, .int .i64 xm, .slice bd r.body.length bp] 63) = wq at *
              generalize hq : wr.heap.size = q at *
              clear x0 x1 x2
              have z0 := HQ.out.get (i := 0) rfl
              have HU0 := hide (HG0.out.skip HRr.out HP0.out)
              have hd1 := (Below.refl wq.heap.size wq).drew
              have HNd1 := hide (HNq.out.go hd1)
              have HQd1 := hide (HQ.out.keep (hd1.block _ HQ.out.lt))
              have HBd1 := hide (HBq.out.trans (hd1.mono HBq.out.size))
              have kc1 := HNq.out.bx.get (i := 6) rfl
              have y1 := HQ.out.get (i := 1) rfl
              go_upto_region 13 with fail
              refine wp_region_held_drew (S := fun X : World => X.cell? ⟨kb, 6, none⟩ = some (.slice (some ⟨s1, 0, none⟩) n n) ∧ X.cell? ⟨q, 1, none⟩ = some (.int .i64 xm)) (by kernel_rfl) ⟨kc1, y1⟩ (fun hHeld => ?_)
              clear HNq HQ HBq kc1 y1 hd1 z0
              generalize wq.drew = wd1 at *
              obtain ⟨l1, la1, lc1, hm1, hv1, cm1, om1⟩ := HNd1.out.h3.at (c := 1) (by omega) hxn
              have HG1b : Hid (Grp T kT n k (H 1)) := HG1
              have hml1 := HG1b.out.row_le hm1
              have HU1 : Hid (Grp T kT n (k + 1) ((H 1).set xm (l1 ++ [(k : Int)]))) := hide (by
                have := HG1b.out.add HRr.out HP1.out HHM.out hxn
                rw [List.getD_eq_getElem?_getD, hm1] at this
                exact this)
              have hA1 := below_new wd1 (.cells #[.int .i64 k] 3)
              have hbs1 : W.heap.size ≤ wd1.heap.size := HBd1.out.size
              have HOM1 := hide (owns_keep om1 fun g hg => hA1.block g (owns_lt om1 hg))
              have cmA1 := cell_on cm1 hA1
              have HA1 := hide hA1
              have HSA1 : Hid ((wd1.alloc (.cells #[.int .i64 k] 3)).heap.size = wd1.heap.size + 1) := hide (by simp)
              have HNA1 : Hid (∀ j u, [Value.int .i64 k][j]? = some u → (wd1.alloc (.cells #[.int .i64 k] 3)).cell? ((⟨wd1.heap.size, 0, none⟩ : Addr).add j) = some u) := hide (World.news_of_block (cs := [Value.int .i64 k].toArray) (t := 3) (fr := (0, 0)) (heap_alloc_new wd1 (.cells #[.int .i64 k] 3)))
              have HNE1 := hide (own_fx om1 (HNd1.out.h3.fx 1 (by omega)) (by decide))
              have HNQ1 := hide (own_fx om1 HQd1.out (by decide))
              have HNB1 := hide (own_fx om1 HNd1.out.bx (by decide))
              have HHI1 : Hid (∀ g, Value.ownBlock (.slice la1 l1.length lc1) = some g → W.heap.size ≤ g) := hide fun g e => (om1.lt g e).1
              have HM1 := hide hm1
              have HVM1 := hide hv1
              have e1 : sbA ⟨fa, fc, some ⟨gr, go, none⟩, rc, ba, bc, fb, s0, s1, s2⟩ 1 = s1 := rfl
              rw [e1] at cm1 cmA1
              clear hA1 hm1 hv1 om1 e1
              refine wpAnyH_take (i := 0) (v := ?_) rfl (by kernel_rfl) (by kernel_rfl) (by kernel_rfl) (fun _ _ _ h => h) (Or.inl ⟨by rfl, ?_⟩) (by assumption) ?_
              rotate_left
              · (intro w hSw; (try dsimp only at hSw); first | (go_simp; done) | (go_simp; with_reducible rfl))
              try simp only [List.getElem_toArray, List.getElem_cons_zero, Act.put, List.setIfInBounds_toArray, List.set_cons_zero, List.set_cons_succ]
              refine wpAnyH_take (i := 1) (v := ?_) rfl (by kernel_rfl) (by kernel_rfl) (by kernel_rfl) (fun _ _ _ h => h) (Or.inl ⟨by rfl, ?_⟩) (by assumption) ?_
              rotate_left
              · (intro w hSw; (try dsimp only at hSw); first | (go_simp; done) | (go_simp; with_reducible rfl))
              try simp only [List.getElem_toArray, List.getElem_cons_zero, List.getElem_cons_succ, Act.put, List.setIfInBounds_toArray, List.set_cons_zero, List.set_cons_succ]
              refine wpAnyH_take (i := 2) (v := ?_) rfl (by kernel_rfl) (by kernel_rfl) (by kernel_rfl) (fun _ _ _ h => h) (Or.inl ⟨by rfl, ?_⟩) (by assumption) ?_
              rotate_left
              · (intro w hSw; (try dsimp only at hSw); first | (go_simp; done) | (go_simp; with_reducible rfl))
              try simp only [List.getElem_toArray, List.getElem_cons_zero, List.getElem_cons_succ, Act.put, List.setIfInBounds_toArray, List.set_cons_zero, List.set_cons_succ]
              refine wpAnyH_take (i := 3) (v := ?_) rfl (by kernel_rfl) (by kernel_rfl) (by kernel_rfl) (fun _ _ _ h => h) (Or.inl ⟨by rfl, ?_⟩) (by assumption) ?_
              rotate_left
              · (intro w hSw; (try dsimp only at hSw); first | (go_simp; done) | (go_simp; with_reducible rfl))
              try simp only [List.getElem_toArray, List.getElem_cons_zero, List.getElem_cons_succ, Act.put, List.setIfInBounds_toArray, List.set_cons_zero, List.set_cons_succ]
              refine wpAnyH_take (i := 4) (v := ?_) rfl (by kernel_rfl) (by kernel_rfl) (by kernel_rfl) (fun _ _ _ h => h) (Or.inl ⟨by rfl, ?_⟩) (by assumption) ?_
              rotate_left
              · (intro w hSw; (try dsimp only at hSw); first | (go_simp; done) | (go_simp; with_reducible rfl))
              try simp only [List.getElem_toArray, List.getElem_cons_zero, List.getElem_cons_succ, Act.put, List.setIfInBounds_toArray, List.set_cons_zero, List.set_cons_succ]
              refine wpAnyH_take (i := 5) (v := ?_) rfl (by kernel_rfl) (by kernel_rfl) (by kernel_rfl) (fun _ _ _ h => h) (Or.inl ⟨by rfl, ?_⟩) (by assumption) ?_
              rotate_left
              · (intro w hSw; (try dsimp only at hSw); first | (go_simp; done) | (go_simp; with_reducible rfl))
              try simp only [List.getElem_toArray, List.getElem_cons_zero, List.getElem_cons_succ, Act.put, List.setIfInBounds_toArray, List.set_cons_zero, List.set_cons_succ]
              refine wpAnyH_take (i := 6) (v := ?_) rfl (by kernel_rfl) (by kernel_rfl) (by kernel_rfl) (fun _ _ _ h => h) (Or.inl ⟨by rfl, ?_⟩) (by assumption) ?_
              rotate_left
              · (intro w hSw; (try dsimp only at hSw); first | (go_simp; done) | (go_simp; with_reducible rfl))
              try simp only [List.getElem_toArray, List.getElem_cons_zero, List.getElem_cons_succ, Act.put, List.setIfInBounds_toArray, List.set_cons_zero, List.set_cons_succ]
              refine wpAnyH_take (i := 7) (v := ?_) rfl (by kernel_rfl) (by kernel_rfl) (by kernel_rfl) (fun _ _ _ h => h) (Or.inl ⟨by rfl, ?_⟩) (by assumption) ?_
              rotate_left
              · (intro w hSw; (try dsimp only at hSw); first | (go_simp; done) | (go_simp; with_reducible rfl))
              try simp only [List.getElem_toArray, List.getElem_cons_zero, List.getElem_cons_succ, Act.put, List.setIfInBounds_toArray, List.set_cons_zero, List.set_cons_succ]
              refine wpAnyH_take (i := 8) (v := ?_) rfl (by kernel_rfl) (by kernel_rfl) (by kernel_rfl) (fun _ _ _ h => h) (Or.inl ⟨by rfl, ?_⟩) (by assumption) ?_
              rotate_left
              · (intro w hSw; (try dsimp only at hSw); first | (go_simp; done) | (go_simp; with_reducible rfl))
              try simp only [List.getElem_toArray, List.getElem_cons_zero, List.getElem_cons_succ, Act.put, List.setIfInBounds_toArray, List.set_cons_zero, List.set_cons_succ]
              refine wpAnyH_take (i := 9) (v := ?_) rfl (by kernel_rfl) (by kernel_rfl) (by kernel_rfl) (fun _ _ _ h => h) (Or.inl ⟨by rfl, ?_⟩) (by assumption) ?_
              rotate_left
              · (intro w hSw; (try dsimp only at hSw); first | (go_simp; done) | (go_simp; with_reducible rfl))
              try simp only [List.getElem_toArray, List.getElem_cons_zero, List.getElem_cons_succ, Act.put, List.setIfInBounds_toArray, List.set_cons_zero, List.set_cons_succ]
              refine wpAnyH_take (i := 10) (v := ?_) rfl (by kernel_rfl) (by kernel_rfl) (by kernel_rfl) (fun _ _ _ h => h) (Or.inl ⟨by rfl, ?_⟩) (by assumption) ?_
              rotate_left
              · (intro w hSw; (try dsimp only at hSw); first | (go_simp; done) | (go_simp; with_reducible rfl))
              try simp only [List.getElem_toArray, List.getElem_cons_zero, List.getElem_cons_succ, Act.put, List.setIfInBounds_toArray, List.set_cons_zero, List.set_cons_succ]
              refine wpAnyH_take (i := 11) (v := ?_) rfl (by kernel_rfl) (by kernel_rfl) (by kernel_rfl) (fun _ _ _ h => h) (Or.inl ⟨by rfl, ?_⟩) (by assumption) ?_
              rotate_left
              · (intro w hSw; (try dsimp only at hSw); first | (go_simp; done) | (go_simp; with_reducible rfl))
              try simp only [List.getElem_toArray, List.getElem_cons_zero, List.getElem_cons_succ, Act.put, List.setIfInBounds_toArray, List.set_cons_zero, List.set_cons_succ]
              refine wpAnyH_take (i := 12) (v := ?_) rfl (by kernel_rfl) (by kernel_rfl) (by kernel_rfl) (fun _ _ _ h => h) (Or.inl ⟨by rfl, ?_⟩) (by assumption) ?_
              rotate_left
              · (intro w hSw; (try dsimp only at hSw); first | (go_simp; done) | (go_simp; with_reducible rfl))
              try simp only [List.getElem_toArray, List.getElem_cons_zero, List.getElem_cons_succ, Act.put, List.setIfInBounds_toArray, List.set_cons_zero, List.set_cons_succ]
              refine wpAnyH_take (i := 14) (v := ?_) rfl (by kernel_rfl) (by kernel_rfl) (by kernel_rfl) (fun _ _ _ h => h) (Or.inl ⟨by rfl, ?_⟩) (by assumption) ?_
              rotate_left
              · (intro w hSw; (try dsimp only at hSw); first | (go_simp; done) | (go_simp; with_reducible rfl))
              try simp only [List.getElem_toArray, List.getElem_cons_zero, List.getElem_cons_succ, Act.put, List.setIfInBounds_toArray, List.set_cons_zero, List.set_cons_succ]
              refine wpAnyH_ready (rs := [13, 15]) (by kernel_rfl) (by simp) ?_
              refine AllReadyH.cons rfl (fun KK hKK => ?_) (AllReadyH.cons rfl (fun KK hKK => ?_) AllReadyH.nil)
              · skip
                go_simp
                refine hKK.out _ _ hHeld (fun hHeld2 => ?_)
                clear hKK KK hHeld
                try simp only [List.getElem_toArray, List.getElem_cons_zero, List.getElem_cons_succ, Act.put, List.setIfInBounds_toArray, List.set_cons_zero, List.set_cons_succ]
                refine wpAnyH_ready (rs := [15]) (by kernel_rfl) (by simp) ?_
                refine AllReadyH.cons rfl (fun KK hKK => ?_) AllReadyH.nil
                go_simp
                refine hKK.out _ _ ⟨cell_on hHeld2.1 (below_new _ _), cell_on hHeld2.2 (below_new _ _)⟩ (fun hHeld3 => ?_)
                clear hKK KK hHeld2
                try simp only [List.getElem_toArray, List.getElem_cons_zero, List.getElem_cons_succ, Act.put, List.setIfInBounds_toArray, List.set_cons_zero, List.set_cons_succ]
                refine wpAnyH_ready (rs := [16]) (by kernel_rfl) (by simp) ?_
                refine AllReadyH.cons rfl (fun KK hKK => ?_) AllReadyH.nil
                refine step_append_lies _ (by rfl) _ _ _ (by rfl) W.heap.size 3 iI _ 1 8 Tryz.underlying26 hiI zI0 zI1 zI2 rfl (by decide) (.slice la1 l1.length lc1) l1.length (ints l1) (by rfl) HOM1.out ⟨wd1.heap.size, 0, none⟩ 1 1 [.int .i64 k] (by rfl) rfl HNA1.out (by simp [Value.oneCell']) (by decide) (by unfold maxLen; omega) (by omega) (by rw [HSA1.out]; omega) (wd1.heap.size + 1) HSA1.out ?_
                intro gg1 cap1 v1 hown1 hgw hat1 hlt1
                have hgrow1 : (wd1.alloc (.cells #[.int .i64 k] 3)).drew.grownBy v1 (Value.ownBlock (.slice la1 l1.length lc1)) := ⟨hgw.os, hgw.tape, hgw.output, hgw.size, hgw.block⟩
                have f5 := (HNd1.out.h3.fx 1 (by omega)).keep (grown_old2 hgrow1 (HNd1.out.h3.fx 1 (by omega)).lt HNE1.out)
                have q1 : v1.cell? ⟨s1, xm, none⟩ = some (.slice la1 l1.length lc1) := f5.get HVM1.out
                have q2 : v1.frozen? ⟨s1, xm, none⟩ = false := f5.frz xm
                have q3 := (HQd1.out.keep (grown_old2 hgrow1 HQd1.out.lt HNQ1.out)).get (i := 1) rfl
                have q4 := (HNd1.out.bx.keep (grown_old2 hgrow1 HNd1.out.bx.lt HNB1.out)).get (i := 6) rfl
                refine hKK.out _ _ ⟨q4, q3⟩ (fun hHeld4 => ?_)
                have HN1a : Hid (Nk W.heap.size kb ⟨fa, fc, some ⟨gr, go, none⟩, rc, ba, bc, fb, s0, s1, s2⟩ T n (.slice ma n mc) R (up H 1 ((H 1).set xm (l1 ++ [(k : Int)]))) (up vs 1 ((vs 1).set xm (.slice (some ⟨gg1, 0, none⟩) (l1.length + 1) cap1))) (v1.setCell ⟨s1, xm, none⟩ (.slice (some ⟨gg1, 0, none⟩) (l1.length + 1) cap1))) := hide (HNd1.out.add (c := 1) (by omega) HM1.out HVM1.out hown1 (fun k hk hn => grown_old2 hgrow1 hk hn) (by rcases hat1 with h | h; exact .inl h; exact .inr (by omega)))
                have HQ : Hid (Fx q 63 _ (v1.setCell ⟨s1, xm, none⟩ (.slice (some ⟨gg1, 0, none⟩) (l1.length + 1) cap1))) := hide ((HQd1.out.keep (grown_old2 hgrow1 HQd1.out.lt HNQ1.out)).keep (other_set (fx_ne HQd1.out (HNd1.out.h3.fx 1 (by omega)) (by decide))))
                have HBq := hide (HBd1.out.trans ((grown_low hgrow1 HHI1.out hbs1).setCell (p := ⟨s1, xm, none⟩) (HNd1.out.h3.lo 1 (by omega)) (.slice (some ⟨gg1, 0, none⟩) (l1.length + 1) cap1)))
                have q5 := HN1a.out.bx.get (i := 6) rfl
                have q6 := HQ.out.get (i := 1) rfl
                clear hKK KK f5 q3 q4 hown1 hgrow1 hgw hat1 hlt1 hHeld3
                try simp only [List.getElem_toArray, List.getElem_cons_zero, List.getElem_cons_succ, Act.put, List.setIfInBounds_toArray, List.set_cons_zero, List.set_cons_succ]
                refine wpAnyH_take (i := 17) (v := ?_) rfl (by kernel_rfl) (by kernel_rfl) (by kernel_rfl) (fun _ _ _ h => h) (Or.inl ⟨by rfl, ?_⟩) (by assumption) ?_
                rotate_left
                · (intro w hSw; (try dsimp only at hSw); first | (go_simp; done) | (go_simp; with_reducible rfl))
                try simp only [List.getElem_toArray, List.getElem_cons_zero, List.getElem_cons_succ, Act.put, List.setIfInBounds_toArray, List.set_cons_zero, List.set_cons_succ]
                refine wpAnyH_ready (rs := [18]) (by kernel_rfl) (by simp) ?_
                refine AllReadyH.cons rfl (fun KK hKK => ?_) AllReadyH.nil
                go_simp
                refine hKK.out _ _ ⟨q5, q6⟩ (fun hHeld5 => ?_)
                clear hKK KK hHeld4 hHeld5 q1 q2 q5 q6 cm1 cmA1 HNd1 HQd1 HBd1 HOM1 HSA1 HNA1 HNE1 HNQ1 HNB1 HHI1 HM1 HVM1 HA1
                try simp only [List.getElem_toArray, List.getElem_cons_zero, List.getElem_cons_succ, Act.put, List.setIfInBounds_toArray, List.set_cons_zero, List.set_cons_succ]
                generalize v1.setCell ⟨s1, xm, none⟩ (.slice (some ⟨gg1, 0, none⟩) (l1.length + 1) cap1) = x1 at *
                refine wpAnyH_done (by kernel_rfl) ?_ _
                have z0 := HQ.out.get (i := 0) rfl
                have hd2 := (Below.refl x1.heap.size x1).drew
                have HNd2 := hide (HN1a.out.go hd2)
                have HQd2 := hide (HQ.out.keep (hd2.block _ HQ.out.lt))
                have HBd2 := hide (HBq.out.trans (hd2.mono HBq.out.size))
                have kc2 := HN1a.out.bx.get (i := 7) rfl
                have y2 := HQ.out.get (i := 1) rfl
                go_upto_region 14 with fail
                refine wp_region_held_drew (S := fun X : World => X.cell? ⟨kb, 7, none⟩ = some (.slice (some ⟨s2, 0, none⟩) n n) ∧ X.cell? ⟨q, 1, none⟩ = some (.int .i64 xm)) (by kernel_rfl) ⟨kc2, y2⟩ (fun hHeld => ?_)
                clear HN1a HQ HBq kc2 y2 hd2 z0
                generalize x1.drew = wd2 at *
                obtain ⟨l2, la2, lc2, hm2, hv2, cm2, om2⟩ := HNd2.out.h3.at (c := 2) (by omega) hxn
                have HG2b : Hid (Grp T kA n k ((up H 1 ((H 1).set xm (l1 ++ [(k : Int)]))) 2)) := HG2
                have hml2 := HG2b.out.row_le hm2
                have HU2 : Hid (Grp T kA n (k + 1) (((up H 1 ((H 1).set xm (l1 ++ [(k : Int)]))) 2).set xm (l2 ++ [(k : Int)]))) := hide (by
                  have := HG2b.out.add HRr.out HP2.out HHM.out hxn
                  rw [List.getD_eq_getElem?_getD, hm2] at this
                  exact this)
                have hA2 := below_new wd2 (.cells #[.int .i64 k] 3)
                have hbs2 : W.heap.size ≤ wd2.heap.size := HBd2.out.size
                have HOM2 := hide (owns_keep om2 fun g hg => hA2.block g (owns_lt om2 hg))
                have cmA2 := cell_on cm2 hA2
                have HA2 := hide hA2
                have HSA2 : Hid ((wd2.alloc (.cells #[.int .i64 k] 3)).heap.size = wd2.heap.size + 1) := hide (by simp)
                have HNA2 : Hid (∀ j u, [Value.int .i64 k][j]? = some u → (wd2.alloc (.cells #[.int .i64 k] 3)).cell? ((⟨wd2.heap.size, 0, none⟩ : Addr).add j) = some u) := hide (World.news_of_block (cs := [Value.int .i64 k].toArray) (t := 3) (fr := (0, 0)) (heap_alloc_new wd2 (.cells #[.int .i64 k] 3)))
                have HNE2 := hide (own_fx om2 (HNd2.out.h3.fx 2 (by omega)) (by decide))
                have HNQ2 := hide (own_fx om2 HQd2.out (by decide))
                have HNB2 := hide (own_fx om2 HNd2.out.bx (by decide))
                have HHI2 : Hid (∀ g, Value.ownBlock (.slice la2 l2.length lc2) = some g → W.heap.size ≤ g) := hide fun g e => (om2.lt g e).1
                have HM2 := hide hm2
                have HVM2 := hide hv2
                have e2 : sbA ⟨fa, fc, some ⟨gr, go, none⟩, rc, ba, bc, fb, s0, s1, s2⟩ 2 = s2 := rfl
                rw [e2] at cm2 cmA2
                clear hA2 hm2 hv2 om2 e2
                refine wpAnyH_take (i := 0) (v := ?_) rfl (by kernel_rfl) (by kernel_rfl) (by kernel_rfl) (fun _ _ _ h => h) (Or.inl ⟨by rfl, ?_⟩) (by assumption) ?_
                rotate_left
                · (intro w hSw; (try dsimp only at hSw); first | (go_simp; done) | (go_simp; with_reducible rfl))
                try simp only [List.getElem_toArray, List.getElem_cons_zero, Act.put, List.setIfInBounds_toArray, List.set_cons_zero, List.set_cons_succ]
                refine wpAnyH_take (i := 1) (v := ?_) rfl (by kernel_rfl) (by kernel_rfl) (by kernel_rfl) (fun _ _ _ h => h) (Or.inl ⟨by rfl, ?_⟩) (by assumption) ?_
                rotate_left
                · (intro w hSw; (try dsimp only at hSw); first | (go_simp; done) | (go_simp; with_reducible rfl))
                try simp only [List.getElem_toArray, List.getElem_cons_zero, List.getElem_cons_succ, Act.put, List.setIfInBounds_toArray, List.set_cons_zero, List.set_cons_succ]
                refine wpAnyH_take (i := 2) (v := ?_) rfl (by kernel_rfl) (by kernel_rfl) (by kernel_rfl) (fun _ _ _ h => h) (Or.inl ⟨by rfl, ?_⟩) (by assumption) ?_
                rotate_left
                · (intro w hSw; (try dsimp only at hSw); first | (go_simp; done) | (go_simp; with_reducible rfl))
                try simp only [List.getElem_toArray, List.getElem_cons_zero, List.getElem_cons_succ, Act.put, List.setIfInBounds_toArray, List.set_cons_zero, List.set_cons_succ]
                refine wpAnyH_take (i := 3) (v := ?_) rfl (by kernel_rfl) (by kernel_rfl) (by kernel_rfl) (fun _ _ _ h => h) (Or.inl ⟨by rfl, ?_⟩) (by assumption) ?_
                rotate_left
                · (intro w hSw; (try dsimp only at hSw); first | (go_simp; done) | (go_simp; with_reducible rfl))
                try simp only [List.getElem_toArray, List.getElem_cons_zero, List.getElem_cons_succ, Act.put, List.setIfInBounds_toArray, List.set_cons_zero, List.set_cons_succ]
                refine wpAnyH_take (i := 4) (v := ?_) rfl (by kernel_rfl) (by kernel_rfl) (by kernel_rfl) (fun _ _ _ h => h) (Or.inl ⟨by rfl, ?_⟩) (by assumption) ?_
                rotate_left
                · (intro w hSw; (try dsimp only at hSw); first | (go_simp; done) | (go_simp; with_reducible rfl))
                try simp only [List.getElem_toArray, List.getElem_cons_zero, List.getElem_cons_succ, Act.put, List.setIfInBounds_toArray, List.set_cons_zero, List.set_cons_succ]
                refine wpAnyH_take (i := 5) (v := ?_) rfl (by kernel_rfl) (by kernel_rfl) (by kernel_rfl) (fun _ _ _ h => h) (Or.inl ⟨by rfl, ?_⟩) (by assumption) ?_
                rotate_left
                · (intro w hSw; (try dsimp only at hSw); first | (go_simp; done) | (go_simp; with_reducible rfl))
                try simp only [List.getElem_toArray, List.getElem_cons_zero, List.getElem_cons_succ, Act.put, List.setIfInBounds_toArray, List.set_cons_zero, List.set_cons_succ]
                refine wpAnyH_take (i := 6) (v := ?_) rfl (by kernel_rfl) (by kernel_rfl) (by kernel_rfl) (fun _ _ _ h => h) (Or.inl ⟨by rfl, ?_⟩) (by assumption) ?_
                rotate_left
                · (intro w hSw; (try dsimp only at hSw); first | (go_simp; done) | (go_simp; with_reducible rfl))
                try simp only [List.getElem_toArray, List.getElem_cons_zero, List.getElem_cons_succ, Act.put, List.setIfInBounds_toArray, List.set_cons_zero, List.set_cons_succ]
                refine wpAnyH_take (i := 7) (v := ?_) rfl (by kernel_rfl) (by kernel_rfl) (by kernel_rfl) (fun _ _ _ h => h) (Or.inl ⟨by rfl, ?_⟩) (by assumption) ?_
                rotate_left
                · (intro w hSw; (try dsimp only at hSw); first | (go_simp; done) | (go_simp; with_reducible rfl))
                try simp only [List.getElem_toArray, List.getElem_cons_zero, List.getElem_cons_succ, Act.put, List.setIfInBounds_toArray, List.set_cons_zero, List.set_cons_succ]
                refine wpAnyH_take (i := 8) (v := ?_) rfl (by kernel_rfl) (by kernel_rfl) (by kernel_rfl) (fun _ _ _ h => h) (Or.inl ⟨by rfl, ?_⟩) (by assumption) ?_
                rotate_left
                · (intro w hSw; (try dsimp only at hSw); first | (go_simp; done) | (go_simp; with_reducible rfl))
                try simp only [List.getElem_toArray, List.getElem_cons_zero, List.getElem_cons_succ, Act.put, List.setIfInBounds_toArray, List.set_cons_zero, List.set_cons_succ]
                refine wpAnyH_take (i := 9) (v := ?_) rfl (by kernel_rfl) (by kernel_rfl) (by kernel_rfl) (fun _ _ _ h => h) (Or.inl ⟨by rfl, ?_⟩) (by assumption) ?_
                rotate_left
                · (intro w hSw; (try dsimp only at hSw); first | (go_simp; done) | (go_simp; with_reducible rfl))
                try simp only [List.getElem_toArray, List.getElem_cons_zero, List.getElem_cons_succ, Act.put, List.setIfInBounds_toArray, List.set_cons_zero, List.set_cons_succ]
                refine wpAnyH_take (i := 10) (v := ?_) rfl (by kernel_rfl) (by kernel_rfl) (by kernel_rfl) (fun _ _ _ h => h) (Or.inl ⟨by rfl, ?_⟩) (by assumption) ?_
                rotate_left
                · (intro w hSw; (try dsimp only at hSw); first | (go_simp; done) | (go_simp; with_reducible rfl))
                try simp only [List.getElem_toArray, List.getElem_cons_zero, List.getElem_cons_succ, Act.put, List.setIfInBounds_toArray, List.set_cons_zero, List.set_cons_succ]
                refine wpAnyH_take (i := 11) (v := ?_) rfl (by kernel_rfl) (by kernel_rfl) (by kernel_rfl) (fun _ _ _ h => h) (Or.inl ⟨by rfl, ?_⟩) (by assumption) ?_
                rotate_left
                · (intro w hSw; (try dsimp only at hSw); first | (go_simp; done) | (go_simp; with_reducible rfl))
                try simp only [List.getElem_toArray, List.getElem_cons_zero, List.getElem_cons_succ, Act.put, List.setIfInBounds_toArray, List.set_cons_zero, List.set_cons_succ]
                refine wpAnyH_take (i := 12) (v := ?_) rfl (by kernel_rfl) (by kernel_rfl) (by kernel_rfl) (fun _ _ _ h => h) (Or.inl ⟨by rfl, ?_⟩) (by assumption) ?_
                rotate_left
                · (intro w hSw; (try dsimp only at hSw); first | (go_simp; done) | (go_simp; with_reducible rfl))
                try simp only [List.getElem_toArray, List.getElem_cons_zero, List.getElem_cons_succ, Act.put, List.setIfInBounds_toArray, List.set_cons_zero, List.set_cons_succ]
                refine wpAnyH_take (i := 14) (v := ?_) rfl (by kernel_rfl) (by kernel_rfl) (by kernel_rfl) (fun _ _ _ h => h) (Or.inl ⟨by rfl, ?_⟩) (by assumption) ?_
                rotate_left
                · (intro w hSw; (try dsimp only at hSw); first | (go_simp; done) | (go_simp; with_reducible rfl))
                try simp only [List.getElem_toArray, List.getElem_cons_zero, List.getElem_cons_succ, Act.put, List.setIfInBounds_toArray, List.set_cons_zero, List.set_cons_succ]
                refine wpAnyH_ready (rs := [13, 15]) (by kernel_rfl) (by simp) ?_
                refine AllReadyH.cons rfl (fun KK hKK => ?_) (AllReadyH.cons rfl (fun KK hKK => ?_) AllReadyH.nil)
                · skip
                  go_simp
                  refine hKK.out _ _ hHeld (fun hHeld2 => ?_)
                  clear hKK KK hHeld
                  try simp only [List.getElem_toArray, List.getElem_cons_zero, List.getElem_cons_succ, Act.put, List.setIfInBounds_toArray, List.set_cons_zero, List.set_cons_succ]
                  refine wpAnyH_ready (rs := [15]) (by kernel_rfl) (by simp) ?_
                  refine AllReadyH.cons rfl (fun KK hKK => ?_) AllReadyH.nil
                  go_simp
                  refine hKK.out _ _ ⟨cell_on hHeld2.1 (below_new _ _), cell_on hHeld2.2 (below_new _ _)⟩ (fun hHeld3 => ?_)
                  clear hKK KK hHeld2
                  try simp only [List.getElem_toArray, List.getElem_cons_zero, List.getElem_cons_succ, Act.put, List.setIfInBounds_toArray, List.set_cons_zero, List.set_cons_succ]
                  refine wpAnyH_ready (rs := [16]) (by kernel_rfl) (by simp) ?_
                  refine AllReadyH.cons rfl (fun KK hKK => ?_) AllReadyH.nil
                  refine step_append_lies _ (by rfl) _ _ _ (by rfl) W.heap.size 3 iI _ 1 8 Tryz.underlying26 hiI zI0 zI1 zI2 rfl (by decide) (.slice la2 l2.length lc2) l2.length (ints l2) (by rfl) HOM2.out ⟨wd2.heap.size, 0, none⟩ 1 1 [.int .i64 k] (by rfl) rfl HNA2.out (by simp [Value.oneCell']) (by decide) (by unfold maxLen; omega) (by omega) (by rw [HSA2.out]; omega) (wd2.heap.size + 1) HSA2.out ?_
                  intro gg2 cap2 v2 hown2 hgw hat2 hlt2
                  have hgrow2 : (wd2.alloc (.cells #[.int .i64 k] 3)).drew.grownBy v2 (Value.ownBlock (.slice la2 l2.length lc2)) := ⟨hgw.os, hgw.tape, hgw.output, hgw.size, hgw.block⟩
                  have f5 := (HNd2.out.h3.fx 2 (by omega)).keep (grown_old2 hgrow2 (HNd2.out.h3.fx 2 (by omega)).lt HNE2.out)
                  have q1 : v2.cell? ⟨s2, xm, none⟩ = some (.slice la2 l2.length lc2) := f5.get HVM2.out
                  have q2 : v2.frozen? ⟨s2, xm, none⟩ = false := f5.frz xm
                  have q3 := (HQd2.out.keep (grown_old2 hgrow2 HQd2.out.lt HNQ2.out)).get (i := 1) rfl
                  have q4 := (HNd2.out.bx.keep (grown_old2 hgrow2 HNd2.out.bx.lt HNB2.out)).get (i := 7) rfl
                  refine hKK.out _ _ ⟨q4, q3⟩ (fun hHeld4 => ?_)
                  have HN2a : Hid (Nk W.heap.size kb ⟨fa, fc, some ⟨gr, go, none⟩, rc, ba, bc, fb, s0, s1, s2⟩ T n (.slice ma n mc) R (up (up H 1 ((H 1).set xm (l1 ++ [(k : Int)]))) 2 (((up H 1 ((H 1).set xm (l1 ++ [(k : Int)]))) 2).set xm (l2 ++ [(k : Int)]))) (up (up vs 1 ((vs 1).set xm (.slice (some ⟨gg1, 0, none⟩) (l1.length + 1) cap1))) 2 (((up vs 1 ((vs 1).set xm (.slice (some ⟨gg1, 0, none⟩) (l1.length + 1) cap1))) 2).set xm (.slice (some ⟨gg2, 0, none⟩) (l2.length + 1) cap2))) (v2.setCell ⟨s2, xm, none⟩ (.slice (some ⟨gg2, 0, none⟩) (l2.length + 1) cap2))) := hide (HNd2.out.add (c := 2) (by omega) HM2.out HVM2.out hown2 (fun k hk hn => grown_old2 hgrow2 hk hn) (by rcases hat2 with h | h; exact .inl h; exact .inr (by omega)))
                  have HQ : Hid (Fx q 63 _ (v2.setCell ⟨s2, xm, none⟩ (.slice (some ⟨gg2, 0, none⟩) (l2.length + 1) cap2))) := hide ((HQd2.out.keep (grown_old2 hgrow2 HQd2.out.lt HNQ2.out)).keep (other_set (fx_ne HQd2.out (HNd2.out.h3.fx 2 (by omega)) (by decide))))
                  have HBq := hide (HBd2.out.trans ((grown_low hgrow2 HHI2.out hbs2).setCell (p := ⟨s2, xm, none⟩) (HNd2.out.h3.lo 2 (by omega)) (.slice (some ⟨gg2, 0, none⟩) (l2.length + 1) cap2)))
                  have q5 := HN2a.out.bx.get (i := 7) rfl
                  have q6 := HQ.out.get (i := 1) rfl
                  clear hKK KK f5 q3 q4 hown2 hgrow2 hgw hat2 hlt2 hHeld3
                  try simp only [List.getElem_toArray, List.getElem_cons_zero, List.getElem_cons_succ, Act.put, List.setIfInBounds_toArray, List.set_cons_zero, List.set_cons_succ]
                  refine wpAnyH_take (i := 17) (v := ?_) rfl (by kernel_rfl) (by kernel_rfl) (by kernel_rfl) (fun _ _ _ h => h) (Or.inl ⟨by rfl, ?_⟩) (by assumption) ?_
                  rotate_left
                  · (intro w hSw; (try dsimp only at hSw); first | (go_simp; done) | (go_simp; with_reducible rfl))
                  try simp only [List.getElem_toArray, List.getElem_cons_zero, List.getElem_cons_succ, Act.put, List.setIfInBounds_toArray, List.set_cons_zero, List.set_cons_succ]
                  refine wpAnyH_ready (rs := [18]) (by kernel_rfl) (by simp) ?_
                  refine AllReadyH.cons rfl (fun KK hKK => ?_) AllReadyH.nil
                  go_simp
                  refine hKK.out _ _ ⟨q5, q6⟩ (fun hHeld5 => ?_)
                  clear hKK KK hHeld4 hHeld5 q1 q2 q5 q6 cm2 cmA2 HNd2 HQd2 HBd2 HOM2 HSA2 HNA2 HNE2 HNQ2 HNB2 HHI2 HM2 HVM2 HA2
                  try simp only [List.getElem_toArray, List.getElem_cons_zero, List.getElem_cons_succ, Act.put, List.setIfInBounds_toArray, List.set_cons_zero, List.set_cons_succ]
                  generalize v2.setCell ⟨s2, xm, none⟩ (.slice (some ⟨gg2, 0, none⟩) (l2.length + 1) cap2) = x2 at *
                  refine wpAnyH_done (by kernel_rfl) ?_ _
                  go_wp2_with fail
                  go_roundw
                  case rel => exact ⟨k + 1, (up (up H 1 ((H 1).set xm (l1 ++ [(k : Int)]))) 2 (((up H 1 ((H 1).set xm (l1 ++ [(k : Int)]))) 2).set xm (l2 ++ [(k : Int)]))), (up (up vs 1 ((vs 1).set xm (.slice (some ⟨gg1, 0, none⟩) (l1.length + 1) cap1))) 2 (((up vs 1 ((vs 1).set xm (.slice (some ⟨gg1, 0, none⟩) (l1.length + 1) cap1))) 2).set xm (.slice (some ⟨gg2, 0, none⟩) (l2.length + 1) cap2))), by omega, by go_num, HU0, HU1, HU2, HN2a, HBq⟩
                  case measure => simp [intOf]; omega
                · skip
                  go_simp
                  refine hKK.out _ _ ⟨cell_on hHeld.1 (below_new _ _), cell_on hHeld.2 (below_new _ _)⟩ (fun hHeld3 => ?_)
                  clear hKK KK hHeld
                  try simp only [List.getElem_toArray, List.getElem_cons_zero, List.getElem_cons_succ, Act.put, List.setIfInBounds_toArray, List.set_cons_zero, List.set_cons_succ]
                  refine wpAnyH_ready (rs := [13]) (by kernel_rfl) (by simp) ?_
                  refine AllReadyH.cons rfl (fun KK hKK => ?_) AllReadyH.nil
                  go_simp
                  refine hKK.out _ _ hHeld3 (fun hHeld2 => ?_)
                  clear hKK KK hHeld3
                  try simp only [List.getElem_toArray, List.getElem_cons_zero, List.getElem_cons_succ, Act.put, List.setIfInBounds_toArray, List.set_cons_zero, List.set_cons_succ]
                  refine wpAnyH_ready (rs := [16]) (by kernel_rfl) (by simp) ?_
                  refine AllReadyH.cons rfl (fun KK hKK => ?_) AllReadyH.nil
                  refine step_append_lies _ (by rfl) _ _ _ (by rfl) W.heap.size 3 iI _ 1 8 Tryz.underlying26 hiI zI0 zI1 zI2 rfl (by decide) (.slice la2 l2.length lc2) l2.length (ints l2) (by rfl) HOM2.out ⟨wd2.heap.size, 0, none⟩ 1 1 [.int .i64 k] (by rfl) rfl HNA2.out (by simp [Value.oneCell']) (by decide) (by unfold maxLen; omega) (by omega) (by rw [HSA2.out]; omega) (wd2.heap.size + 1) HSA2.out ?_
                  intro gg2 cap2 v2 hown2 hgw hat2 hlt2
                  have hgrow2 : (wd2.alloc (.cells #[.int .i64 k] 3)).drew.grownBy v2 (Value.ownBlock (.slice la2 l2.length lc2)) := ⟨hgw.os, hgw.tape, hgw.output, hgw.size, hgw.block⟩
                  have f5 := (HNd2.out.h3.fx 2 (by omega)).keep (grown_old2 hgrow2 (HNd2.out.h3.fx 2 (by omega)).lt HNE2.out)
                  have q1 : v2.cell? ⟨s2, xm, none⟩ = some (.slice la2 l2.length lc2) := f5.get HVM2.out
                  have q2 : v2.frozen? ⟨s2, xm, none⟩ = false := f5.frz xm
                  have q3 := (HQd2.out.keep (grown_old2 hgrow2 HQd2.out.lt HNQ2.out)).get (i := 1) rfl
                  have q4 := (HNd2.out.bx.keep (grown_old2 hgrow2 HNd2.out.bx.lt HNB2.out)).get (i := 7) rfl
                  refine hKK.out _ _ ⟨q4, q3⟩ (fun hHeld4 => ?_)
                  have HN2a : Hid (Nk W.heap.size kb ⟨fa, fc, some ⟨gr, go, none⟩, rc, ba, bc, fb, s0, s1, s2⟩ T n (.slice ma n mc) R (up (up H 1 ((H 1).set xm (l1 ++ [(k : Int)]))) 2 (((up H 1 ((H 1).set xm (l1 ++ [(k : Int)]))) 2).set xm (l2 ++ [(k : Int)]))) (up (up vs 1 ((vs 1).set xm (.slice (some ⟨gg1, 0, none⟩) (l1.length + 1) cap1))) 2 (((up vs 1 ((vs 1).set xm (.slice (some ⟨gg1, 0, none⟩) (l1.length + 1) cap1))) 2).set xm (.slice (some ⟨gg2, 0, none⟩) (l2.length + 1) cap2))) (v2.setCell ⟨s2, xm, none⟩ (.slice (some ⟨gg2, 0, none⟩) (l2.length + 1) cap2))) := hide (HNd2.out.add (c := 2) (by omega) HM2.out HVM2.out hown2 (fun k hk hn => grown_old2 hgrow2 hk hn) (by rcases hat2 with h | h; exact .inl h; exact .inr (by omega)))
                  have HQ : Hid (Fx q 63 _ (v2.setCell ⟨s2, xm, none⟩ (.slice (some ⟨gg2, 0, none⟩) (l2.length + 1) cap2))) := hide ((HQd2.out.keep (grown_old2 hgrow2 HQd2.out.lt HNQ2.out)).keep (other_set (fx_ne HQd2.out (HNd2.out.h3.fx 2 (by omega)) (by decide))))
                  have HBq := hide (HBd2.out.trans ((grown_low hgrow2 HHI2.out hbs2).setCell (p := ⟨s2, xm, none⟩) (HNd2.out.h3.lo 2 (by omega)) (.slice (some ⟨gg2, 0, none⟩) (l2.length + 1) cap2)))
                  have q5 := HN2a.out.bx.get (i := 7) rfl
                  have q6 := HQ.out.get (i := 1) rfl
                  clear hKK KK f5 q3 q4 hown2 hgrow2 hgw hat2 hlt2 hHeld2
                  try simp only [List.getElem_toArray, List.getElem_cons_zero, List.getElem_cons_succ, Act.put, List.setIfInBounds_toArray, List.set_cons_zero, List.set_cons_succ]
                  refine wpAnyH_take (i := 17) (v := ?_) rfl (by kernel_rfl) (by kernel_rfl) (by kernel_rfl) (fun _ _ _ h => h) (Or.inl ⟨by rfl, ?_⟩) (by assumption) ?_
                  rotate_left
                  · (intro w hSw; (try dsimp only at hSw); first | (go_simp; done) | (go_simp; with_reducible rfl))
                  try simp only [List.getElem_toArray, List.getElem_cons_zero, List.getElem_cons_succ, Act.put, List.setIfInBounds_toArray, List.set_cons_zero, List.set_cons_succ]
                  refine wpAnyH_ready (rs := [18]) (by kernel_rfl) (by simp) ?_
                  refine AllReadyH.cons rfl (fun KK hKK => ?_) AllReadyH.nil
                  go_simp
                  refine hKK.out _ _ ⟨q5, q6⟩ (fun hHeld5 => ?_)
                  clear hKK KK hHeld4 hHeld5 q1 q2 q5 q6 cm2 cmA2 HNd2 HQd2 HBd2 HOM2 HSA2 HNA2 HNE2 HNQ2 HNB2 HHI2 HM2 HVM2 HA2
                  try simp only [List.getElem_toArray, List.getElem_cons_zero, List.getElem_cons_succ, Act.put, List.setIfInBounds_toArray, List.set_cons_zero, List.set_cons_succ]
                  generalize v2.setCell ⟨s2, xm, none⟩ (.slice (some ⟨gg2, 0, none⟩) (l2.length + 1) cap2) = x2 at *
                  refine wpAnyH_done (by kernel_rfl) ?_ _
                  go_wp2_with fail
                  go_roundw
                  case rel => exact ⟨k + 1, (up (up H 1 ((H 1).set xm (l1 ++ [(k : Int)]))) 2 (((up H 1 ((H 1).set xm (l1 ++ [(k : Int)]))) 2).set xm (l2 ++ [(k : Int)]))), (up (up vs 1 ((vs 1).set xm (.slice (some ⟨gg1, 0, none⟩) (l1.length + 1) cap1))) 2 (((up vs 1 ((vs 1).set xm (.slice (some ⟨gg1, 0, none⟩) (l1.length + 1) cap1))) 2).set xm (.slice (some ⟨gg2, 0, none⟩) (l2.length + 1) cap2))), by omega, by go_num, HU0, HU1, HU2, HN2a, HBq⟩
                  case measure => simp [intOf]; omega
              · skip
                go_simp
                refine hKK.out _ _ ⟨cell_on hHeld.1 (below_new _ _), cell_on hHeld.2 (below_new _ _)⟩ (fun hHeld3 => ?_)
                clear hKK KK hHeld
                try simp only [List.getElem_toArray, List.getElem_cons_zero, List.getElem_cons_succ, Act.put, List.setIfInBounds_toArray, List.set_cons_zero, List.set_cons_succ]
                refine wpAnyH_ready (rs := [13]) (by kernel_rfl) (by simp) ?_
                refine AllReadyH.cons rfl (fun KK hKK => ?_) AllReadyH.nil
                go_simp
                refine hKK.out _ _ hHeld3 (fun hHeld2 => ?_)
                clear hKK KK hHeld3
                try simp only [List.getElem_toArray, List.getElem_cons_zero, List.getElem_cons_succ, Act.put, List.setIfInBounds_toArray, List.set_cons_zero, List.set_cons_succ]
                refine wpAnyH_ready (rs := [16]) (by kernel_rfl) (by simp) ?_
                refine AllReadyH.cons rfl (fun KK hKK => ?_) AllReadyH.nil
                refine step_append_lies _ (by rfl) _ _ _ (by rfl) W.heap.size 3 iI _ 1 8 Tryz.underlying26 hiI zI0 zI1 zI2 rfl (by decide) (.slice la1 l1.length lc1) l1.length (ints l1) (by rfl) HOM1.out ⟨wd1.heap.size, 0, none⟩ 1 1 [.int .i64 k] (by rfl) rfl HNA1.out (by simp [Value.oneCell']) (by decide) (by unfold maxLen; omega) (by omega) (by rw [HSA1.out]; omega) (wd1.heap.size + 1) HSA1.out ?_
                intro gg1 cap1 v1 hown1 hgw hat1 hlt1
                have hgrow1 : (wd1.alloc (.cells #[.int .i64 k] 3)).drew.grownBy v1 (Value.ownBlock (.slice la1 l1.length lc1)) := ⟨hgw.os, hgw.tape, hgw.output, hgw.size, hgw.block⟩
                have f5 := (HNd1.out.h3.fx 1 (by omega)).keep (grown_old2 hgrow1 (HNd1.out.h3.fx 1 (by omega)).lt HNE1.out)
                have q1 : v1.cell? ⟨s1, xm, none⟩ = some (.slice la1 l1.length lc1) := f5.get HVM1.out
                have q2 : v1.frozen? ⟨s1, xm, none⟩ = false := f5.frz xm
                have q3 := (HQd1.out.keep (grown_old2 hgrow1 HQd1.out.lt HNQ1.out)).get (i := 1) rfl
                have q4 := (HNd1.out.bx.keep (grown_old2 hgrow1 HNd1.out.bx.lt HNB1.out)).get (i := 6) rfl
                refine hKK.out _ _ ⟨q4, q3⟩ (fun hHeld4 => ?_)
                have HN1a : Hid (Nk W.heap.size kb ⟨fa, fc, some ⟨gr, go, none⟩, rc, ba, bc, fb, s0, s1, s2⟩ T n (.slice ma n mc) R (up H 1 ((H 1).set xm (l1 ++ [(k : Int)]))) (up vs 1 ((vs 1).set xm (.slice (some ⟨gg1, 0, none⟩) (l1.length + 1) cap1))) (v1.setCell ⟨s1, xm, none⟩ (.slice (some ⟨gg1, 0, none⟩) (l1.length + 1) cap1))) := hide (HNd1.out.add (c := 1) (by omega) HM1.out HVM1.out hown1 (fun k hk hn => grown_old2 hgrow1 hk hn) (by rcases hat1 with h | h; exact .inl h; exact .inr (by omega)))
                have HQ : Hid (Fx q 63 _ (v1.setCell ⟨s1, xm, none⟩ (.slice (some ⟨gg1, 0, none⟩) (l1.length + 1) cap1))) := hide ((HQd1.out.keep (grown_old2 hgrow1 HQd1.out.lt HNQ1.out)).keep (other_set (fx_ne HQd1.out (HNd1.out.h3.fx 1 (by omega)) (by decide))))
                have HBq := hide (HBd1.out.trans ((grown_low hgrow1 HHI1.out hbs1).setCell (p := ⟨s1, xm, none⟩) (HNd1.out.h3.lo 1 (by omega)) (.slice (some ⟨gg1, 0, none⟩) (l1.length + 1) cap1)))
                have q5 := HN1a.out.bx.get (i := 6) rfl
                have q6 := HQ.out.get (i := 1) rfl
                clear hKK KK f5 q3 q4 hown1 hgrow1 hgw hat1 hlt1 hHeld2
                try simp only [List.getElem_toArray, List.getElem_cons_zero, List.getElem_cons_succ, Act.put, List.setIfInBounds_toArray, List.set_cons_zero, List.set_cons_succ]
                refine wpAnyH_take (i := 17) (v := ?_) rfl (by kernel_rfl) (by kernel_rfl) (by kernel_rfl) (fun _ _ _ h => h) (Or.inl ⟨by rfl, ?_⟩) (by assumption) ?_
                rotate_left
                · (intro w hSw; (try dsimp only at hSw); first | (go_simp; done) | (go_simp; with_reducible rfl))
                try simp only [List.getElem_toArray, List.getElem_cons_zero, List.getElem_cons_succ, Act.put, List.setIfInBounds_toArray, List.set_cons_zero, List.set_cons_succ]
                refine wpAnyH_ready (rs := [18]) (by kernel_rfl) (by simp) ?_
                refine AllReadyH.cons rfl (fun KK hKK => ?_) AllReadyH.nil
                go_simp
                refine hKK.out _ _ ⟨q5, q6⟩ (fun hHeld5 => ?_)
                clear hKK KK hHeld4 hHeld5 q1 q2 q5 q6 cm1 cmA1 HNd1 HQd1 HBd1 HOM1 HSA1 HNA1 HNE1 HNQ1 HNB1 HHI1 HM1 HVM1 HA1
                try simp only [List.getElem_toArray, List.getElem_cons_zero, List.getElem_cons_succ, Act.put, List.setIfInBounds_toArray, List.set_cons_zero, List.set_cons_succ]
                generalize v1.setCell ⟨s1, xm, none⟩ (.slice (some ⟨gg1, 0, none⟩) (l1.length + 1) cap1) = x1 at *
                refine wpAnyH_done (by kernel_rfl) ?_ _
                have z0 := HQ.out.get (i := 0) rfl
                have hd2 := (Below.refl x1.heap.size x1).drew
                have HNd2 := hide (HN1a.out.go hd2)
                have HQd2 := hide (HQ.out.keep (hd2.block _ HQ.out.lt))
                have HBd2 := hide (HBq.out.trans (hd2.mono HBq.out.size))
                have kc2 := HN1a.out.bx.get (i := 7) rfl
                have y2 := HQ.out.get (i := 1) rfl
                go_upto_region 14 with fail
                refine wp_region_held_drew (S := fun X : World => X.cell? ⟨kb, 7, none⟩ = some (.slice (some ⟨s2, 0, none⟩) n n) ∧ X.cell? ⟨q, 1, none⟩ = some (.int .i64 xm)) (by kernel_rfl) ⟨kc2, y2⟩ (fun hHeld => ?_)
                clear HN1a HQ HBq kc2 y2 hd2 z0
                generalize x1.drew = wd2 at *
                obtain ⟨l2, la2, lc2, hm2, hv2, cm2, om2⟩ := HNd2.out.h3.at (c := 2) (by omega) hxn
                have HG2b : Hid (Grp T kA n k ((up H 1 ((H 1).set xm (l1 ++ [(k : Int)]))) 2)) := HG2
                have hml2 := HG2b.out.row_le hm2
                have HU2 : Hid (Grp T kA n (k + 1) (((up H 1 ((H 1).set xm (l1 ++ [(k : Int)]))) 2).set xm (l2 ++ [(k : Int)]))) := hide (by
                  have := HG2b.out.add HRr.out HP2.out HHM.out hxn
                  rw [List.getD_eq_getElem?_getD, hm2] at this
                  exact this)
                have hA2 := below_new wd2 (.cells #[.int .i64 k] 3)
                have hbs2 : W.heap.size ≤ wd2.heap.size := HBd2.out.size
                have HOM2 := hide (owns_keep om2 fun g hg => hA2.block g (owns_lt om2 hg))
                have cmA2 := cell_on cm2 hA2
                have HA2 := hide hA2
                have HSA2 : Hid ((wd2.alloc (.cells #[.int .i64 k] 3)).heap.size = wd2.heap.size + 1) := hide (by simp)
                have HNA2 : Hid (∀ j u, [Value.int .i64 k][j]? = some u → (wd2.alloc (.cells #[.int .i64 k] 3)).cell? ((⟨wd2.heap.size, 0, none⟩ : Addr).add j) = some u) := hide (World.news_of_block (cs := [Value.int .i64 k].toArray) (t := 3) (fr := (0, 0)) (heap_alloc_new wd2 (.cells #[.int .i64 k] 3)))
                have HNE2 := hide (own_fx om2 (HNd2.out.h3.fx 2 (by omega)) (by decide))
                have HNQ2 := hide (own_fx om2 HQd2.out (by decide))
                have HNB2 := hide (own_fx om2 HNd2.out.bx (by decide))
                have HHI2 : Hid (∀ g, Value.ownBlock (.slice la2 l2.length lc2) = some g → W.heap.size ≤ g) := hide fun g e => (om2.lt g e).1
                have HM2 := hide hm2
                have HVM2 := hide hv2
                have e2 : sbA ⟨fa, fc, some ⟨gr, go, none⟩, rc, ba, bc, fb, s0, s1, s2⟩ 2 = s2 := rfl
                rw [e2] at cm2 cmA2
                clear hA2 hm2 hv2 om2 e2
                refine wpAnyH_take (i := 0) (v := ?_) rfl (by kernel_rfl) (by kernel_rfl) (by kernel_rfl) (fun _ _ _ h => h) (Or.inl ⟨by rfl, ?_⟩) (by assumption) ?_
                rotate_left
                · (intro w hSw; (try dsimp only at hSw); first | (go_simp; done) | (go_simp; with_reducible rfl))
                try simp only [List.getElem_toArray, List.getElem_cons_zero, Act.put, List.setIfInBounds_toArray, List.set_cons_zero, List.set_cons_succ]
                refine wpAnyH_take (i := 1) (v := ?_) rfl (by kernel_rfl) (by kernel_rfl) (by kernel_rfl) (fun _ _ _ h => h) (Or.inl ⟨by rfl, ?_⟩) (by assumption) ?_
                rotate_left
                · (intro w hSw; (try dsimp only at hSw); first | (go_simp; done) | (go_simp; with_reducible rfl))
                try simp only [List.getElem_toArray, List.getElem_cons_zero, List.getElem_cons_succ, Act.put, List.setIfInBounds_toArray, List.set_cons_zero, List.set_cons_succ]
                refine wpAnyH_take (i := 2) (v := ?_) rfl (by kernel_rfl) (by kernel_rfl) (by kernel_rfl) (fun _ _ _ h => h) (Or.inl ⟨by rfl, ?_⟩) (by assumption) ?_
                rotate_left
                · (intro w hSw; (try dsimp only at hSw); first | (go_simp; done) | (go_simp; with_reducible rfl))
                try simp only [List.getElem_toArray, List.getElem_cons_zero, List.getElem_cons_succ, Act.put, List.setIfInBounds_toArray, List.set_cons_zero, List.set_cons_succ]
                refine wpAnyH_take (i := 3) (v := ?_) rfl (by kernel_rfl) (by kernel_rfl) (by kernel_rfl) (fun _ _ _ h => h) (Or.inl ⟨by rfl, ?_⟩) (by assumption) ?_
                rotate_left
                · (intro w hSw; (try dsimp only at hSw); first | (go_simp; done) | (go_simp; with_reducible rfl))
                try simp only [List.getElem_toArray, List.getElem_cons_zero, List.getElem_cons_succ, Act.put, List.setIfInBounds_toArray, List.set_cons_zero, List.set_cons_succ]
                refine wpAnyH_take (i := 4) (v := ?_) rfl (by kernel_rfl) (by kernel_rfl) (by kernel_rfl) (fun _ _ _ h => h) (Or.inl ⟨by rfl, ?_⟩) (by assumption) ?_
                rotate_left
                · (intro w hSw; (try dsimp only at hSw); first | (go_simp; done) | (go_simp; with_reducible rfl))
                try simp only [List.getElem_toArray, List.getElem_cons_zero, List.getElem_cons_succ, Act.put, List.setIfInBounds_toArray, List.set_cons_zero, List.set_cons_succ]
                refine wpAnyH_take (i := 5) (v := ?_) rfl (by kernel_rfl) (by kernel_rfl) (by kernel_rfl) (fun _ _ _ h => h) (Or.inl ⟨by rfl, ?_⟩) (by assumption) ?_
                rotate_left
                · (intro w hSw; (try dsimp only at hSw); first | (go_simp; done) | (go_simp; with_reducible rfl))
                try simp only [List.getElem_toArray, List.getElem_cons_zero, List.getElem_cons_succ, Act.put, List.setIfInBounds_toArray, List.set_cons_zero, List.set_cons_succ]
                refine wpAnyH_take (i := 6) (v := ?_) rfl (by kernel_rfl) (by kernel_rfl) (by kernel_rfl) (fun _ _ _ h => h) (Or.inl ⟨by rfl, ?_⟩) (by assumption) ?_
                rotate_left
                · (intro w hSw; (try dsimp only at hSw); first | (go_simp; done) | (go_simp; with_reducible rfl))
                try simp only [List.getElem_toArray, List.getElem_cons_zero, List.getElem_cons_succ, Act.put, List.setIfInBounds_toArray, List.set_cons_zero, List.set_cons_succ]
                refine wpAnyH_take (i := 7) (v := ?_) rfl (by kernel_rfl) (by kernel_rfl) (by kernel_rfl) (fun _ _ _ h => h) (Or.inl ⟨by rfl, ?_⟩) (by assumption) ?_
                rotate_left
                · (intro w hSw; (try dsimp only at hSw); first | (go_simp; done) | (go_simp; with_reducible rfl))
                try simp only [List.getElem_toArray, List.getElem_cons_zero, List.getElem_cons_succ, Act.put, List.setIfInBounds_toArray, List.set_cons_zero, List.set_cons_succ]
                refine wpAnyH_take (i := 8) (v := ?_) rfl (by kernel_rfl) (by kernel_rfl) (by kernel_rfl) (fun _ _ _ h => h) (Or.inl ⟨by rfl, ?_⟩) (by assumption) ?_
                rotate_left
                · (intro w hSw; (try dsimp only at hSw); first | (go_simp; done) | (go_simp; with_reducible rfl))
                try simp only [List.getElem_toArray, List.getElem_cons_zero, List.getElem_cons_succ, Act.put, List.setIfInBounds_toArray, List.set_cons_zero, List.set_cons_succ]
                refine wpAnyH_take (i := 9) (v := ?_) rfl (by kernel_rfl) (by kernel_rfl) (by kernel_rfl) (fun _ _ _ h => h) (Or.inl ⟨by rfl, ?_⟩) (by assumption) ?_
                rotate_left
                · (intro w hSw; (try dsimp only at hSw); first | (go_simp; done) | (go_simp; with_reducible rfl))
                try simp only [List.getElem_toArray, List.getElem_cons_zero, List.getElem_cons_succ, Act.put, List.setIfInBounds_toArray, List.set_cons_zero, List.set_cons_succ]
                refine wpAnyH_take (i := 10) (v := ?_) rfl (by kernel_rfl) (by kernel_rfl) (by kernel_rfl) (fun _ _ _ h => h) (Or.inl ⟨by rfl, ?_⟩) (by assumption) ?_
                rotate_left
                · (intro w hSw; (try dsimp only at hSw); first | (go_simp; done) | (go_simp; with_reducible rfl))
                try simp only [List.getElem_toArray, List.getElem_cons_zero, List.getElem_cons_succ, Act.put, List.setIfInBounds_toArray, List.set_cons_zero, List.set_cons_succ]
                refine wpAnyH_take (i := 11) (v := ?_) rfl (by kernel_rfl) (by kernel_rfl) (by kernel_rfl) (fun _ _ _ h => h) (Or.inl ⟨by rfl, ?_⟩) (by assumption) ?_
                rotate_left
                · (intro w hSw; (try dsimp only at hSw); first | (go_simp; done) | (go_simp; with_reducible rfl))
                try simp only [List.getElem_toArray, List.getElem_cons_zero, List.getElem_cons_succ, Act.put, List.setIfInBounds_toArray, List.set_cons_zero, List.set_cons_succ]
                refine wpAnyH_take (i := 12) (v := ?_) rfl (by kernel_rfl) (by kernel_rfl) (by kernel_rfl) (fun _ _ _ h => h) (Or.inl ⟨by rfl, ?_⟩) (by assumption) ?_
                rotate_left
                · (intro w hSw; (try dsimp only at hSw); first | (go_simp; done) | (go_simp; with_reducible rfl))
                try simp only [List.getElem_toArray, List.getElem_cons_zero, List.getElem_cons_succ, Act.put, List.setIfInBounds_toArray, List.set_cons_zero, List.set_cons_succ]
                refine wpAnyH_take (i := 14) (v := ?_) rfl (by kernel_rfl) (by kernel_rfl) (by kernel_rfl) (fun _ _ _ h => h) (Or.inl ⟨by rfl, ?_⟩) (by assumption) ?_
                rotate_left
                · (intro w hSw; (try dsimp only at hSw); first | (go_simp; done) | (go_simp; with_reducible rfl))
                try simp only [List.getElem_toArray, List.getElem_cons_zero, List.getElem_cons_succ, Act.put, List.setIfInBounds_toArray, List.set_cons_zero, List.set_cons_succ]
                refine wpAnyH_ready (rs := [13, 15]) (by kernel_rfl) (by simp) ?_
                refine AllReadyH.cons rfl (fun KK hKK => ?_) (AllReadyH.cons rfl (fun KK hKK => ?_) AllReadyH.nil)
                · skip
                  go_simp
                  refine hKK.out _ _ hHeld (fun hHeld2 => ?_)
                  clear hKK KK hHeld
                  try simp only [List.getElem_toArray, List.getElem_cons_zero, List.getElem_cons_succ, Act.put, List.setIfInBounds_toArray, List.set_cons_zero, List.set_cons_succ]
                  refine wpAnyH_ready (rs := [15]) (by kernel_rfl) (by simp) ?_
                  refine AllReadyH.cons rfl (fun KK hKK => ?_) AllReadyH.nil
                  go_simp
                  refine hKK.out _ _ ⟨cell_on hHeld2.1 (below_new _ _), cell_on hHeld2.2 (below_new _ _)⟩ (fun hHeld3 => ?_)
                  clear hKK KK hHeld2
                  try simp only [List.getElem_toArray, List.getElem_cons_zero, List.getElem_cons_succ, Act.put, List.setIfInBounds_toArray, List.set_cons_zero, List.set_cons_succ]
                  refine wpAnyH_ready (rs := [16]) (by kernel_rfl) (by simp) ?_
                  refine AllReadyH.cons rfl (fun KK hKK => ?_) AllReadyH.nil
                  refine step_append_lies _ (by rfl) _ _ _ (by rfl) W.heap.size 3 iI _ 1 8 Tryz.underlying26 hiI zI0 zI1 zI2 rfl (by decide) (.slice la2 l2.length lc2) l2.length (ints l2) (by rfl) HOM2.out ⟨wd2.heap.size, 0, none⟩ 1 1 [.int .i64 k] (by rfl) rfl HNA2.out (by simp [Value.oneCell']) (by decide) (by unfold maxLen; omega) (by omega) (by rw [HSA2.out]; omega) (wd2.heap.size + 1) HSA2.out ?_
                  intro gg2 cap2 v2 hown2 hgw hat2 hlt2
                  have hgrow2 : (wd2.alloc (.cells #[.int .i64 k] 3)).drew.grownBy v2 (Value.ownBlock (.slice la2 l2.length lc2)) := ⟨hgw.os, hgw.tape, hgw.output, hgw.size, hgw.block⟩
                  have f5 := (HNd2.out.h3.fx 2 (by omega)).keep (grown_old2 hgrow2 (HNd2.out.h3.fx 2 (by omega)).lt HNE2.out)
                  have q1 : v2.cell? ⟨s2, xm, none⟩ = some (.slice la2 l2.length lc2) := f5.get HVM2.out
                  have q2 : v2.frozen? ⟨s2, xm, none⟩ = false := f5.frz xm
                  have q3 := (HQd2.out.keep (grown_old2 hgrow2 HQd2.out.lt HNQ2.out)).get (i := 1) rfl
                  have q4 := (HNd2.out.bx.keep (grown_old2 hgrow2 HNd2.out.bx.lt HNB2.out)).get (i := 7) rfl
                  refine hKK.out _ _ ⟨q4, q3⟩ (fun hHeld4 => ?_)
                  have HN2a : Hid (Nk W.heap.size kb ⟨fa, fc, some ⟨gr, go, none⟩, rc, ba, bc, fb, s0, s1, s2⟩ T n (.slice ma n mc) R (up (up H 1 ((H 1).set xm (l1 ++ [(k : Int)]))) 2 (((up H 1 ((H 1).set xm (l1 ++ [(k : Int)]))) 2).set xm (l2 ++ [(k : Int)]))) (up (up vs 1 ((vs 1).set xm (.slice (some ⟨gg1, 0, none⟩) (l1.length + 1) cap1))) 2 (((up vs 1 ((vs 1).set xm (.slice (some ⟨gg1, 0, none⟩) (l1.length + 1) cap1))) 2).set xm (.slice (some ⟨gg2, 0, none⟩) (l2.length + 1) cap2))) (v2.setCell ⟨s2, xm, none⟩ (.slice (some ⟨gg2, 0, none⟩) (l2.length + 1) cap2))) := hide (HNd2.out.add (c := 2) (by omega) HM2.out HVM2.out hown2 (fun k hk hn => grown_old2 hgrow2 hk hn) (by rcases hat2 with h | h; exact .inl h; exact .inr (by omega)))
                  have HQ : Hid (Fx q 63 _ (v2.setCell ⟨s2, xm, none⟩ (.slice (some ⟨gg2, 0, none⟩) (l2.length + 1) cap2))) := hide ((HQd2.out.keep (grown_old2 hgrow2 HQd2.out.lt HNQ2.out)).keep (other_set (fx_ne HQd2.out (HNd2.out.h3.fx 2 (by omega)) (by decide))))
                  have HBq := hide (HBd2.out.trans ((grown_low hgrow2 HHI2.out hbs2).setCell (p := ⟨s2, xm, none⟩) (HNd2.out.h3.lo 2 (by omega)) (.slice (some ⟨gg2, 0, none⟩) (l2.length + 1) cap2)))
                  have q5 := HN2a.out.bx.get (i := 7) rfl
                  have q6 := HQ.out.get (i := 1) rfl
                  clear hKK KK f5 q3 q4 hown2 hgrow2 hgw hat2 hlt2 hHeld3
                  try simp only [List.getElem_toArray, List.getElem_cons_zero, List.getElem_cons_succ, Act.put, List.setIfInBounds_toArray, List.set_cons_zero, List.set_cons_succ]
                  refine wpAnyH_take (i := 17) (v := ?_) rfl (by kernel_rfl) (by kernel_rfl) (by kernel_rfl) (fun _ _ _ h => h) (Or.inl ⟨by rfl, ?_⟩) (by assumption) ?_
                  rotate_left
                  · (intro w hSw; (try dsimp only at hSw); first | (go_simp; done) | (go_simp; with_reducible rfl))
                  try simp only [List.getElem_toArray, List.getElem_cons_zero, List.getElem_cons_succ, Act.put, List.setIfInBounds_toArray, List.set_cons_zero, List.set_cons_succ]
                  refine wpAnyH_ready (rs := [18]) (by kernel_rfl) (by simp) ?_
                  refine AllReadyH.cons rfl (fun KK hKK => ?_) AllReadyH.nil
                  go_simp
                  refine hKK.out _ _ ⟨q5, q6⟩ (fun hHeld5 => ?_)
                  clear hKK KK hHeld4 hHeld5 q1 q2 q5 q6 cm2 cmA2 HNd2 HQd2 HBd2 HOM2 HSA2 HNA2 HNE2 HNQ2 HNB2 HHI2 HM2 HVM2 HA2
                  try simp only [List.getElem_toArray, List.getElem_cons_zero, List.getElem_cons_succ, Act.put, List.setIfInBounds_toArray, List.set_cons_zero, List.set_cons_succ]
                  generalize v2.setCell ⟨s2, xm, none⟩ (.slice (some ⟨gg2, 0, none⟩) (l2.length + 1) cap2) = x2 at *
                  refine wpAnyH_done (by kernel_rfl) ?_ _
                  go_wp2_with fail
                  go_roundw
                  case rel => exact ⟨k + 1, (up (up H 1 ((H 1).set xm (l1 ++ [(k : Int)]))) 2 (((up H 1 ((H 1).set xm (l1 ++ [(k : Int)]))) 2).set xm (l2 ++ [(k : Int)]))), (up (up vs 1 ((vs 1).set xm (.slice (some ⟨gg1, 0, none⟩) (l1.length + 1) cap1))) 2 (((up vs 1 ((vs 1).set xm (.slice (some ⟨gg1, 0, none⟩) (l1.length + 1) cap1))) 2).set xm (.slice (some ⟨gg2, 0, none⟩) (l2.length + 1) cap2))), by omega, by go_num, HU0, HU1, HU2, HN2a, HBq⟩
                  case measure => simp [intOf]; omega
                · skip
                  go_simp
                  refine hKK.out _ _ ⟨cell_on hHeld.1 (below_new _ _), cell_on hHeld.2 (below_new _ _)⟩ (fun hHeld3 => ?_)
                  clear hKK KK hHeld
                  try simp only [List.getElem_toArray, List.getElem_cons_zero, List.getElem_cons_succ, Act.put, List.setIfInBounds_toArray, List.set_cons_zero, List.set_cons_succ]
                  refine wpAnyH_ready (rs := [13]) (by kernel_rfl) (by simp) ?_
                  refine AllReadyH.cons rfl (fun KK hKK => ?_) AllReadyH.nil
                  go_simp
                  refine hKK.out _ _ hHeld3 (fun hHeld2 => ?_)
                  clear hKK KK hHeld3
                  try simp only [List.getElem_toArray, List.getElem_cons_zero, List.getElem_cons_succ, Act.put, List.setIfInBounds_toArray, List.set_cons_zero, List.set_cons_succ]
                  refine wpAnyH_ready (rs := [16]) (by kernel_rfl) (by simp) ?_
                  refine AllReadyH.cons rfl (fun KK hKK => ?_) AllReadyH.nil
                  refine step_append_lies _ (by rfl) _ _ _ (by rfl) W.heap.size 3 iI _ 1 8 Tryz.underlying26 hiI zI0 zI1 zI2 rfl (by decide) (.slice la2 l2.length lc2) l2.length (ints l2) (by rfl) HOM2.out ⟨wd2.heap.size, 0, none⟩ 1 1 [.int .i64 k] (by rfl) rfl HNA2.out (by simp [Value.oneCell']) (by decide) (by unfold maxLen; omega) (by omega) (by rw [HSA2.out]; omega) (wd2.heap.size + 1) HSA2.out ?_
                  intro gg2 cap2 v2 hown2 hgw hat2 hlt2
                  have hgrow2 : (wd2.alloc (.cells #[.int .i64 k] 3)).drew.grownBy v2 (Value.ownBlock (.slice la2 l2.length lc2)) := ⟨hgw.os, hgw.tape, hgw.output, hgw.size, hgw.block⟩
                  have f5 := (HNd2.out.h3.fx 2 (by omega)).keep (grown_old2 hgrow2 (HNd2.out.h3.fx 2 (by omega)).lt HNE2.out)
                  have q1 : v2.cell? ⟨s2, xm, none⟩ = some (.slice la2 l2.length lc2) := f5.get HVM2.out
                  have q2 : v2.frozen? ⟨s2, xm, none⟩ = false := f5.frz xm
                  have q3 := (HQd2.out.keep (grown_old2 hgrow2 HQd2.out.lt HNQ2.out)).get (i := 1) rfl
                  have q4 := (HNd2.out.bx.keep (grown_old2 hgrow2 HNd2.out.bx.lt HNB2.out)).get (i := 7) rfl
                  refine hKK.out _ _ ⟨q4, q3⟩ (fun hHeld4 => ?_)
                  have HN2a : Hid (Nk W.heap.size kb ⟨fa, fc, some ⟨gr, go, none⟩, rc, ba, bc, fb, s0, s1, s2⟩ T n (.slice ma n mc) R (up (up H 1 ((H 1).set xm (l1 ++ [(k : Int)]))) 2 (((up H 1 ((H 1).set xm (l1 ++ [(k : Int)]))) 2).set xm (l2 ++ [(k : Int)]))) (up (up vs 1 ((vs 1).set xm (.slice (some ⟨gg1, 0, none⟩) (l1.length + 1) cap1))) 2 (((up vs 1 ((vs 1).set xm (.slice (some ⟨gg1, 0, none⟩) (l1.length + 1) cap1))) 2).set xm (.slice (some ⟨gg2, 0, none⟩) (l2.length + 1) cap2))) (v2.setCell ⟨s2, xm, none⟩ (.slice (some ⟨gg2, 0, none⟩) (l2.length + 1) cap2))) := hide (HNd2.out.add (c := 2) (by omega) HM2.out HVM2.out hown2 (fun k hk hn => grown_old2 hgrow2 hk hn) (by rcases hat2 with h | h; exact .inl h; exact .inr (by omega)))
                  have HQ : Hid (Fx q 63 _ (v2.setCell ⟨s2, xm, none⟩ (.slice (some ⟨gg2, 0, none⟩) (l2.length + 1) cap2))) := hide ((HQd2.out.keep (grown_old2 hgrow2 HQd2.out.lt HNQ2.out)).keep (other_set (fx_ne HQd2.out (HNd2.out.h3.fx 2 (by omega)) (by decide))))
                  have HBq := hide (HBd2.out.trans ((grown_low hgrow2 HHI2.out hbs2).setCell (p := ⟨s2, xm, none⟩) (HNd2.out.h3.lo 2 (by omega)) (.slice (some ⟨gg2, 0, none⟩) (l2.length + 1) cap2)))
                  have q5 := HN2a.out.bx.get (i := 7) rfl
                  have q6 := HQ.out.get (i := 1) rfl
                  clear hKK KK f5 q3 q4 hown2 hgrow2 hgw hat2 hlt2 hHeld2
                  try simp only [List.getElem_toArray, List.getElem_cons_zero, List.getElem_cons_succ, Act.put, List.setIfInBounds_toArray, List.set_cons_zero, List.set_cons_succ]
                  refine wpAnyH_take (i := 17) (v := ?_) rfl (by kernel_rfl) (by kernel_rfl) (by kernel_rfl) (fun _ _ _ h => h) (Or.inl ⟨by rfl, ?_⟩) (by assumption) ?_
                  rotate_left
                  · (intro w hSw; (try dsimp only at hSw); first | (go_simp; done) | (go_simp; with_reducible rfl))
                  try simp only [List.getElem_toArray, List.getElem_cons_zero, List.getElem_cons_succ, Act.put, List.setIfInBounds_toArray, List.set_cons_zero, List.set_cons_succ]
                  refine wpAnyH_ready (rs := [18]) (by kernel_rfl) (by simp) ?_
                  refine AllReadyH.cons rfl (fun KK hKK => ?_) AllReadyH.nil
                  go_simp
                  refine hKK.out _ _ ⟨q5, q6⟩ (fun hHeld5 => ?_)
                  clear hKK KK hHeld4 hHeld5 q1 q2 q5 q6 cm2 cmA2 HNd2 HQd2 HBd2 HOM2 HSA2 HNA2 HNE2 HNQ2 HNB2 HHI2 HM2 HVM2 HA2
                  try simp only [List.getElem_toArray, List.getElem_cons_zero, List.getElem_cons_succ, Act.put, List.setIfInBounds_toArray, List.set_cons_zero, List.set_cons_succ]
                  generalize v2.setCell ⟨s2, xm, none⟩ (.slice (some ⟨gg2, 0, none⟩) (l2.length + 1) cap2) = x2 at *
                  refine wpAnyH_done (by kernel_rfl) ?_ _
                  go_wp2_with fail
                  go_roundw
                  case rel => exact ⟨k + 1, (up (up H 1 ((H 1).set xm (l1 ++ [(k : Int)]))) 2 (((up H 1 ((H 1).set xm (l1 ++ [(k : Int)]))) 2).set xm (l2 ++ [(k : Int)]))), (up (up vs 1 ((vs 1).set xm (.slice (some ⟨gg1, 0, none⟩) (l1.length + 1) cap1))) 2 (((up vs 1 ((vs 1).set xm (.slice (some ⟨gg1, 0, none⟩) (l1.length + 1) cap1))) 2).set xm (.slice (some ⟨gg2, 0, none⟩) (l2.length + 1) cap2))), by omega, by go_num, HU0, HU1, HU2, HN2a, HBq⟩
                  case measure => simp [intOf]; omega
            · have HP0 : Hid (kS r = false) := hide (by unfold kS; rw [hk3]; rfl)
              have HP1 : Hid (kT r = false) := hide (by unfold kT; rw [hk3]; rfl)
              have HP2 : Hid (kA r = true) := hide rfl
              rw [hk3] at x0 HNq HBq HQ
              clear hk3
              go_upto_region 10 with fail
              generalize wr.alloc (.cells #[.int .i64 3, .int .i64 xm, .slice bd r.body.length bp] 63) = wq at *
              generalize hq : wr.heap.size = q at *
              clear x0 x1 x2
              have z0 := HQ.out.get (i := 0) rfl
              have HU0 := hide (HG0.out.skip HRr.out HP0.out)
              have HU1 := hide (HG1.out.skip HRr.out HP1.out)
              have hd2 := (Below.refl wq.heap.size wq).drew
              have HNd2 := hide (HNq.out.go hd2)
              have HQd2 := hide (HQ.out.keep (hd2.block _ HQ.out.lt))
              have HBd2 := hide (HBq.out.trans (hd2.mono HBq.out.size))
              have kc2 := HNq.out.bx.get (i := 7) rfl
              have y2 := HQ.out.get (i := 1) rfl
              go_upto_region 14 with fail
              refine wp_region_held_drew (S := fun X : World => X.cell? ⟨kb, 7, none⟩ = some (.slice (some ⟨s2, 0, none⟩) n n) ∧ X.cell? ⟨q, 1, none⟩ = some (.int .i64 xm)) (by kernel_rfl) ⟨kc2, y2⟩ (fun hHeld => ?_)
              clear HNq HQ HBq kc2 y2 hd2 z0
              generalize wq.drew = wd2 at *
              obtain ⟨l2, la2, lc2, hm2, hv2, cm2, om2⟩ := HNd2.out.h3.at (c := 2) (by omega) hxn
              have HG2b : Hid (Grp T kA n k (H 2)) := HG2
              have hml2 := HG2b.out.row_le hm2
              have HU2 : Hid (Grp T kA n (k + 1) ((H 2).set xm (l2 ++ [(k : Int)]))) := hide (by
                have := HG2b.out.add HRr.out HP2.out HHM.out hxn
                rw [List.getD_eq_getElem?_getD, hm2] at this
                exact this)
              have hA2 := below_new wd2 (.cells #[.int .i64 k] 3)
              have hbs2 : W.heap.size ≤ wd2.heap.size := HBd2.out.size
              have HOM2 := hide (owns_keep om2 fun g hg => hA2.block g (owns_lt om2 hg))
              have cmA2 := cell_on cm2 hA2
              have HA2 := hide hA2
              have HSA2 : Hid ((wd2.alloc (.cells #[.int .i64 k] 3)).heap.size = wd2.heap.size + 1) := hide (by simp)
              have HNA2 : Hid (∀ j u, [Value.int .i64 k][j]? = some u → (wd2.alloc (.cells #[.int .i64 k] 3)).cell? ((⟨wd2.heap.size, 0, none⟩ : Addr).add j) = some u) := hide (World.news_of_block (cs := [Value.int .i64 k].toArray) (t := 3) (fr := (0, 0)) (heap_alloc_new wd2 (.cells #[.int .i64 k] 3)))
              have HNE2 := hide (own_fx om2 (HNd2.out.h3.fx 2 (by omega)) (by decide))
              have HNQ2 := hide (own_fx om2 HQd2.out (by decide))
              have HNB2 := hide (own_fx om2 HNd2.out.bx (by decide))
              have HHI2 : Hid (∀ g, Value.ownBlock (.slice la2 l2.length lc2) = some g → W.heap.size ≤ g) := hide fun g e => (om2.lt g e).1
              have HM2 := hide hm2
              have HVM2 := hide hv2
              have e2 : sbA ⟨fa, fc, some ⟨gr, go, none⟩, rc, ba, bc, fb, s0, s1, s2⟩ 2 = s2 := rfl
              rw [e2] at cm2 cmA2
              clear hA2 hm2 hv2 om2 e2
              refine wpAnyH_take (i := 0) (v := ?_) rfl (by kernel_rfl) (by kernel_rfl) (by kernel_rfl) (fun _ _ _ h => h) (Or.inl ⟨by rfl, ?_⟩) (by assumption) ?_
              rotate_left
              · (intro w hSw; (try dsimp only at hSw); first | (go_simp; done) | (go_simp; with_reducible rfl))
              try simp only [List.getElem_toArray, List.getElem_cons_zero, Act.put, List.setIfInBounds_toArray, List.set_cons_zero, List.set_cons_succ]
              refine wpAnyH_take (i := 1) (v := ?_) rfl (by kernel_rfl) (by kernel_rfl) (by kernel_rfl) (fun _ _ _ h => h) (Or.inl ⟨by rfl, ?_⟩) (by assumption) ?_
              rotate_left
              · (intro w hSw; (try dsimp only at hSw); first | (go_simp; done) | (go_simp; with_reducible rfl))
              try simp only [List.getElem_toArray, List.getElem_cons_zero, List.getElem_cons_succ, Act.put, List.setIfInBounds_toArray, List.set_cons_zero, List.set_cons_succ]
              refine wpAnyH_take (i := 2) (v := ?_) rfl (by kernel_rfl) (by kernel_rfl) (by kernel_rfl) (fun _ _ _ h => h) (Or.inl ⟨by rfl, ?_⟩) (by assumption) ?_
              rotate_left
              · (intro w hSw; (try dsimp only at hSw); first | (go_simp; done) | (go_simp; with_reducible rfl))
              try simp only [List.getElem_toArray, List.getElem_cons_zero, List.getElem_cons_succ, Act.put, List.setIfInBounds_toArray, List.set_cons_zero, List.set_cons_succ]
              refine wpAnyH_take (i := 3) (v := ?_) rfl (by kernel_rfl) (by kernel_rfl) (by kernel_rfl) (fun _ _ _ h => h) (Or.inl ⟨by rfl, ?_⟩) (by assumption) ?_
              rotate_left
              · (intro w hSw; (try dsimp only at hSw); first | (go_simp; done) | (go_simp; with_reducible rfl))
              try simp only [List.getElem_toArray, List.getElem_cons_zero, List.getElem_cons_succ, Act.put, List.setIfInBounds_toArray, List.set_cons_zero, List.set_cons_succ]
              refine wpAnyH_take (i := 4) (v := ?_) rfl (by kernel_rfl) (by kernel_rfl) (by kernel_rfl) (fun _ _ _ h => h) (Or.inl ⟨by rfl, ?_⟩) (by assumption) ?_
              rotate_left
              · (intro w hSw; (try dsimp only at hSw); first | (go_simp; done) | (go_simp; with_reducible rfl))
              try simp only [List.getElem_toArray, List.getElem_cons_zero, List.getElem_cons_succ, Act.put, List.setIfInBounds_toArray, List.set_cons_zero, List.set_cons_succ]
              refine wpAnyH_take (i := 5) (v := ?_) rfl (by kernel_rfl) (by kernel_rfl) (by kernel_rfl) (fun _ _ _ h => h) (Or.inl ⟨by rfl, ?_⟩) (by assumption) ?_
              rotate_left
              · (intro w hSw; (try dsimp only at hSw); first | (go_simp; done) | (go_simp; with_reducible rfl))
              try simp only [List.getElem_toArray, List.getElem_cons_zero, List.getElem_cons_succ, Act.put, List.setIfInBounds_toArray, List.set_cons_zero, List.set_cons_succ]
              refine wpAnyH_take (i := 6) (v := ?_) rfl (by kernel_rfl) (by kernel_rfl) (by kernel_rfl) (fun _ _ _ h => h) (Or.inl ⟨by rfl, ?_⟩) (by assumption) ?_
              rotate_left
              · (intro w hSw; (try dsimp only at hSw); first | (go_simp; done) | (go_simp; with_reducible rfl))
              try simp only [List.getElem_toArray, List.getElem_cons_zero, List.getElem_cons_succ, Act.put, List.setIfInBounds_toArray, List.set_cons_zero, List.set_cons_succ]
              refine wpAnyH_take (i := 7) (v := ?_) rfl (by kernel_rfl) (by kernel_rfl) (by kernel_rfl) (fun _ _ _ h => h) (Or.inl ⟨by rfl, ?_⟩) (by assumption) ?_
              rotate_left
              · (intro w hSw; (try dsimp only at hSw); first | (go_simp; done) | (go_simp; with_reducible rfl))
              try simp only [List.getElem_toArray, List.getElem_cons_zero, List.getElem_cons_succ, Act.put, List.setIfInBounds_toArray, List.set_cons_zero, List.set_cons_succ]
              refine wpAnyH_take (i := 8) (v := ?_) rfl (by kernel_rfl) (by kernel_rfl) (by kernel_rfl) (fun _ _ _ h => h) (Or.inl ⟨by rfl, ?_⟩) (by assumption) ?_
              rotate_left
              · (intro w hSw; (try dsimp only at hSw); first | (go_simp; done) | (go_simp; with_reducible rfl))
              try simp only [List.getElem_toArray, List.getElem_cons_zero, List.getElem_cons_succ, Act.put, List.setIfInBounds_toArray, List.set_cons_zero, List.set_cons_succ]
              refine wpAnyH_take (i := 9) (v := ?_) rfl (by kernel_rfl) (by kernel_rfl) (by kernel_rfl) (fun _ _ _ h => h) (Or.inl ⟨by rfl, ?_⟩) (by assumption) ?_
              rotate_left
              · (intro w hSw; (try dsimp only at hSw); first | (go_simp; done) | (go_simp; with_reducible rfl))
              try simp only [List.getElem_toArray, List.getElem_cons_zero, List.getElem_cons_succ, Act.put, List.setIfInBounds_toArray, List.set_cons_zero, List.set_cons_succ]
              refine wpAnyH_take (i := 10) (v := ?_) rfl (by kernel_rfl) (by kernel_rfl) (by kernel_rfl) (fun _ _ _ h => h) (Or.inl ⟨by rfl, ?_⟩) (by assumption) ?_
              rotate_left
              · (intro w hSw; (try dsimp only at hSw); first | (go_simp; done) | (go_simp; with_reducible rfl))
              try simp only [List.getElem_toArray, List.getElem_cons_zero, List.getElem_cons_succ, Act.put, List.setIfInBounds_toArray, List.set_cons_zero, List.set_cons_succ]
              refine wpAnyH_take (i := 11) (v := ?_) rfl (by kernel_rfl) (by kernel_rfl) (by kernel_rfl) (fun _ _ _ h => h) (Or.inl ⟨by rfl, ?_⟩) (by assumption) ?_
              rotate_left
              · (intro w hSw; (try dsimp only at hSw); first | (go_simp; done) | (go_simp; with_reducible rfl))
              try simp only [List.getElem_toArray, List.getElem_cons_zero, List.getElem_cons_succ, Act.put, List.setIfInBounds_toArray, List.set_cons_zero, List.set_cons_succ]
              refine wpAnyH_take (i := 12) (v := ?_) rfl (by kernel_rfl) (by kernel_rfl) (by kernel_rfl) (fun _ _ _ h => h) (Or.inl ⟨by rfl, ?_⟩) (by assumption) ?_
              rotate_left
              · (intro w hSw; (try dsimp only at hSw); first | (go_simp; done) | (go_simp; with_reducible rfl))
              try simp only [List.getElem_toArray, List.getElem_cons_zero, List.getElem_cons_succ, Act.put, List.setIfInBounds_toArray, List.set_cons_zero, List.set_cons_succ]
              refine wpAnyH_take (i := 14) (v := ?_) rfl (by kernel_rfl) (by kernel_rfl) (by kernel_rfl) (fun _ _ _ h => h) (Or.inl ⟨by rfl, ?_⟩) (by assumption) ?_
              rotate_left
              · (intro w hSw; (try dsimp only at hSw); first | (go_simp; done) | (go_simp; with_reducible rfl))
              try simp only [List.getElem_toArray, List.getElem_cons_zero, List.getElem_cons_succ, Act.put, List.setIfInBounds_toArray, List.set_cons_zero, List.set_cons_succ]
              refine wpAnyH_ready (rs := [13, 15]) (by kernel_rfl) (by simp) ?_
              refine AllReadyH.cons rfl (fun KK hKK => ?_) (AllReadyH.cons rfl (fun KK hKK => ?_) AllReadyH.nil)
              · skip
                go_simp
                refine hKK.out _ _ hHeld (fun hHeld2 => ?_)
                clear hKK KK hHeld
                try simp only [List.getElem_toArray, List.getElem_cons_zero, List.getElem_cons_succ, Act.put, List.setIfInBounds_toArray, List.set_cons_zero, List.set_cons_succ]
                refine wpAnyH_ready (rs := [15]) (by kernel_rfl) (by simp) ?_
                refine AllReadyH.cons rfl (fun KK hKK => ?_) AllReadyH.nil
                go_simp
                refine hKK.out _ _ ⟨cell_on hHeld2.1 (below_new _ _), cell_on hHeld2.2 (below_new _ _)⟩ (fun hHeld3 => ?_)
                clear hKK KK hHeld2
                try simp only [List.getElem_toArray, List.getElem_cons_zero, List.getElem_cons_succ, Act.put, List.setIfInBounds_toArray, List.set_cons_zero, List.set_cons_succ]
                refine wpAnyH_ready (rs := [16]) (by kernel_rfl) (by simp) ?_
                refine AllReadyH.cons rfl (fun KK hKK => ?_) AllReadyH.nil
                refine step_append_lies _ (by rfl) _ _ _ (by rfl) W.heap.size 3 iI _ 1 8 Tryz.underlying26 hiI zI0 zI1 zI2 rfl (by decide) (.slice la2 l2.length lc2) l2.length (ints l2) (by rfl) HOM2.out ⟨wd2.heap.size, 0, none⟩ 1 1 [.int .i64 k] (by rfl) rfl HNA2.out (by simp [Value.oneCell']) (by decide) (by unfold maxLen; omega) (by omega) (by rw [HSA2.out]; omega) (wd2.heap.size + 1) HSA2.out ?_
                intro gg2 cap2 v2 hown2 hgw hat2 hlt2
                have hgrow2 : (wd2.alloc (.cells #[.int .i64 k] 3)).drew.grownBy v2 (Value.ownBlock (.slice la2 l2.length lc2)) := ⟨hgw.os, hgw.tape, hgw.output, hgw.size, hgw.block⟩
                have f5 := (HNd2.out.h3.fx 2 (by omega)).keep (grown_old2 hgrow2 (HNd2.out.h3.fx 2 (by omega)).lt HNE2.out)
                have q1 : v2.cell? ⟨s2, xm, none⟩ = some (.slice la2 l2.length lc2) := f5.get HVM2.out
                have q2 : v2.frozen? ⟨s2, xm, none⟩ = false := f5.frz xm
                have q3 := (HQd2.out.keep (grown_old2 hgrow2 HQd2.out.lt HNQ2.out)).get (i := 1) rfl
                have q4 := (HNd2.out.bx.keep (grown_old2 hgrow2 HNd2.out.bx.lt HNB2.out)).get (i := 7) rfl
                refine hKK.out _ _ ⟨q4, q3⟩ (fun hHeld4 => ?_)
                have HN2a : Hid (Nk W.heap.size kb ⟨fa, fc, some ⟨gr, go, none⟩, rc, ba, bc, fb, s0, s1, s2⟩ T n (.slice ma n mc) R (up H 2 ((H 2).set xm (l2 ++ [(k : Int)]))) (up vs 2 ((vs 2).set xm (.slice (some ⟨gg2, 0, none⟩) (l2.length + 1) cap2))) (v2.setCell ⟨s2, xm, none⟩ (.slice (some ⟨gg2, 0, none⟩) (l2.length + 1) cap2))) := hide (HNd2.out.add (c := 2) (by omega) HM2.out HVM2.out hown2 (fun k hk hn => grown_old2 hgrow2 hk hn) (by rcases hat2 with h | h; exact .inl h; exact .inr (by omega)))
                have HQ : Hid (Fx q 63 _ (v2.setCell ⟨s2, xm, none⟩ (.slice (some ⟨gg2, 0, none⟩) (l2.length + 1) cap2))) := hide ((HQd2.out.keep (grown_old2 hgrow2 HQd2.out.lt HNQ2.out)).keep (other_set (fx_ne HQd2.out (HNd2.out.h3.fx 2 (by omega)) (by decide))))
                have HBq := hide (HBd2.out.trans ((grown_low hgrow2 HHI2.out hbs2).setCell (p := ⟨s2, xm, none⟩) (HNd2.out.h3.lo 2 (by omega)) (.slice (some ⟨gg2, 0, none⟩) (l2.length + 1) cap2)))
                have q5 := HN2a.out.bx.get (i := 7) rfl
                have q6 := HQ.out.get (i := 1) rfl
                clear hKK KK f5 q3 q4 hown2 hgrow2 hgw hat2 hlt2 hHeld3
                try simp only [List.getElem_toArray, List.getElem_cons_zero, List.getElem_cons_succ, Act.put, List.setIfInBounds_toArray, List.set_cons_zero, List.set_cons_succ]
                refine wpAnyH_take (i := 17) (v := ?_) rfl (by kernel_rfl) (by kernel_rfl) (by kernel_rfl) (fun _ _ _ h => h) (Or.inl ⟨by rfl, ?_⟩) (by assumption) ?_
                rotate_left
                · (intro w hSw; (try dsimp only at hSw); first | (go_simp; done) | (go_simp; with_reducible rfl))
                try simp only [List.getElem_toArray, List.getElem_cons_zero, List.getElem_cons_succ, Act.put, List.setIfInBounds_toArray, List.set_cons_zero, List.set_cons_succ]
                refine wpAnyH_ready (rs := [18]) (by kernel_rfl) (by simp) ?_
                refine AllReadyH.cons rfl (fun KK hKK => ?_) AllReadyH.nil
                go_simp
                refine hKK.out _ _ ⟨q5, q6⟩ (fun hHeld5 => ?_)
                clear hKK KK hHeld4 hHeld5 q1 q2 q5 q6 cm2 cmA2 HNd2 HQd2 HBd2 HOM2 HSA2 HNA2 HNE2 HNQ2 HNB2 HHI2 HM2 HVM2 HA2
                try simp only [List.getElem_toArray, List.getElem_cons_zero, List.getElem_cons_succ, Act.put, List.setIfInBounds_toArray, List.set_cons_zero, List.set_cons_succ]
                generalize v2.setCell ⟨s2, xm, none⟩ (.slice (some ⟨gg2, 0, none⟩) (l2.length + 1) cap2) = x2 at *
                refine wpAnyH_done (by kernel_rfl) ?_ _
                go_wp2_with fail
                go_roundw
                case rel => exact ⟨k + 1, (up H 2 ((H 2).set xm (l2 ++ [(k : Int)]))), (up vs 2 ((vs 2).set xm (.slice (some ⟨gg2, 0, none⟩) (l2.length + 1) cap2))), by omega, by go_num, HU0, HU1, HU2, HN2a, HBq⟩
                case measure => simp [intOf]; omega
              · skip
                go_simp
                refine hKK.out _ _ ⟨cell_on hHeld.1 (below_new _ _), cell_on hHeld.2 (below_new _ _)⟩ (fun hHeld3 => ?_)
                clear hKK KK hHeld
                try simp only [List.getElem_toArray, List.getElem_cons_zero, List.getElem_cons_succ, Act.put, List.setIfInBounds_toArray, List.set_cons_zero, List.set_cons_succ]
                refine wpAnyH_ready (rs := [13]) (by kernel_rfl) (by simp) ?_
                refine AllReadyH.cons rfl (fun KK hKK => ?_) AllReadyH.nil
                go_simp
                refine hKK.out _ _ hHeld3 (fun hHeld2 => ?_)
                clear hKK KK hHeld3
                try simp only [List.getElem_toArray, List.getElem_cons_zero, List.getElem_cons_succ, Act.put, List.setIfInBounds_toArray, List.set_cons_zero, List.set_cons_succ]
                refine wpAnyH_ready (rs := [16]) (by kernel_rfl) (by simp) ?_
                refine AllReadyH.cons rfl (fun KK hKK => ?_) AllReadyH.nil
                refine step_append_lies _ (by rfl) _ _ _ (by rfl) W.heap.size 3 iI _ 1 8 Tryz.underlying26 hiI zI0 zI1 zI2 rfl (by decide) (.slice la2 l2.length lc2) l2.length (ints l2) (by rfl) HOM2.out ⟨wd2.heap.size, 0, none⟩ 1 1 [.int .i64 k] (by rfl) rfl HNA2.out (by simp [Value.oneCell']) (by decide) (by unfold maxLen; omega) (by omega) (by rw [HSA2.out]; omega) (wd2.heap.size + 1) HSA2.out ?_
                intro gg2 cap2 v2 hown2 hgw hat2 hlt2
                have hgrow2 : (wd2.alloc (.cells #[.int .i64 k] 3)).drew.grownBy v2 (Value.ownBlock (.slice la2 l2.length lc2)) := ⟨hgw.os, hgw.tape, hgw.output, hgw.size, hgw.block⟩
                have f5 := (HNd2.out.h3.fx 2 (by omega)).keep (grown_old2 hgrow2 (HNd2.out.h3.fx 2 (by omega)).lt HNE2.out)
                have q1 : v2.cell? ⟨s2, xm, none⟩ = some (.slice la2 l2.length lc2) := f5.get HVM2.out
                have q2 : v2.frozen? ⟨s2, xm, none⟩ = false := f5.frz xm
                have q3 := (HQd2.out.keep (grown_old2 hgrow2 HQd2.out.lt HNQ2.out)).get (i := 1) rfl
                have q4 := (HNd2.out.bx.keep (grown_old2 hgrow2 HNd2.out.bx.lt HNB2.out)).get (i := 7) rfl
                refine hKK.out _ _ ⟨q4, q3⟩ (fun hHeld4 => ?_)
                have HN2a : Hid (Nk W.heap.size kb ⟨fa, fc, some ⟨gr, go, none⟩, rc, ba, bc, fb, s0, s1, s2⟩ T n (.slice ma n mc) R (up H 2 ((H 2).set xm (l2 ++ [(k : Int)]))) (up vs 2 ((vs 2).set xm (.slice (some ⟨gg2, 0, none⟩) (l2.length + 1) cap2))) (v2.setCell ⟨s2, xm, none⟩ (.slice (some ⟨gg2, 0, none⟩) (l2.length + 1) cap2))) := hide (HNd2.out.add (c := 2) (by omega) HM2.out HVM2.out hown2 (fun k hk hn => grown_old2 hgrow2 hk hn) (by rcases hat2 with h | h; exact .inl h; exact .inr (by omega)))
                have HQ : Hid (Fx q 63 _ (v2.setCell ⟨s2, xm, none⟩ (.slice (some ⟨gg2, 0, none⟩) (l2.length + 1) cap2))) := hide ((HQd2.out.keep (grown_old2 hgrow2 HQd2.out.lt HNQ2.out)).keep (other_set (fx_ne HQd2.out (HNd2.out.h3.fx 2 (by omega)) (by decide))))
                have HBq := hide (HBd2.out.trans ((grown_low hgrow2 HHI2.out hbs2).setCell (p := ⟨s2, xm, none⟩) (HNd2.out.h3.lo 2 (by omega)) (.slice (some ⟨gg2, 0, none⟩) (l2.length + 1) cap2)))
                have q5 := HN2a.out.bx.get (i := 7) rfl
                have q6 := HQ.out.get (i := 1) rfl
                clear hKK KK f5 q3 q4 hown2 hgrow2 hgw hat2 hlt2 hHeld2
                try simp only [List.getElem_toArray, List.getElem_cons_zero, List.getElem_cons_succ, Act.put, List.setIfInBounds_toArray, List.set_cons_zero, List.set_cons_succ]
                refine wpAnyH_take (i := 17) (v := ?_) rfl (by kernel_rfl) (by kernel_rfl) (by kernel_rfl) (fun _ _ _ h => h) (Or.inl ⟨by rfl, ?_⟩) (by assumption) ?_
                rotate_left
                · (intro w hSw; (try dsimp only at hSw); first | (go_simp; done) | (go_simp; with_reducible rfl))
                try simp only [List.getElem_toArray, List.getElem_cons_zero, List.getElem_cons_succ, Act.put, List.setIfInBounds_toArray, List.set_cons_zero, List.set_cons_succ]
                refine wpAnyH_ready (rs := [18]) (by kernel_rfl) (by simp) ?_
                refine AllReadyH.cons rfl (fun KK hKK => ?_) AllReadyH.nil
                go_simp
                refine hKK.out _ _ ⟨q5, q6⟩ (fun hHeld5 => ?_)
                clear hKK KK hHeld4 hHeld5 q1 q2 q5 q6 cm2 cmA2 HNd2 HQd2 HBd2 HOM2 HSA2 HNA2 HNE2 HNQ2 HNB2 HHI2 HM2 HVM2 HA2
                try simp only [List.getElem_toArray, List.getElem_cons_zero, List.getElem_cons_succ, Act.put, List.setIfInBounds_toArray, List.set_cons_zero, List.set_cons_succ]
                generalize v2.setCell ⟨s2, xm, none⟩ (.slice (some ⟨gg2, 0, none⟩) (l2.length + 1) cap2) = x2 at *
                refine wpAnyH_done (by kernel_rfl) ?_ _
                go_wp2_with fail
                go_roundw
                case rel => exact ⟨k + 1, (up H 2 ((H 2).set xm (l2 ++ [(k : Int)]))), (up vs 2 ((vs 2).set xm (.slice (some ⟨gg2, 0, none⟩) (l2.length + 1) cap2))), by omega, by go_num, HU0, HU1, HU2, HN2a, HBq⟩
                case measure => simp [intOf]; omega
          · have HE : Hid (k = T.rules.length) := hide (by omega)
            go_wp2_with fail
            go_ret
            have hk2 := HE.out
            have g0 := HG0.out
            have g1 := HG1.out
            have g2 := HG2.out
            rw [hk2] at g0 g1 g2
            have hbw := HB.out.trans (HBr.out.mono HB.out.size)
            exact ⟨kb, _, rfl, ⟨_, _, _, _, HNK.out, HFD.out, g0, g1, g2⟩, fun w2 h2 => TR.go h2 HTA.out, Nat.le_trans HB.out.size HNK.out.lk, hbw⟩
end Go.Proofs.YtddlhlifkhaokaaGreat
