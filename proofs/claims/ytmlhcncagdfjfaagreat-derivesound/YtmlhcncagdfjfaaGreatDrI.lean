import Derived.Test.YtmlhcncagdfjfaaGreatDr2
import Derived.DeepKeys4
import Derived.WideKeyEntry
import Derived.Test.YtmlhcncagdfjfaaGreatInv9
import Derived.Deep.AppendLies
namespace Go.Proofs.YtmlhcncagdfjfaaGreat.De
open Go.RowKit Go.WideMaps Go.WideElems Go.MapKept
open Go.ChangeMaps (setBlock heap_setBlock_same)
theorem vq : laidOutB Tryz.prog = true := by kernel_rfl
theorem lawI : KeyLaw Tryz.prog 85 := deep_law_laid vq (m := 3) (by omega) (of_decide_eq_true (by kernel_rfl)) (by kernel_rfl) (by kernel_rfl)
abbrev pk (a b : Nat) : Value := .agg #[.int .i64 (a : Int), .int .i64 (b : Int)]
theorem gI {a b c d : Nat} (h : pk a b = pk c d) : a = c ∧ b = d := by
 simp only [Value.agg.injEq] at h
 have e4 := congrArg Array.toList h
 simp only [List.cons.injEq, Value.int.injEq, true_and, and_true] at e4
 omega
theorem vz : Tryz.prog.keyType 85 = true := by kernel_rfl
theorem tu : Tryz.prog.cellsOf 85 = 2 := by kernel_rfl
theorem iz {a b : Nat} (ha : a ≤ 4096) (hb : b ≤ 4096) : ∃ kl, keyOf Tryz.prog 85 (pk a b) = some kl := by
 have wa : (Lit.int .i64 (a : Int)).wf = true := WalkArith.wf_i64 (by omega)
 have wb : (Lit.int .i64 (b : Int)).wf = true := WalkArith.wf_i64 (by omega)
 refine ⟨.string (keyBytes [.int .i64 a, .int .i64 b]), ?_⟩
 unfold keyOf
 simp only [Tryz.underlying85]
 rw [if_pos (by rw [vz]; simp [Value.formed, Tryz.underlying85, tu])]
 have hm : ∃ m, Tryz.prog.types.size + 1 = m + 1 + 1 := ⟨Tryz.prog.types.size - 1, by have : 0 < Tryz.prog.types.size := of_decide_eq_true (by kernel_rfl); omega⟩
 obtain ⟨m, hm⟩ := hm
 rw [hm]
 have hl : ∀ s : Int, (Lit.int .i64 s).wf = true → Tryz.prog.keyLits (m + 1) 3 [.int .i64 s] = some [.int .i64 s] := by
  intro s hs
  unfold Program.keyLits
  simp only [Tryz.underlying3]
  simp [hs]
 unfold Program.keyLits
 simp only [Tryz.underlying85, Value.cells]
 rw [if_pos ⟨by rw [tu]; rfl, by first | kernel_rfl | simp⟩]
 have e1 : Tryz.prog.cellsOf 3 = 1 := by kernel_rfl
 simp [List.mapM_cons, List.mapM_nil, e1, hl _ wa, hl _ wb]
def RV : Value → Option (DataW Unit × List MemPlace) := fun _ => some (.nil, [])
abbrev aC := Nat × Nat × Nat
def ev {α : Type} (f : aC → α) (k : aC) (v : α) : aC → α := fun j => if j = k then v else f j
theorem updK_at {α : Type} {f : aC → α} {k : aC} {v : α} : ev f k v k = v := if_pos rfl
theorem cK {α : Type} {f : aC → α} {j k : aC} {v : α} (h : j ≠ k) : ev f k v j = f j := if_neg h
structure Me (V : aC → Value) (c : Nat) (es : Array MapEntry) (clock : Nat) : Prop where
 fit : Fit Tryz.prog 85 RV es clock
 sz : es.size ≤ c
 val : ∀ s q : Nat, ∀ x ∈ es.toList, x.key = pk s q → x.val = V (3, s, q)
 non : ∀ s q : Nat, (∃ x ∈ es.toList, x.key = pk s q) ∨ V (3, s, q) = .slice none 0 0
theorem yJ : Me (fun _ => .slice none 0 0) 0 #[] 0 := ⟨⟨by simp, by constructor <;> simp, by simp⟩, by simp, by simp, fun _ _ => .inr rfl⟩
end Go.Proofs.YtmlhcncagdfjfaaGreat.De
namespace Go.Proofs.YtmlhcncagdfjfaaGreat.De
open Go.RowKit Go.WideMaps Go.WideElems Go.MapKept
open Go.ChangeMaps (setBlock heap_setBlock_same heap_setBlock_other)
section
variable {V : aC → Value} {c : Nat} {es es' : Array MapEntry} {clock clock' : Nat} {w : World} {mb : Nat}
theorem sN (u : World) : (zeroValue 26).run Tryz.prog u = .ok (.slice none 0 0) u := by kernel_rfl
theorem vA (hb : w.heap[mb]? = some (.map es clock)) (h : Me V c es clock) {s q : Nat} (hs : s ≤ 4096) (hq : q ≤ 4096) (val : Value) :
    ∃ es2 clock2, (Instr.mapUpdate 116 (.map (some mb)) (pk s q) val).run Tryz.prog w = .ok () (setBlock w mb (.map es2 clock2)) ∧ ((es2 = es.push ⟨pk s q, val, clock⟩ ∧ ∀ x ∈ es.toList, x.key ≠ pk s q) ∨ ∃ j e0, es.toList[j]? = some e0 ∧ e0.key = pk s q ∧ es2.toList = es.toList.set j ⟨pk s q, val, e0.born⟩) := by
 obtain ⟨kl, Aa⟩ := iz hs hq
 have ht := Tryz.underlying116
 rcases lawI.find w Aa es.toList h.fit.keys with ⟨h1, h2⟩ | ⟨j, e0, h1, h2, h3⟩
 ·refine ⟨_, clock + 1, ?_, .inl ⟨rfl, h2⟩⟩
  simp [Instr.mapUpdate, run_underlying ht, MapKept.run_getObj_map hb, lawI.check w false Aa, h1, MapKept.run_setObj_map _ hb, Result.andThen, setBlock]
 have hj : es[j]? = some e0 := by simpa using h2
 refine ⟨es.modify j (fun e' => { e' with key := pk s q, val := val }), clock, ?_, .inr ⟨j, e0, h2, h3, ?_⟩⟩
 ·simp [Instr.mapUpdate, run_underlying ht, MapKept.run_getObj_map hb, lawI.check w false Aa, h1, hj, h3, lawI.stays w Aa, MapKept.run_setObj_map _ hb, Result.andThen, setBlock]
 rw [Array.toList_modify, Go.ChangeMaps.modify_eq_set _ _ _ _ h2]
theorem fT {o o' : Obj} (hb : w.heap[mb]? = some (.map es clock)) (h : setBlock w mb o = setBlock w mb o') : o = o' := by
 have h1 := heap_setBlock_same hb o
 rw [h, heap_setBlock_same hb o'] at h1
 cases h1; rfl
theorem wj (hb : w.heap[mb]? = some (.map es clock)) (h : Me V c es clock) {s q : Nat} (hs : s ≤ 4096) (hq : q ≤ 4096) (hc : c < 1000000000) :
    ∃ st es1 clock1, (Instr.mapEntry 116 (.map (some mb)) (pk s q)).run Tryz.prog w = .ok (.tuple #[V (3, s, q), goInt st]) (setBlock w mb (.map es1 clock1)) ∧
     ∀ (w2 : World) (val : Value), w2.heap[mb]? = some (.map es1 clock1) → ∃ es' clock', (Instr.entryStore 116 (.map (some mb)) (goInt st) val).run Tryz.prog w2 = .ok () (setBlock w2 mb (.map es' clock')) ∧ Me (ev V (3, s, q) val) (c + 1) es' clock' := by
 obtain ⟨kl, Af⟩ := iz hs hq
 have ht := Tryz.underlying116
 obtain ⟨v0, st, es1, clock1, hE, hv, hS⟩ := entry_then_store lawI ht sN hb h.fit Af
 have Ap : v0 = V (3, s, q) := by
  rcases hv with ⟨e0, hm, hk, rfl⟩ | ⟨hn, rfl⟩
  ·exact h.val s q e0 hm hk
  rcases h.non s q with ⟨x, hx, hk⟩ | e
  ·exact absurd hk (hn x hx)
  exact e.symm
 rw [Ap] at hE
 refine ⟨st, es1, clock1, hE, fun w2 val hw2 => ?_⟩
 obtain ⟨es', clock', An, Am⟩ := hS w2 val hw2
 refine ⟨es', clock', An, ?_⟩
 obtain ⟨Au, Ar, Aj, Ai⟩ := vA hb h hs hq val
 obtain ⟨Av, As, Ak, Ag, -, -⟩ := fit_update (R' := RV) lawI ht hb h.fit (by have := h.sz; unfold maxLen; omega) (fun _ _ _ h => h) Af (show RV val = some (.nil, []) from rfl)
 rw [Am] at Aj Ak
 have e2 := fT hb (by injection Aj)
 have e3 := fT hb (by injection Ak)
 injection e2 with e2a e2b
 injection e3 with e3a e3b
 subst e2a
 subst e3a
 subst e3b
 have Ae : ∀ s' q' : Nat, ¬ (s' = s ∧ q' = q) → ev V (3, s, q) val (3, s', q') = V (3, s', q') := fun s' q' hn => cK fun e => hn (by simp only [Prod.mk.injEq, true_and] at e; exact e)
 rcases Ai with ⟨rfl, Aq⟩ | ⟨j, e0, hj, hk, Ac⟩
 ·refine ⟨Ag, by have := h.sz; simp; omega, fun s' q' x hx Aa => ?_, fun s' q' => ?_⟩
  ·rw [Array.toList_push, List.mem_append, List.mem_singleton] at hx
   rcases hx with hx | rfl
   ·rw [Ae s' q' fun e => Aq x hx (by rw [Aa, e.1, e.2])]
    exact h.val s' q' x hx Aa
   obtain ⟨rfl, rfl⟩ := gI Aa
   exact updK_at.symm
  by_cases e : s' = s ∧ q' = q
  ·obtain ⟨rfl, rfl⟩ := e
   exact .inl ⟨_, by rw [Array.toList_push]; simp; exact .inr rfl, rfl⟩
  rw [Ae s' q' e]
  rcases h.non s' q' with ⟨x, hx, Aa⟩ | hz
  ·exact .inl ⟨x, by rw [Array.toList_push]; simp [hx], Aa⟩
  exact .inr hz
 have Al : j < es.toList.length := (List.getElem?_eq_some_iff.1 hj).1
 have At : es'.size = es.size := by
  have := congrArg List.length Ac
  simpa using this
 refine ⟨Ag, by have := h.sz; omega, fun s' q' x hx Aa => ?_, fun s' q' => ?_⟩
 ·rw [Ac] at hx
  obtain ⟨i, hi, Ah⟩ := List.mem_iff_getElem.1 hx
  have Ab : (es.toList.set j ⟨pk s q, val, e0.born⟩)[i]? = some x := by rw [List.getElem?_eq_getElem hi, Ah]
  by_cases Ad : i = j
  ·subst Ad
   rw [List.getElem?_set_self Al] at Ab
   cases Ab
   obtain ⟨rfl, rfl⟩ := gI Aa
   exact updK_at.symm
  rw [List.getElem?_set_ne (Ne.symm Ad)] at Ab
  have Ao := other_key h.fit hj Ab Ad
  rw [Ae s' q' fun e => Ao (by rw [Aa, hk, e.1, e.2])]
  exact h.val s' q' x (List.mem_of_getElem? Ab) Aa
 by_cases e : s' = s ∧ q' = q
 ·obtain ⟨rfl, rfl⟩ := e
  exact .inl ⟨_, by rw [Ac]; exact List.mem_of_getElem? (List.getElem?_set_self Al), rfl⟩
 rw [Ae s' q' e]
 rcases h.non s' q' with ⟨x, hx, Aa⟩ | hz
 ·obtain ⟨i, hi, Ah⟩ := List.mem_iff_getElem.1 hx
  have Ab : es.toList[i]? = some x := by rw [List.getElem?_eq_getElem hi, Ah]
  have Ad : i ≠ j := fun e2 => by
   subst e2
   rw [hj] at Ab
   cases Ab
   exact e ⟨(gI (Aa.symm.trans hk)).1, (gI (Aa.symm.trans hk)).2⟩
  exact .inl ⟨x, by rw [Ac]; exact List.mem_of_getElem? (by rw [List.getElem?_set_ne (Ne.symm Ad)]; exact Ab), Aa⟩
 exact .inr hz
theorem xk (hb : w.heap[mb]? = some (.map es clock)) (h : Me V c es clock) {s q : Nat} (hs : s ≤ 4096) (hq : q ≤ 4096) :
    (Instr.lookup 116 (.map (some mb)) (pk s q) false).run Tryz.prog w = .ok (V (3, s, q)) w := by
 obtain ⟨kl, Aa⟩ := iz hs hq
 have ht := Tryz.underlying116
 rcases lawI.find w Aa es.toList h.fit.keys with ⟨h1, h2⟩ | ⟨j, e0, h1, h2, h3⟩
 ·have hz : V (3, s, q) = .slice none 0 0 := by
   rcases h.non s q with ⟨x, hx, hk⟩ | e
   ·exact absurd hk (h2 x hx)
   exact e
  rw [hz]
  simp [Instr.lookup, run_underlying ht, MapKept.run_getObj_map hb, lawI.check w _ Aa, h1, sN w, Result.andThen]
 rw [← h.val s q e0 (List.mem_of_getElem? h2) h3]
 simp [Instr.lookup, run_underlying ht, MapKept.run_getObj_map hb, lawI.check w _ Aa, h1, Result.andThen]
end
end Go.Proofs.YtmlhcncagdfjfaaGreat.De
namespace Go.Proofs.YtmlhcncagdfjfaaGreat.Fa
open Go.RowKit Rg
def up {α : Type} (f : Nat → α) (c : Nat) (y : α) : Nat → α := fun d => if d = c then y else f d
theorem bZ {α : Type} {f : Nat → α} {c : Nat} {y : α} : up f c y c = y := if_pos rfl
theorem bw {α : Type} {f : Nat → α} {c d : Nat} {y : α} (h : d ≠ c) : up f c y d = f d := if_neg h
structure H3 (base : Nat) (sb : Nat → Nat) (n : Nat) (H : Nat → List (List Int)) (vs : Nat → List Value) (w : World) : Prop where
 ln : ∀ c, c < 3 → (H c).length = n
 vl : ∀ c, c < 3 → (vs c).length = n
 fx : ∀ c, c < 3 → Fx (sb c) 26 (vs c) w
 lo : ∀ c, c < 3 → base ≤ sb c
 ne : ∀ c d, c < 3 → d < 3 → c ≠ d → sb c ≠ sb d
 own : ∀ c (i : Nat) l v, c < 3 → (H c)[i]? = some l → (vs c)[i]? = some v → w.ownsRow base 3 1 v l.length (aq l)
 apart : ∀ c d (i j : Nat) v u g, c < 3 → d < 3 → (vs c)[i]? = some v → (vs d)[j]? = some u → v.ownBlock = some g → u.ownBlock = some g → c = d ∧ i = j
section
variable {base n : Nat} {sb : Nat → Nat} {H : Nat → List (List Int)} {vs : Nat → List Value} {w w' : World}
theorem H3.go (h : H3 base sb n H vs w) (hb : Below w.heap.size w w') : H3 base sb n H vs w' :=
 ⟨h.ln, h.vl, fun c hc => (h.fx c hc).keep (hb.block _ (h.fx c hc).lt), h.lo, h.ne, fun c i l v hc h1 h2 => owns_keep (h.own c i l v hc h1 h2) fun g hg => hb.block g (ax (h.own c i l v hc h1 h2) hg), h.apart⟩
theorem H3.set (h : H3 base sb n H vs w) {g T i : Nat} {cs : List Value} {v : Value} (hg : Fx g T cs w) (h1 : T ≠ 26) (h2 : T ≠ 3) : H3 base sb n H vs (w.setCell ⟨g, i, none⟩ v) :=
 ⟨h.ln, h.vl, fun c hc => (h.fx c hc).keep (other_set (an (h.fx c hc) hg (Ne.symm h1))), h.lo, h.ne, fun c i l v hc a b => owns_keep (h.own c i l v hc a b) fun _ hk => other_set fun e => au (h.own c i l v hc a b) hg (Ne.symm h2) (e ▸ hk), h.apart⟩
theorem H3.at (h : H3 base sb n H vs w) {c i : Nat} (hc : c < 3) (hi : i < n) : ∃ l a k, (H c)[i]? = some l ∧ (vs c)[i]? = some (.slice a l.length k) ∧ w.cell? ⟨sb c, i, none⟩ = some (.slice a l.length k) ∧ w.ownsRow base 3 1 (.slice a l.length k) l.length (aq l) := by
 obtain ⟨l, h1⟩ := am (l := H c) (i := i) (by rw [h.ln c hc]; exact hi)
 obtain ⟨v, h2⟩ := am (l := vs c) (i := i) (by rw [h.vl c hc]; exact hi)
 have ho := h.own c i _ _ hc h1 h2
 obtain ⟨a, k, e⟩ := bf ho
 rw [e] at ho h2
 exact ⟨l, a, k, h1, h2, (h.fx c hc).get h2, ho⟩
theorem H3.add (h : H3 base sb n H vs w) {c i : Nat} (hc : c < 3) {l : List Int} {v : Value} (hi : (H c)[i]? = some l) (hv : (vs c)[i]? = some v) {x : Int} {g4 cap4 : Nat} (hnew : w'.ownsRow base 3 1 (.slice (some ⟨g4, 0, none⟩) (l.length + 1) cap4) (l.length + 1) (aq l ++ [.int .i64 x]))
    (hold : ∀ k, k < w.heap.size → v.ownBlock ≠ some k → w'.heap[k]? = w.heap[k]?) (hg : v.ownBlock = some g4 ∨ w.heap.size ≤ g4) :
    H3 base sb n (up H c ((H c).set i (l ++ [x]))) (up vs c ((vs c).set i (.slice (some ⟨g4, 0, none⟩) (l.length + 1) cap4))) (w'.setCell ⟨sb c, i, none⟩ (.slice (some ⟨g4, 0, none⟩) (l.length + 1) cap4)) := by
 have Ae := h.own c i l v hc hi hv
 have Ac : i < n := by rw [← h.ln c hc]; exact (List.getElem?_eq_some_iff.1 hi).1
 have Ad : ∀ d, d < 3 → Fx (sb d) 26 (vs d) w' := fun d hd => (h.fx d hd).keep (hold _ (h.fx d hd).lt (au Ae (h.fx d hd) (by decide)))
 have key : ∀ (d j : Nat) (u : Value) (q : Nat), d < 3 → ¬ (d = c ∧ j = i) → (vs d)[j]? = some u → u.ownBlock = some q → q ≠ g4 := by
  intro d j u q hd Ab hu hq e
  subst e
  have hm : j < (H d).length := by rw [h.ln d hd, ← h.vl d hd]; exact (List.getElem?_eq_some_iff.1 hu).1
  have ho := h.own d j _ u hd (List.getElem?_eq_getElem hm) hu
  rcases hg with hg | hg
  ·exact Ab (h.apart d c j i u v _ hd hc hu hv hq hg)
  have := ax ho hq; omega
 refine ⟨fun d hd => ?_, fun d hd => ?_, fun d hd => ?_, h.lo, h.ne, fun d j l2 u hd h1 h2 => ?_, fun d e j k a b g hd he h1 h2 h3 h4 => ?_⟩
 ·by_cases e : d = c
  ·subst e; rw [bZ, List.length_set]; exact h.ln d hd
  rw [bw e]; exact h.ln d hd
 ·by_cases e : d = c
  ·subst e; rw [bZ, List.length_set]; exact h.vl d hd
  rw [bw e]; exact h.vl d hd
 ·by_cases e : d = c
  ·subst e; rw [bZ]; exact (Ad d hd).set i _
  rw [bw e]; exact (Ad d hd).keep (other_set (h.ne d c hd hc e))
 ·have old : ∀ (Ab : ¬ (d = c ∧ j = i)), (H d)[j]? = some l2 → (vs d)[j]? = some u → (w'.setCell ⟨sb c, i, none⟩ (.slice (some ⟨g4, 0, none⟩) (l.length + 1) cap4)).ownsRow base 3 1 u l2.length (aq l2) := fun Ab a b => by
   have ho := h.own d j l2 u hd a b
   refine owns_keep ho fun g hgu => ?_
   rw [other_set fun (e2 : g = sb c) => au ho (h.fx c hc) (by decide) (e2 ▸ hgu)]
   exact hold g (ax ho hgu) fun e2 => Ab (h.apart d c j i u v g hd hc b hv hgu e2)
  by_cases e : d = c
  ·subst e
   rw [bZ] at h1 h2
   by_cases e2 : i = j
   ·subst e2
    rw [List.getElem?_set_self (by rw [h.ln d hd]; exact Ac)] at h1
    rw [List.getElem?_set_self (by rw [h.vl d hd]; exact Ac)] at h2
    cases h1
    cases h2
    rw [List.length_append, cX]
    exact owns_keep hnew fun g e => other_set fun e2 => au hnew (Ad d hd) (by decide) (e2 ▸ e)
   rw [List.getElem?_set_ne e2] at h1 h2
   exact old (fun x => e2 x.2.symm) h1 h2
  rw [bw e] at h1 h2
  exact old (fun x => e x.1) h1 h2
 have Aa : ∀ (d j : Nat) (a : Value), (up vs c ((vs c).set i (.slice (some ⟨g4, 0, none⟩) (l.length + 1) cap4)) d)[j]? = some a → (d = c ∧ j = i ∧ a = .slice (some ⟨g4, 0, none⟩) (l.length + 1) cap4) ∨ (¬ (d = c ∧ j = i) ∧ (vs d)[j]? = some a) := by
  intro d j a ha
  by_cases e1 : d = c
  ·subst e1
   rw [bZ] at ha
   by_cases e2 : i = j
   ·subst e2
    rw [List.getElem?_set_self (by rw [h.vl d hc]; exact Ac)] at ha
    exact .inl ⟨rfl, rfl, by cases ha; rfl⟩
   rw [List.getElem?_set_ne e2] at ha
   exact .inr ⟨fun x => e2 x.2.symm, ha⟩
  rw [bw e1] at ha
  exact .inr ⟨fun x => e1 x.1, ha⟩
 rcases Aa d j a h1 with ⟨a1, a2, a3⟩ | ⟨a1, a2⟩
 ·rcases Aa e k b h2 with ⟨b1, b2, b3⟩ | ⟨b1, b2⟩
  ·exact ⟨a1.trans b1.symm, a2.trans b2.symm⟩
  subst a3
  have : g4 = g := by simpa [Value.ownBlock] using h3
  exact absurd this.symm (key e k b g he b1 b2 h4)
 rcases Aa e k b h2 with ⟨b1, b2, b3⟩ | ⟨b1, b2⟩
 ·subst b3
  have : g4 = g := by simpa [Value.ownBlock] using h4
  exact absurd this.symm (key d j a g hd a1 a2 h3)
 exact h.apart d e j k a b g hd he a2 b2 h3 h4
theorem H3.lists (h : H3 base sb n H vs w) {c : Nat} (hc : c < 3) (hn : n ≤ 4096) (hl : ∀ l ∈ H c, l.length ≤ 4096) : Lists w.heap.size w (H c) (.slice (some ⟨sb c, 0, none⟩) n n) := by
 refine ⟨_, n, by rw [h.ln c hc], by rw [h.ln c hc]; omega, by rw [h.ln c hc]; omega, fun i x hi => ?_⟩
 have Ac : i < n := by rw [← h.ln c hc]; exact (List.getElem?_eq_some_iff.1 hi).1
 obtain ⟨l, a, k, h1, h2, h3, h4⟩ := h.at hc Ac
 rw [hi] at h1
 cases h1
 refine ⟨sb c, 0, [.slice a x.length k], rfl, (h.fx c hc).lt, rfl, fun j u hu => ?_, _, rfl, a, k, rfl, ?_, ?_, fun j y hj => ?_⟩
 ·cases j with
  | zero =>
   simp at hu
   subst hu
   rw [Nat.zero_add, Nat.mul_one]
   exact h3
  | succ j => simp at hu
 ·rcases h4.2 with ⟨_, e⟩ | ⟨g, cap, Ad, e, _, _, Ab, _⟩
  ·omega
  cases e; exact Ab
 ·have := hl x (List.mem_of_getElem? hi); omega
 obtain ⟨g, cap, e, Aa, -, -⟩ := ie (aI h4 (Nat.zero_le _)) (x := .int .i64 y) (i := j) (by unfold aq; rw [List.getElem?_map, hj]; rfl)
 cases e
 refine ⟨g, 0, [.int .i64 y], rfl, ax h4 rfl, rfl, fun j2 u hu => ?_, rfl⟩
 cases j2 with
 | zero =>
  simp at hu
  subst hu
  rw [Nat.zero_add, Nat.mul_one]
  exact Aa
 | succ j2 => simp at hu
end
theorem H3.ll {base n : Nat} {sb : Nat → Nat} {H : Nat → List (List Int)} {vs : Nat → List Value} {w : World} (h : H3 base sb n H vs w) {c : Nat} (hc : c < 3) {S : Nat → Prop} {L : Int → List Int} (hL : ∀ z : Nat, z < n → (H c).getD z [] = L z) (hS : ∀ k, base ≤ k → k < w.heap.size → S k) : LL S L n (sb c) w := by
 refine ⟨hS _ (h.lo c hc) (h.fx c hc).lt, vs c, h.fx c hc, h.vl c hc, fun i hi => ?_⟩
 obtain ⟨l, a, k, h1, h2, -, h4⟩ := h.at hc hi
 have e : l = L i := by
  have := hL i hi
  rw [List.getD_eq_getElem?_getD, h1] at this
  exact this
 subst e
 refine ⟨a, k, h2, dW h4, fun g o e2 _ => ?_⟩
 have Aa := h4.lt g (by rw [e2]; rfl)
 exact hS g Aa.1 Aa.2
theorem ar {w w' : World} {a : Addr} {v : Value} (h : w.cell? a = some v) (hb : Below w.heap.size w w') : w'.cell? a = some v := (World.cell?_of_block (hb.block _ (World.block_lt_of_cell? w _ h))).trans h
theorem eM {P : Program} {E : List PanicEntry → World → Prop} {ρ : Operand → Value} {o : Oper} {w w' : World} {R : Value → World → Prop} (s x : Operand) (t : TypeId) (ho : o.op = .call { callee := .builtin .append, args := #[s, x], argTypes := #[t, t] }) {v y u : Value} (hs : ρ s = v) (hx : ρ x = y) (hr : (Builtin.append_ #[t, t] o.type #[v, y]).run P w = .ok u w') (h : R u w') : iw P E ρ o w R := by
 unfold iw execOp
 simp only [ho, resolve, invoke, builtin, Sem.run_bind, Sem.run_pure, Result.andThen_ok, List.map_toArray, List.map_cons, List.map_nil, hs, hx, hr]
 exact h
section
variable {i1 i2 i3 i : Nat} {w0 w1 w2 w3 X : World} {L : Nat → Bool}
theorem ap (h1 : i ≠ i1) (h2 : i ≠ i2) (h3 : i ≠ i3) : fG i1 i2 i3 w0 w1 w2 w3 (more L i) = fG i1 i2 i3 w0 w1 w2 w3 L := by
 unfold fG
 rw [al (Ne.symm h1), al (Ne.symm h2), al (Ne.symm h3)]
theorem aZ (hX : X = fG i1 i2 i3 w0 w1 w2 w3 L) (h3 : L i3 = false) : X = w0 ∨ X = w1 ∨ X = w2 := by
 subst hX
 unfold fG
 rw [h3]
 cases h2 : L i2 with
 | true => exact .inr (.inr rfl)
 | false =>
  cases h1 : L i1 with
  | true => exact .inr (.inl rfl)
  | false => exact .inl rfl
theorem jV (h1 : L i1 = false) (h2 : L i2 = false) (h3 : L i3 = false) : fG i1 i2 i3 w0 w1 w2 w3 L = w0 := by unfold fG; rw [h1, h2, h3]; rfl
theorem eD (h1 : L i1 = true) (h2 : L i2 = false) (h3 : L i3 = false) : fG i1 i2 i3 w0 w1 w2 w3 L = w1 := by unfold fG; rw [h1, h2, h3]; rfl
theorem eF (h2 : L i2 = true) (h3 : L i3 = false) : fG i1 i2 i3 w0 w1 w2 w3 L = w2 := by unfold fG; rw [h2, h3]; rfl
theorem eC (h3 : L i3 = true) : fG i1 i2 i3 w0 w1 w2 w3 L = w3 := by unfold fG; rw [h3]; rfl
theorem ak {ops : Array Oper} {k : Nat} (hc : fP .any ops = true) (hcl : Cl ops L) (hk : k < ops.size) (h : L k = false) : L (ops.size - 1) = false := by
 cases e : L (ops.size - 1) with
 | false => rfl
 | true => rw [vU hc hcl e k hk] at h; cases h
end
end Go.Proofs.YtmlhcncagdfjfaaGreat.Fa
namespace Go.Proofs.YtmlhcncagdfjfaaGreat.De
open Go.RowKit Fa Go.WideMaps Go.WideElems Go.MapKept
open Go.ChangeMaps (setBlock heap_setBlock_same heap_setBlock_other)
structure Pool (base : Nat) (L : aC → List Int) (V : aC → Value) (w : World) : Prop where
 own : ∀ k, w.ownsRow base 3 1 (V k) (L k).length (aq (L k))
 apart : ∀ j k g, (V j).ownBlock = some g → (V k).ownBlock = some g → j = k
theorem jB {w : World} {base e n mb : Nat} {v : Value} {xs : List Value} {es : Array MapEntry} {clock : Nat} (h : w.ownsRow base e 1 v n xs) (hm : w.heap[mb]? = some (.map es clock)) : v.ownBlock ≠ some mb := by
 intro e1
 rcases h.2 with ⟨rfl, -⟩ | ⟨g, cap, Aa, rfl, -, h4, -⟩
 ·simp [Value.ownBlock] at e1
 have : g = mb := by simpa [Value.ownBlock] using e1
 subst this
 rw [hm] at h4
 cases h4
theorem nb {w : World} {g T mb : Nat} {vs : List Value} {es : Array MapEntry} {clock : Nat} (h : Fx g T vs w) (hm : w.heap[mb]? = some (.map es clock)) : g ≠ mb := by
 intro e
 subst e
 unfold Fx at h
 rw [hm] at h
 cases h
section
variable {base : Nat} {L : aC → List Int} {V : aC → Value} {w w' : World}
theorem Pool.at (h : Pool base L V w) (k : aC) : ∃ a c, V k = .slice a (L k).length c := bf (h.own k)
theorem Pool.keep (h : Pool base L V w) (hk : ∀ g, base ≤ g → g < w.heap.size → (∃ k, (V k).ownBlock = some g) → w'.heap[g]? = w.heap[g]?) : Pool base L V w' :=
 ⟨fun k => owns_keep (h.own k) fun g e => hk g ((h.own k).lt g e).1 ((h.own k).lt g e).2 ⟨k, e⟩, h.apart⟩
theorem Pool.go (h : Pool base L V w) (hb : Below w.heap.size w w') : Pool base L V w' := h.keep fun g _ hl _ => hb.block g hl
theorem Pool.add (h : Pool base L V w) {k : aC} {x : Int} {D g4 cap4 : Nat} (hnew : w'.ownsRow base 3 1 (.slice (some ⟨g4, 0, none⟩) ((L k).length + 1) cap4) ((L k).length + 1) (aq (L k) ++ [.int .i64 x]))
    (hold : ∀ j, j < w.heap.size → (V k).ownBlock ≠ some j → j ≠ D → w'.heap[j]? = w.heap[j]?) (hD : ∀ j, (V j).ownBlock ≠ some D) (hg : (V k).ownBlock = some g4 ∨ w.heap.size ≤ g4) :
    Pool base (ev L k (L k ++ [x])) (ev V k (.slice (some ⟨g4, 0, none⟩) ((L k).length + 1) cap4)) w' := by
 have Aa : ∀ j g, j ≠ k → (V j).ownBlock = some g → g ≠ g4 := by
  intro j g Ab hj e
  subst e
  rcases hg with hg | hg
  ·exact Ab (h.apart j k g hj hg)
  have := ax (h.own j) hj
  omega
 refine ⟨fun j => ?_, fun i j g hi hj => ?_⟩
 ·by_cases e : j = k
  ·subst e
   rw [updK_at, updK_at, List.length_append, cX]
   exact hnew
  rw [cK e, cK e]
  exact owns_keep (h.own j) fun g hgj => hold g (ax (h.own j) hgj) (fun e2 => e (h.apart j k g hgj e2)) fun e2 => hD j (e2 ▸ hgj)
 by_cases ei : i = k
 ·by_cases ej : j = k
  ·rw [ei, ej]
  rw [ei, updK_at] at hi
  rw [cK ej] at hj
  have : g4 = g := by simpa [Value.ownBlock] using hi
  exact absurd this.symm (Aa j g ej hj)
 rw [cK ei] at hi
 by_cases ej : j = k
 ·rw [ej, updK_at] at hj
  have : g4 = g := by simpa [Value.ownBlock] using hj
  exact absurd this.symm (Aa i g ei hi)
 rw [cK ej] at hj
 exact h.apart i j g hi hj
end
def gK (K : cC) (d : Nat) : Nat := if d = 0 then K.g0 else if d = 1 then K.g1 else K.g2
def eq (V : aC → Value) (d n : Nat) : List Value := (List.range n).map fun i => V (d, i, 0)
theorem gl {V : aC → Value} {d n i : Nat} (h : i < n) : (eq V d n)[i]? = some (V (d, i, 0)) := by unfold eq; simp [h]
theorem vV {V : aC → Value} {d n i : Nat} {v : Value} : eq (ev V (d, i, 0) v) d n = (eq V d n).set i v := by
 apply List.ext_getElem?
 intro j
 by_cases hj : j < n
 ·rw [gl hj]
  by_cases e : i = j
  ·subst e
   rw [List.getElem?_set_self (by unfold eq; simpa using hj), updK_at]
  rw [List.getElem?_set_ne e, gl hj, cK (by simp; omega)]
 rw [List.getElem?_eq_none (by unfold eq; simp; omega), List.getElem?_eq_none (by unfold eq; simp; omega)]
theorem qm {V : aC → Value} {d n : Nat} {k : aC} {v : Value} (h : ∀ i, (d, i, 0) ≠ k) : eq (ev V k v) d n = eq V d n := by
 unfold eq
 refine List.map_congr_left fun i _ => ?_
 exact cK (h i)
structure Ixs (base : Nat) (K : cC) (T : Th) (L : aC → List Int) (V : aC → Value) (c : Nat) (w : World) : Prop where
 bx : Fx K.q 118 (cW K T) w
 rw : ∀ d, d < 3 → Fx (gK K d) 26 (eq V d K.n) w
 mp : ∃ es clock, w.heap[K.mb]? = some (.map es clock) ∧ Me V c es clock
 pl : Pool base L V w
 lo : base ≤ K.q ∧ base ≤ K.mb ∧ ∀ d, d < 3 → base ≤ gK K d
 ne : ∀ c d, c < 3 → d < 3 → c ≠ d → gK K c ≠ gK K d
theorem Me.up {V : aC → Value} {c : Nat} {es : Array MapEntry} {clock : Nat} (h : Me V c es clock) {k : aC} (hk : k.1 ≠ 3) {v : Value} : Me (ev V k v) c es clock := by
 have e : ∀ s q : Nat, ev V k v (3, s, q) = V (3, s, q) := fun s q => cK fun e => hk (by rw [← e])
 exact ⟨h.fit, h.sz, fun s q x hx hk => by rw [e]; exact h.val s q x hx hk, fun s q => by rw [e]; exact h.non s q⟩
section
variable {base c : Nat} {K : cC} {T : Th} {L : aC → List Int} {V : aC → Value} {w w2 w' : World}
theorem Ixs.go (h : Ixs base K T L V c w) (hb : Below w.heap.size w w') : Ixs base K T L V c w' := by
 obtain ⟨es, clock, hm, hM⟩ := h.mp
 exact ⟨h.bx.keep (hb.block _ h.bx.lt), fun d hd => (h.rw d hd).keep (hb.block _ (h.rw d hd).lt), ⟨es, clock, (hb.block _ (Array.getElem?_eq_some_iff.1 hm).1).trans hm, hM⟩, h.pl.go hb, h.lo, h.ne⟩
theorem Ixs.far {base' : Nat} (h : Ixs base K T L V c w) (hk : ∀ g, base ≤ g → g < w.heap.size → w'.heap[g]? = w.heap[g]?) (hb : base' ≤ base) : Ixs base' K T L V c w' := by
 obtain ⟨es, clock, hm, hM⟩ := h.mp
 exact ⟨h.bx.keep (hk _ h.lo.1 h.bx.lt), fun d hd => (h.rw d hd).keep (hk _ (h.lo.2.2 d hd) (h.rw d hd).lt), ⟨es, clock, (hk _ h.lo.2.1 (Array.getElem?_eq_some_iff.1 hm).1).trans hm, hM⟩, ⟨fun k => aI ((h.pl.keep fun g h1 h2 _ => hk g h1 h2).own k) hb, h.pl.apart⟩, ⟨Nat.le_trans hb h.lo.1, Nat.le_trans hb h.lo.2.1, fun d hd => Nat.le_trans hb (h.lo.2.2 d hd)⟩, h.ne⟩
theorem Ixs.row (h : Ixs base K T L V c w) {d i : Nat} (hd : d < 3) {x : Int} {g4 cap4 : Nat} (hnew : w2.ownsRow base 3 1 (.slice (some ⟨g4, 0, none⟩) ((L (d, i, 0)).length + 1) cap4) ((L (d, i, 0)).length + 1) (aq (L (d, i, 0)) ++ [.int .i64 x]))
    (hold : ∀ j, j < w.heap.size → (V (d, i, 0)).ownBlock ≠ some j → w2.heap[j]? = w.heap[j]?) (hg : (V (d, i, 0)).ownBlock = some g4 ∨ w.heap.size ≤ g4) :
    Ixs base K T (ev L (d, i, 0) (L (d, i, 0) ++ [x])) (ev V (d, i, 0) (.slice (some ⟨g4, 0, none⟩) ((L (d, i, 0)).length + 1) cap4)) c (w2.setCell ⟨gK K d, i, none⟩ (.slice (some ⟨g4, 0, none⟩) ((L (d, i, 0)).length + 1) cap4)) := by
 obtain ⟨es, clock, hm, hM⟩ := h.mp
 have Aa := h.pl.own (d, i, 0)
 have hR := fun e (he : e < 3) => (h.rw e he).keep (hold _ (h.rw e he).lt (au Aa (h.rw e he) (by decide)))
 have hX := h.bx.keep (hold _ h.bx.lt (au Aa h.bx (by decide)))
 have Ab := (hold _ (Array.getElem?_eq_some_iff.1 hm).1 (jB Aa hm)).trans hm
 refine ⟨hX.keep (other_set (an h.bx (h.rw d hd) (by decide))), fun e he => ?_, ⟨es, clock, (other_set (Ne.symm (nb (h.rw d hd) hm))).trans Ab, hM.up (by show d ≠ 3; omega)⟩, ?_, h.lo, h.ne⟩
 ·by_cases hed : e = d
  ·subst hed
   rw [vV]
   exact (hR e he).set i _
  rw [qm fun j e2 => hed (congrArg Prod.fst e2)]
  exact (hR e he).keep (other_set (h.ne e d he hd hed))
 refine h.pl.add (D := gK K d) (owns_keep hnew fun g e => other_set fun e2 => au hnew (hR d hd) (by decide) (e2 ▸ e)) (fun j hj hn hne => (other_set hne).trans (hold j hj hn)) (fun k => au (h.pl.own k) (h.rw d hd) (by decide)) hg
theorem Ixs.ent (h : Ixs base K T L V c w) {s q : Nat} {x : Int} {g4 cap4 c' : Nat} {es' : Array MapEntry} {clock' : Nat} (hnew : w'.ownsRow base 3 1 (.slice (some ⟨g4, 0, none⟩) ((L (3, s, q)).length + 1) cap4) ((L (3, s, q)).length + 1) (aq (L (3, s, q)) ++ [.int .i64 x]))
    (hold : ∀ j, j < w.heap.size → (V (3, s, q)).ownBlock ≠ some j → j ≠ K.mb → w'.heap[j]? = w.heap[j]?) (hg : (V (3, s, q)).ownBlock = some g4 ∨ w.heap.size ≤ g4)
    (hm' : w'.heap[K.mb]? = some (.map es' clock')) (hM' : Me (ev V (3, s, q) (.slice (some ⟨g4, 0, none⟩) ((L (3, s, q)).length + 1) cap4)) c' es' clock') :
    Ixs base K T (ev L (3, s, q) (L (3, s, q) ++ [x])) (ev V (3, s, q) (.slice (some ⟨g4, 0, none⟩) ((L (3, s, q)).length + 1) cap4)) c' w' := by
 obtain ⟨es, clock, hm, hM⟩ := h.mp
 have Aa := h.pl.own (3, s, q)
 refine ⟨h.bx.keep (hold _ h.bx.lt (au Aa h.bx (by decide)) (nb h.bx hm)), fun e he => ?_, ⟨es', clock', hm', hM'⟩, h.pl.add (D := K.mb) hnew hold (fun k => jB (h.pl.own k) hm) hg, h.lo, h.ne⟩
 rw [qm fun j e2 => by have := congrArg Prod.fst e2; simp at this; omega]
 exact (h.rw e he).keep (hold _ (h.rw e he).lt (au Aa (h.rw e he) (by decide)) (nb (h.rw e he) hm))
end
theorem sX {mb : Nat} {es : Array MapEntry} {clock c : Nat} {V : aC → Value} (h : Me V c es clock) {s q : Nat} (hs : s ≤ 4096) (hq : q ≤ 4096) (u : World) :
    ∃ v es1 clock1, ∀ w : World, w.heap[mb]? = some (.map es clock) → (Instr.mapEntry 116 (.map (some mb)) (pk s q)).run Tryz.prog w = .ok v (setBlock w mb (.map es1 clock1)) := by
 obtain ⟨kl, Aa⟩ := iz hs hq
 have ht := Tryz.underlying116
 rcases lawI.find u Aa es.toList h.fit.keys with ⟨-, Ab⟩ | ⟨j, e0, -, h2, h3⟩
 ·refine ⟨.tuple #[.slice none 0 0, goInt clock], es.push ⟨pk s q, .slice none 0 0, clock⟩, clock + 1, fun w hb => ?_⟩
  rcases lawI.find w Aa es.toList h.fit.keys with ⟨h1', -⟩ | ⟨j', e0', -, h2', h3'⟩
  ·simp [Instr.mapEntry, run_underlying ht, MapKept.run_getObj_map hb, lawI.check w false Aa, h1', sN w, MapKept.run_setObj_map _ hb, Result.andThen, setBlock]
  exact absurd h3' (Ab _ (List.mem_of_getElem? h2'))
 have hj : es[j]? = some e0 := by simpa using h2
 have Ac : es.modify j (fun e => { e with key := pk s q }) = es := by
  apply Array.ext'
  rw [Array.toList_modify, Go.ChangeMaps.modify_eq_set _ _ _ _ h2]
  have : ({ e0 with key := pk s q } : MapEntry) = e0 := by rw [← h3]
  rw [this]
  exact set_self _ _ _ h2
 refine ⟨.tuple #[e0.val, goInt e0.born], es, clock, fun w hb => ?_⟩
 rcases lawI.find w Aa es.toList h.fit.keys with ⟨-, Ab⟩ | ⟨j', e0', h1', h2', h3'⟩
 ·exact absurd h3 (Ab _ (List.mem_of_getElem? h2))
 have ej : j' = j := Classical.byContradiction fun hne => other_key h.fit h2 h2' hne (h3'.trans h3.symm)
 subst ej
 have he : e0' = e0 := by rw [h2] at h2'; cases h2'; rfl
 subst he
 simp [Instr.mapEntry, run_underlying ht, MapKept.run_getObj_map hb, lawI.check w false Aa, h1', hj, h3, lawI.stays w Aa, Ac, MapKept.run_setObj_map _ hb, Result.andThen, setBlock]
theorem sQ {w w' : World} {mb : Nat} {es es1 : Array MapEntry} {clock clock1 c : Nat} {V : aC → Value} {v : Value} (h : Me V c es clock) (hb : w.heap[mb]? = some (.map es clock)) (hb' : w'.heap[mb]? = some (.map es clock)) {s q : Nat} (hs : s ≤ 4096) (hq : q ≤ 4096)
    (hr : (Instr.mapEntry 116 (.map (some mb)) (pk s q)).run Tryz.prog w = .ok v (setBlock w mb (.map es1 clock1))) :
    (Instr.mapEntry 116 (.map (some mb)) (pk s q)).run Tryz.prog w' = .ok v (setBlock w' mb (.map es1 clock1)) := by
 obtain ⟨v2, Ab, Aa, hc⟩ := sX (mb := mb) h hs hq w
 have h1 := hr.symm.trans (hc w hb)
 clear hr
 simp only [Result.ok.injEq] at h1
 obtain ⟨a, b⟩ := h1
 have e := fT hb b
 clear b
 simp only [Obj.map.injEq] at e
 rw [a, e.1, e.2]
 exact hc w' hb'
end Go.Proofs.YtmlhcncagdfjfaaGreat.De
namespace Go.Proofs.YtmlhcncagdfjfaaGreat.De
open Go.RowKit Fa Rg Go.WideMaps Go.WideElems Go.MapKept
open Go.ChangeMaps (setBlock heap_setBlock_same heap_setBlock_other)
theorem dw {w : World} {b : Nat} {o : Obj} : (setBlock w b o).heap.size = w.heap.size := by simp [setBlock]
theorem jm {w : World} {b : Nat} {o o' : Obj} (hb : b < w.heap.size) : setBlock (w.alloc o') b o = (setBlock w b o).alloc o' := by
 have : ((w.heap.push o').setIfInBounds b o) = (w.heap.setIfInBounds b o).push o' := by
  apply Array.ext'
  simp
  rw [List.set_append_left _ _ (by simpa using hb)]
 simp only [setBlock, World.alloc]
 rw [this]
theorem jx {w : World} {base b : Nat} {o : Obj} (h : base ≤ b) : Below base w (setBlock w b o) :=
 ⟨rfl, rfl, rfl, by simp [setBlock], fun k hk => by
  show (w.heap.setIfInBounds b o)[k]? = w.heap[k]?
  rw [Array.getElem?_setIfInBounds_ne (by omega)]⟩
section
variable {base c : Nat} {K : cC} {T : Th} {L : aC → List Int} {V : aC → Value} {w : World}
theorem Ixs.app (h : Ixs base K T L V c w) (hb : base ≤ w.heap.size) {d i : Nat} (hd : d < 3) (hi : i < K.n) (r : Nat) (hlen : (L (d, i, 0)).length ≤ 1000000) :
    ∃ l la lc gg cap w2 w3 V', L (d, i, 0) = l ∧ V (d, i, 0) = .slice la l.length lc ∧ w.cell? ⟨gK K d, i, none⟩ = some (.slice la l.length lc) ∧
     (Builtin.append_ #[26, 26] 26 #[.slice la l.length lc, .slice (some ⟨w.heap.size, 0, none⟩) 1 1]).run Tryz.prog (w.alloc (.cells #[.int .i64 r] 3)) = .ok (.slice (some ⟨gg, 0, none⟩) (l.length + 1) cap) w2 ∧
     (∀ (g t : Nat) (xs : List Value), Fx g t xs w → t ≠ 3 → Fx g t xs w2) ∧ w2.setCell ⟨gK K d, i, none⟩ (.slice (some ⟨gg, 0, none⟩) (l.length + 1) cap) = w3 ∧
     (∀ (g t : Nat) (xs : List Value), Fx g t xs w → t ≠ 3 → t ≠ 26 → Fx g t xs w3) ∧ Ixs base K T (ev L (d, i, 0) (L (d, i, 0) ++ [(r : Int)])) V' c w3 ∧ Below base w w3 := by
 obtain ⟨iI, Aj, Ai, Al, Ah⟩ := info_parts gB
 obtain ⟨la, lc, hv⟩ := h.pl.at (d, i, 0)
 have Ab := h.pl.own (d, i, 0)
 have hA := ae w (.cells #[.int .i64 r] 3)
 obtain ⟨gg, cap, w2, Ae, Ad, Aa, Ak, Am⟩ := run_append_lies (P := Tryz.prog) (w.alloc (.cells #[.int .i64 r] 3)) 26 26 base 3 iI _ 1 8 Tryz.underlying26 Aj Ai Al Ah rfl (by decide) (V (d, i, 0)) (L (d, i, 0)).length (aq (L (d, i, 0))) (owns_keep Ab fun g hg => hA.block g (ax Ab hg)) ⟨w.heap.size, 0, none⟩ 1 1 [.int .i64 r] rfl (World.news_of_block (cs := [.int .i64 r].toArray) (t := 3) (fr := (0, 0)) (heap_alloc_new w (.cells #[.int .i64 r] 3))) (by simp [Value.oneCell']) (by decide) (by unfold maxLen; omega) (by omega) (by simp; omega) (w.heap.size + 1) (by simp)
 have Ac : ∀ k, k < w.heap.size → (V (d, i, 0)).ownBlock ≠ some k → w2.heap[k]? = w.heap[k]? := fun k hk hn => (Aa.block k (by simp; omega) fun e => hn e.symm).trans (hA.block k hk)
 have Af : ∀ (g t : Nat) (xs : List Value), Fx g t xs w → t ≠ 3 → Fx g t xs w2 := fun g t xs hf ht => hf.keep (Ac _ hf.lt (au Ab hf (Ne.symm ht)))
 have Ag := h.row hd (x := (r : Int)) Ad Ac (by rcases Ak with e | e; exact .inl e; exact .inr (by omega))
 refine ⟨_, la, lc, gg, cap, w2, _, _, rfl, hv, ?_, by rw [hv] at Ae; exact Ae, Af, rfl, fun g t xs hf h1 h2 => (Af g t xs hf h1).keep (other_set (an hf (h.rw d hd) h2)), Ag, ?_⟩
 ·rw [← hv]; exact (h.rw d hd).get (gl hi)
 exact (show Below base w w2 from (hA.mono hb).trans ⟨Aa.os, Aa.tape, Aa.output, Aa.size, fun k hk => Aa.block k (by simp; omega) fun e => by have := (Ab.lt k e.symm).1; omega⟩).setCell (p := ⟨gK K d, i, none⟩) (h.lo.2.2 d hd) _
theorem Ixs.appE (h : Ixs base K T L V c w) (hb : base ≤ w.heap.size) {s q : Nat} (hs : s ≤ 4096) (hq : q ≤ 4096) (hc : c < 1000000000) (r : Nat) (hlen : (L (3, s, q)).length ≤ 1000000) :
    ∃ (l : List Int) (la : Option Addr) (lc : Nat) (st : Int) (gg cap : Nat) (wm wbm w3 w4 : World) (V' : aC → Value), L (3, s, q) = l ∧
     (Instr.mapEntry 116 (.map (some K.mb)) (pk s q)).run Tryz.prog w = .ok (.tuple #[.slice la l.length lc, goInt st]) wm ∧
     (Instr.mapEntry 116 (.map (some K.mb)) (pk s q)).run Tryz.prog (w.alloc (.cells #[.int .i64 r] 3)) = .ok (.tuple #[.slice la l.length lc, goInt st]) wbm ∧
     wm.heap.size = w.heap.size ∧ wm.alloc (.cells #[.int .i64 r] 3) = wbm ∧
     (Builtin.append_ #[26, 26] 26 #[.slice la l.length lc, .slice (some ⟨w.heap.size, 0, none⟩) 1 1]).run Tryz.prog wbm = .ok (.slice (some ⟨gg, 0, none⟩) (l.length + 1) cap) w3 ∧
     (Instr.entryStore 116 (.map (some K.mb)) (goInt st) (.slice (some ⟨gg, 0, none⟩) (l.length + 1) cap)).run Tryz.prog w3 = .ok () w4 ∧
     Ixs base K T (ev L (3, s, q) (L (3, s, q) ++ [(r : Int)])) V' (c + 1) w4 ∧ Below base w w4 := by
 obtain ⟨iI, At, As, Ar, Aq⟩ := info_parts gB
 obtain ⟨es, clock, hm, hM⟩ := h.mp
 have Ag : K.mb < w.heap.size := (Array.getElem?_eq_some_iff.1 hm).1
 obtain ⟨la, lc, hv⟩ := h.pl.at (3, s, q)
 have Ad := h.pl.own (3, s, q)
 have hA := ae w (.cells #[.int .i64 r] 3)
 obtain ⟨st, Ac, Aa, hE, hS⟩ := wj hm hM hs hq hc
 have Al := sQ hM hm ((hA.block _ Ag).trans hm) hs hq hE
 have Ae : (setBlock w K.mb (.map Ac Aa)).heap.size = w.heap.size := dw
 have Aj := ae (setBlock w K.mb (.map Ac Aa)) (.cells #[.int .i64 r] 3)
 have Ao : ∀ g, (V (3, s, q)).ownBlock = some g → ((setBlock w K.mb (.map Ac Aa)).alloc (.cells #[.int .i64 r] 3)).heap[g]? = w.heap[g]? := fun g hg => (Aj.block g (by rw [Ae]; exact ax Ad hg)).trans (heap_setBlock_other hm _ fun e => jB Ad hm (e ▸ hg))
 have Am := World.news_of_block (cs := [.int .i64 r].toArray) (t := 3) (fr := (0, 0)) (heap_alloc_new (setBlock w K.mb (.map Ac Aa)) (.cells #[.int .i64 r] 3))
 rw [Ae] at Am
 obtain ⟨gg, cap, w3, An, Ah, Ab, Au, Av⟩ := run_append_lies (P := Tryz.prog) ((setBlock w K.mb (.map Ac Aa)).alloc (.cells #[.int .i64 r] 3)) 26 26 base 3 iI _ 1 8 Tryz.underlying26 At As Ar Aq rfl (by decide) (V (3, s, q)) (L (3, s, q)).length (aq (L (3, s, q))) (owns_keep Ad Ao) ⟨w.heap.size, 0, none⟩ 1 1 [.int .i64 r] rfl Am (by simp [Value.oneCell']) (by decide) (by unfold maxLen; omega) (by omega) (by simp [dw]; omega) (w.heap.size + 1) (by simp [dw])
 have Ai : ∀ k, k < w.heap.size → (V (3, s, q)).ownBlock ≠ some k → w3.heap[k]? = (setBlock w K.mb (.map Ac Aa)).heap[k]? := fun k hk hn => (Ab.block k (by simp [dw]; omega) fun e => hn e.symm).trans (Aj.block k (by rw [Ae]; exact hk))
 have Af : w3.heap[K.mb]? = some (.map Ac Aa) := (Ai _ Ag (jB Ad hm)).trans (heap_setBlock_same hm _)
 obtain ⟨es', clock', Ap, hM'⟩ := hS w3 (.slice (some ⟨gg, 0, none⟩) ((L (3, s, q)).length + 1) cap) Af
 have Ak : ∀ k, k < w.heap.size → (V (3, s, q)).ownBlock ≠ some k → k ≠ K.mb → (setBlock w3 K.mb (.map es' clock')).heap[k]? = w.heap[k]? := fun k hk hn hne => (heap_setBlock_other Af _ hne).trans ((Ai k hk hn).trans (heap_setBlock_other hm _ hne))
 rw [hv] at hE Al An
 refine ⟨_, la, lc, st, gg, cap, _, _, w3, _, _, rfl, hE, Al, Ae, (jm Ag).symm, ?_, Ap, h.ent (owns_keep Ah fun g e => heap_setBlock_other Af _ fun e2 => jB Ah Af (e2 ▸ e)) Ak (by rcases Au with e | e; exact .inl e; exact .inr (by omega)) (heap_setBlock_same Af _) hM', ?_⟩
 ·rw [jm Ag]
  exact An
 have h1 : Below base w (setBlock w K.mb (.map Ac Aa)) := jx h.lo.2.1
 have h2 := h1.trans (Aj.mono (by rw [Ae]; exact hb))
 exact (h2.trans ⟨Ab.os, Ab.tape, Ab.output, Ab.size, fun k hk => Ab.block k (by simp [dw]; omega) fun e => by have := (Ad.lt k e.symm).1; omega⟩).trans (jx h.lo.2.1)
end
def gR (ib im ia it : Nat) (w0 wb wm wbm w3 w4 : World) (L : Nat → Bool) : World := if L im then (if L it then w4 else if L ia then w3 else if L ib then wbm else wm) else if L ib then wb else w0
section
variable {ib im ia it i : Nat} {w0 wb wm wbm w3 w4 X : World} {L : Nat → Bool}
theorem fF (h1 : i ≠ ib) (h2 : i ≠ im) (h3 : i ≠ ia) (h4 : i ≠ it) : gR ib im ia it w0 wb wm wbm w3 w4 (more L i) = gR ib im ia it w0 wb wm wbm w3 w4 L := by
 unfold gR
 rw [al (Ne.symm h1), al (Ne.symm h2), al (Ne.symm h3), al (Ne.symm h4)]
theorem pI (h1 : L im = false) (h2 : L ib = false) : gR ib im ia it w0 wb wm wbm w3 w4 L = w0 := by unfold gR; rw [h1, h2]; rfl
theorem pG (h1 : L im = false) (h2 : L ib = true) : gR ib im ia it w0 wb wm wbm w3 w4 L = wb := by unfold gR; rw [h1, h2]; rfl
theorem xf (h1 : L im = true) (h2 : L ib = false) (h3 : L ia = false) (h4 : L it = false) : gR ib im ia it w0 wb wm wbm w3 w4 L = wm := by unfold gR; rw [h1, h2, h3, h4]; rfl
theorem qG (h1 : L im = true) (h2 : L ib = true) (h3 : L ia = false) (h4 : L it = false) : gR ib im ia it w0 wb wm wbm w3 w4 L = wbm := by unfold gR; rw [h1, h2, h3, h4]; rfl
theorem wP (h1 : L im = true) (h3 : L ia = true) (h4 : L it = false) : gR ib im ia it w0 wb wm wbm w3 w4 L = w3 := by unfold gR; rw [h1, h3, h4]; rfl
theorem wN (h1 : L im = true) (h4 : L it = true) : gR ib im ia it w0 wb wm wbm w3 w4 L = w4 := by unfold gR; rw [h1, h4]; rfl
end
end Go.Proofs.YtmlhcncagdfjfaaGreat.De
