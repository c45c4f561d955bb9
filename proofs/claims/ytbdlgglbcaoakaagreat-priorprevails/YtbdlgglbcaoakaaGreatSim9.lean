/- A rule's variables as the page keeps them, beside a scope: plain mathematics. -/
import Derived.Test.YtbdlgglbcaoakaaGreatCheck8
import Derived.Test.YtbdlgglbcaoakaaGreatRefE9
namespace Go.Proofs.YtbdlgglbcaoakaaGreat

theorem posB_lt' {l : List Bytes} {s : Bytes} (h : s ∈ l) : posB l s < l.length := by unfold posB; rw [if_pos h]; exact List.idxOf_lt_length_iff.2 h
theorem posB_at' {l : List Bytes} {s : Bytes} (h : s ∈ l) : l[posB l s]? = some s := by
  have hl := posB_lt' h
  rw [List.getElem?_eq_getElem hl]
  unfold posB at hl ⊢
  simp only [if_pos h] at hl ⊢
  exact congrArg some (List.getElem_idxOf hl)
theorem posB_inj' {l : List Bytes} {s t : Bytes} (hs : s ∈ l) (ht : t ∈ l) (h : posB l s = posB l t) : s = t := by
  have h1 := posB_at' hs
  rw [h, posB_at' ht] at h1
  exact (Option.some.inj h1).symm
theorem posB_app {l m : List Bytes} {s : Bytes} (h : s ∈ l) : posB (l ++ m) s = posB l s := by
  unfold posB
  rw [if_pos h, if_pos (List.mem_append.2 (.inl h)), List.idxOf_append, if_pos h]
theorem posB_new {l : List Bytes} {s : Bytes} (h : s ∉ l) : posB (l ++ [s]) s = l.length := by
  unfold posB
  rw [if_pos (List.mem_append.2 (.inr (by simp))), List.idxOf_append, if_neg h]
  simp
theorem names_app (v : Scope) (s : Bytes) (k : Int) : Scope.names (v ++ [(s, k)]) = v.names ++ [s] := by unfold Scope.names; simp
theorem kinds_app (v : Scope) (s : Bytes) (k : Int) : Scope.kinds (v ++ [(s, k)]) = v.kinds ++ [k] := by unfold Scope.kinds; simp
theorem lens_nk (v : Scope) : v.kinds.length = v.names.length := by unfold Scope.kinds Scope.names; simp
theorem getD_app_left {α : Type} {l m : List α} {i : Nat} {d : α} (h : i < l.length) : (l ++ m).getD i d = l.getD i d := by
  rw [List.getD_eq_getElem?_getD, List.getD_eq_getElem?_getD, List.getElem?_append_left h]
theorem getD_app_new {α : Type} {l : List α} {a d : α} : (l ++ [a]).getD l.length d = a := by
  rw [List.getD_eq_getElem?_getD, List.getElem?_append_right (Nat.le_refl _)]
  simp
theorem kindAt_app {v : Scope} {s x : Bytes} {k : Int} (hx : x ∈ v.names) : kindAt (v ++ [(s, k)]) x = kindAt v x := by
  unfold kindAt
  rw [names_app, kinds_app, posB_app hx, getD_app_left (by rw [lens_nk]; exact posB_lt' hx)]
theorem kindAt_new {v : Scope} {s : Bytes} {k : Int} (hs : s ∉ v.names) : kindAt (v ++ [(s, k)]) s = k := by
  unfold kindAt
  rw [names_app, kinds_app, posB_new hs, ← lens_nk]
  exact getD_app_new
theorem names_set {v : Scope} {s : Bytes} {k : Int} (hs : s ∈ v.names) : Scope.names (v.set (posB v.names s) (s, k)) = v.names := by
  have h1 := posB_at' hs
  have h2 := posB_lt' hs
  generalize posB v.names s = p at *
  unfold Scope.names at *
  rw [List.map_set]
  apply List.ext_getElem?
  intro j
  rw [List.getElem?_set]
  by_cases e : p = j
  · subst e
    rw [if_pos rfl, if_pos h2, h1]
  · rw [if_neg e]
theorem kindAt_set {v : Scope} {s x : Bytes} {k : Int} (hs : s ∈ v.names) (hx : x ∈ v.names) : kindAt (v.set (posB v.names s) (s, k)) x = if x = s then k else kindAt v x := by
  have h2 := posB_lt' hs
  unfold kindAt
  rw [names_set hs]
  have hk : Scope.kinds (v.set (posB v.names s) (s, k)) = v.kinds.set (posB v.names s) k := by unfold Scope.kinds; rw [List.map_set]
  rw [hk, List.getD_eq_getElem?_getD, List.getElem?_set]
  by_cases e : x = s
  · subst e
    rw [if_pos rfl, if_pos rfl, if_pos (by rw [lens_nk]; exact h2)]
    rfl
  · rw [if_neg e, if_neg (fun h => e (posB_inj' hx hs h.symm)), List.getD_eq_getElem?_getD]
/-- What the page's book holds of a scope. -/
structure Sim (v : Scope) (N : List Bytes) (Ks : List Int) (L : List Bytes) : Prop where
  nod : v.names.Nodup
  len : Ks.length = N.length
  inn : ∀ x, x ∈ N → x ∈ v.names ∧ kindAt v x = Ks.getD (posB N x) 0 ∧ kindAt v x ≠ -1
  out : ∀ x, x ∈ v.names → x ∉ N → kindAt v x = -1 ∧ x ∈ L
  loo : ∀ x, x ∈ L → x ∈ v.names
theorem Sim.nil : Sim [] [] [] [] := ⟨List.nodup_nil, rfl, fun x h => by simp at h, fun x h => by simp [Scope.names] at h, fun x h => by simp at h⟩
section
variable {v : Scope} {N : List Bytes} {Ks : List Int} {L : List Bytes} {s : Bytes} {k : Int}
theorem nod_app (h : v.names.Nodup) (hs : s ∉ v.names) (c : Int) : (Scope.names (v ++ [(s, c)])).Nodup := by
  rw [names_app, List.nodup_append]
  refine ⟨h, by simp, fun a ha b hb e => ?_⟩
  simp at hb
  subst hb
  subst e
  exact hs ha
theorem Sim.bind_new (h : Sim v N Ks L) (hs : s ∉ N) (hk : k ≠ -1) : ∃ v', bindM v s k = .ok v' ∧ Sim v' (N ++ [s]) (Ks ++ [k]) L := by
  have key : ∀ v1 : Scope, v1.names.Nodup → s ∈ v1.names → kindAt v1 s = -1 → (∀ x, x ≠ s → (x ∈ v1.names ↔ x ∈ v.names)) → (∀ x, x ≠ s → x ∈ v.names → kindAt v1 x = kindAt v x) → standM v s = v1 → ∃ v', bindM v s k = .ok v' ∧ Sim v' (N ++ [s]) (Ks ++ [k]) L := by
    intro v1 hn1 hm hkk hnm hkd hst
    have hb : bindS v s k = v1.set (posB v1.names s) (s, k) := by unfold bindS; rw [hst, if_pos hkk]
    refine ⟨bindS v s k, ?_, ?_⟩
    · unfold bindM
      rw [hb, kindAt_set hm hm, if_pos rfl, want_t (decide_eq_true rfl)]
      rfl
    · rw [hb]
      refine ⟨by rw [names_set hm]; exact hn1, by simp [h.len], fun x hx => ?_, fun x hx hxn => ?_, fun x hx => ?_⟩
      · rw [names_set hm]
        by_cases e : x = s
        · subst e
          refine ⟨hm, ?_, ?_⟩
          · rw [kindAt_set hm hm, if_pos rfl, posB_new hs, ← h.len]
            exact getD_app_new.symm
          · rw [kindAt_set hm hm, if_pos rfl]; exact hk
        · have hxN : x ∈ N := by
            rcases List.mem_append.1 hx with h1 | h1
            · exact h1
            · simp at h1; exact absurd h1 e
          obtain ⟨i1, i2, i3⟩ := h.inn x hxN
          have hx1 := (hnm x e).2 i1
          refine ⟨hx1, ?_, ?_⟩
          · rw [kindAt_set hm hx1, if_neg e, hkd x e i1, posB_app hxN, getD_app_left (by rw [h.len]; exact posB_lt' hxN)]
            exact i2
          · rw [kindAt_set hm hx1, if_neg e, hkd x e i1]
            exact i3
      · rw [names_set hm] at hx
        have e : x ≠ s := fun e => hxn (by rw [e]; simp)
        have hxv := (hnm x e).1 hx
        obtain ⟨o1, o2⟩ := h.out x hxv (fun hh => hxn (List.mem_append.2 (.inl hh)))
        exact ⟨by rw [kindAt_set hm hx, if_neg e, hkd x e hxv]; exact o1, o2⟩
      · rw [names_set hm]
        by_cases e : x = s
        · subst e; exact hm
        · exact (hnm x e).2 (h.loo x hx)
  by_cases hm : s ∈ v.names
  · exact key v h.nod hm (h.out s hm hs).1 (fun _ _ => Iff.rfl) (fun _ _ _ => rfl) (by unfold standM; rw [if_pos hm])
  · refine key (v ++ [(s, -1)]) (nod_app h.nod hm _) (by rw [names_app]; simp) (kindAt_new hm) (fun x e => ?_) (fun x e hx => kindAt_app hx) (by unfold standM; rw [if_neg hm])
    rw [names_app]
    simp [e]
theorem Sim.bind_same (h : Sim v N Ks L) (hs : s ∈ N) (hk : Ks.getD (posB N s) 0 = k) : bindM v s k = .ok v := by
  obtain ⟨i1, i2, i3⟩ := h.inn s hs
  have hst : standM v s = v := by unfold standM; rw [if_pos i1]
  have hb : bindS v s k = v := by unfold bindS; rw [hst, if_neg i3]
  unfold bindM
  rw [hb, i2, hk, want_t (decide_eq_true rfl)]
  rfl
theorem Sim.bind_not (h : Sim v N Ks L) (hs : s ∈ N) (hk : ¬ Ks.getD (posB N s) 0 = k) : bindM v s k = .error 81 := by
  obtain ⟨i1, i2, i3⟩ := h.inn s hs
  have hst : standM v s = v := by unfold standM; rw [if_pos i1]
  have hb : bindS v s k = v := by unfold bindS; rw [hst, if_neg i3]
  unfold bindM
  rw [hb, i2, want_f (decide_eq_false hk)]
  rfl
theorem Sim.stand (h : Sim v N Ks L) : Sim (standM v s) N Ks (L ++ [s]) := by
  unfold standM
  by_cases hm : s ∈ v.names
  · rw [if_pos hm]
    refine ⟨h.nod, h.len, h.inn, fun x hx hn => ⟨(h.out x hx hn).1, List.mem_append.2 (.inl (h.out x hx hn).2)⟩, fun x hx => ?_⟩
    rcases List.mem_append.1 hx with h1 | h1
    · exact h.loo x h1
    · simp at h1; subst h1; exact hm
  · rw [if_neg hm]
    refine ⟨nod_app h.nod hm _, h.len, fun x hx => ?_, fun x hx hn => ?_, fun x hx => ?_⟩
    · obtain ⟨i1, i2, i3⟩ := h.inn x hx
      refine ⟨by rw [names_app]; exact List.mem_append.2 (.inl i1), by rw [kindAt_app i1]; exact i2, by rw [kindAt_app i1]; exact i3⟩
    · rw [names_app] at hx
      by_cases e : x = s
      · subst e
        exact ⟨kindAt_new hm, List.mem_append.2 (.inr (by simp))⟩
      · have hxv : x ∈ v.names := by
          rcases List.mem_append.1 hx with h1 | h1
          · exact h1
          · simp at h1; exact absurd h1 e
        exact ⟨by rw [kindAt_app hxv]; exact (h.out x hxv hn).1, List.mem_append.2 (.inl (h.out x hxv hn).2)⟩
    · rw [names_app]
      rcases List.mem_append.1 hx with h1 | h1
      · exact List.mem_append.2 (.inl (h.loo x h1))
      · exact List.mem_append.2 (.inr h1)
theorem Sim.free (h : Sim v N Ks L) : ((-1 : Int) ∈ v.kinds) ↔ ∃ x ∈ L, x ∉ N := by
  constructor
  · intro hk
    obtain ⟨i, hi⟩ := List.mem_iff_getElem?.1 hk
    have hil : i < v.kinds.length := (List.getElem?_eq_some_iff.1 hi).1
    have hil2 : i < v.names.length := by rw [← lens_nk]; exact hil
    have hx : v.names[i] ∈ v.names := List.getElem_mem hil2
    have hp : posB v.names v.names[i] = i := by
      have h1 := posB_at' hx
      have h2 := posB_lt' hx
      exact (List.getElem?_inj h2 h.nod).1 (h1.trans (List.getElem?_eq_getElem hil2).symm)
    have hka : kindAt v v.names[i] = -1 := by
      unfold kindAt
      rw [hp, List.getD_eq_getElem?_getD, hi]
      rfl
    have hn : v.names[i] ∉ N := fun hh => (h.inn _ hh).2.2 hka
    exact ⟨_, (h.out _ hx hn).2, hn⟩
  · rintro ⟨x, hx, hn⟩
    have hxv := h.loo x hx
    have hka := (h.out x hxv hn).1
    unfold kindAt at hka
    have hl : posB v.names x < v.kinds.length := by rw [lens_nk]; exact posB_lt' hxv
    rw [List.getD_eq_getElem?_getD, List.getElem?_eq_getElem hl] at hka
    simp at hka
    rw [← hka]
    exact List.getElem_mem hl
end
theorem name_not_var {s : Bytes} (h : isNameB s = true) : isVarB s = false := by
  unfold isNameB speltB at h
  unfold isVarB speltB
  have h1 : smallB (s.getD 0 0) = true := by
    cases hb : smallB (s.getD 0 0) with
    | true => rfl
    | false => rw [hb] at h; simp at h
  have h2 : capB (s.getD 0 0) = false := by
    unfold smallB at h1
    unfold capB
    have h3 := of_decide_eq_true h1
    exact decide_eq_false (by omega)
  rw [h2]
  simp
end Go.Proofs.YtbdlgglbcaoakaaGreat
/- The page's book of a rule's variables, in memory. -/
namespace Go.Proofs.YtbdlgglbcaoakaaGreat
open Go.RowKit Go.Shelf Go.Maps Go.WideMaps

structure Bp (Z : Nat → Prop) (V : Nat) (nv kv lv : Value) (N : List Bytes) (Ks : List Int) (L : List Bytes) (w : World) : Prop where
  box : w.heap[V]? = some (.cells #[nv, kv, lv] 95 (0, 0))
  rowN : w.ownsRow 0 9 1 nv N.length (strs N)
  rowK : w.ownsRow 0 3 1 kv Ks.length (ints Ks)
  rowL : w.ownsRow 0 9 1 lv L.length (strs L)
  ne : ∀ g, nv.ownBlock = some g → lv.ownBlock ≠ some g
  zV : Z V
  zn : ∀ g, nv.ownBlock = some g → Z g
  zk : ∀ g, kv.ownBlock = some g → Z g
  zl : ∀ g, lv.ownBlock = some g → Z g
section
variable {Z Z' : Nat → Prop} {V : Nat} {nv kv lv : Value} {N : List Bytes} {Ks : List Int} {L : List Bytes} {w w' : World}
theorem Bp.keep (h : Bp Z V nv kv lv N Ks L w) (hb : ∀ k, Z k → k < w.heap.size → w'.heap[k]? = w.heap[k]?) : Bp Z V nv kv lv N Ks L w' :=
  ⟨(hb V h.zV (loc_lt h.box)).trans h.box, owns_keep h.rowN fun g hg => hb g (h.zn g hg) (owns_lt h.rowN hg), owns_keep h.rowK fun g hg => hb g (h.zk g hg) (owns_lt h.rowK hg), owns_keep h.rowL fun g hg => hb g (h.zl g hg) (owns_lt h.rowL hg), h.ne, h.zV, h.zn, h.zk, h.zl⟩
theorem Bp.below (h : Bp Z V nv kv lv N Ks L w) (hb : Below w.heap.size w w') : Bp Z V nv kv lv N Ks L w' := h.keep fun k _ hk => hb.block k hk
theorem Bp.mono (h : Bp Z V nv kv lv N Ks L w) (hz : ∀ k, k < w.heap.size → Z k → Z' k) : Bp Z' V nv kv lv N Ks L w :=
  ⟨h.box, h.rowN, h.rowK, h.rowL, h.ne, hz V (loc_lt h.box) h.zV, fun g hg => hz g (owns_lt h.rowN hg) (h.zn g hg), fun g hg => hz g (owns_lt h.rowK hg) (h.zk g hg), fun g hg => hz g (owns_lt h.rowL hg) (h.zl g hg)⟩
theorem Bp.cells (h : Bp Z V nv kv lv N Ks L w) : w.cell? ⟨V, 0, none⟩ = some nv ∧ w.cell? ⟨V, 1, none⟩ = some kv ∧ w.cell? ⟨V, 2, none⟩ = some lv :=
  ⟨cell_of_row w V 0 _ _ _ h.box, cell_of_row w V 1 _ _ _ h.box, cell_of_row w V 2 _ _ _ h.box⟩
theorem strs_one (l : List Bytes) (s : Bytes) : strs (l ++ [s]) = strs l ++ [.string ⟨s.toArray⟩] := by unfold strs str; simp
theorem ints_one (l : List Int) (k : Int) : ints (l ++ [k]) = ints l ++ [.int .i64 k] := by unfold ints; simp
theorem Bp.growN (h : Bp Z V nv kv lv N Ks L w) (hz : ∀ g, w.heap.size ≤ g → Z g) {o : Obj} {w2 : World} {g cap : Nat} {s : Bytes} (hown : w2.ownsRow 0 9 1 (.slice (some ⟨g, 0, none⟩) (N.length + 1) cap) (N.length + 1) (strs N ++ [.string ⟨s.toArray⟩]))
    (hg : (nv.ownBlock = some g ∧ (w.alloc o).grownBy w2 (some g)) ∨ (g = w.heap.size + 1 ∧ (w.alloc o).grownBy w2 none)) :
    Bp Z V (.slice (some ⟨g, 0, none⟩) (N.length + 1) cap) kv lv (N ++ [s]) Ks L (w2.setCell ⟨V, 0, none⟩ (.slice (some ⟨g, 0, none⟩) (N.length + 1) cap)) ∧ Fr Z w (w2.setCell ⟨V, 0, none⟩ (.slice (some ⟨g, 0, none⟩) (N.length + 1) cap)) ∧ w2.cell? ⟨V, 0, none⟩ = some nv ∧ w2.frozen? ⟨V, 0, none⟩ = false := by
  have hgB : g ≠ V := by
    rcases hg with ⟨h1, _⟩ | ⟨h1, _⟩
    · intro e; exact own_ne h.rowN h.box (by decide) (by rw [h1, e])
    · have := loc_lt h.box; omega
  have hgz : Z g := by
    rcases hg with ⟨h1, _⟩ | ⟨h1, _⟩
    · exact h.zn g h1
    · exact hz g (by omega)
  have hb2 := (grown_old rfl hg (loc_lt h.box) (own_ne h.rowN h.box (by decide))).trans h.box
  have hf2 : Fr Z w w2 := grown_fr (Z := Z) rfl hg h.zn
  have o3 : ∀ j, j ≠ V → (w2.setCell ⟨V, 0, none⟩ (.slice (some ⟨g, 0, none⟩) (N.length + 1) cap)).heap[j]? = w2.heap[j]? := fun j hj => heap_setCell_other w2 ⟨V, 0, none⟩ j _ hj
  have hb3 := loc_set (i := 0) (v := .slice (some ⟨g, 0, none⟩) (N.length + 1) cap) hb2
  have hk : (w2.setCell ⟨V, 0, none⟩ (.slice (some ⟨g, 0, none⟩) (N.length + 1) cap)).ownsRow 0 3 1 kv Ks.length (ints Ks) := owns_keep h.rowK fun j hj => (o3 j (fun e => own_ne h.rowK h.box (by decide) (by rw [← e]; exact hj))).trans (grown_old rfl hg (owns_lt h.rowK hj) (own_ne2 h.rowN h.rowK (by decide) hj))
  have hl : (w2.setCell ⟨V, 0, none⟩ (.slice (some ⟨g, 0, none⟩) (N.length + 1) cap)).ownsRow 0 9 1 lv L.length (strs L) := owns_keep h.rowL fun j hj => (o3 j (fun e => own_ne h.rowL h.box (by decide) (by rw [← e]; exact hj))).trans (grown_old rfl hg (owns_lt h.rowL hj) (fun e => h.ne j e hj))
  have hn : (w2.setCell ⟨V, 0, none⟩ (.slice (some ⟨g, 0, none⟩) (N.length + 1) cap)).ownsRow 0 9 1 (.slice (some ⟨g, 0, none⟩) (N.length + 1) cap) (N ++ [s]).length (strs (N ++ [s])) := by
    rw [strs_one, List.length_append]
    exact owns_keep hown fun j hj => o3 j (by cases hj; exact hgB)
  refine ⟨⟨by simpa using hb3, hn, hk, hl, ?ne, h.zV, (fun j hj => by cases hj; exact hgz), h.zk, h.zl⟩, hf2.trans (.setCell ⟨V, 0, none⟩ (.slice (some ⟨g, 0, none⟩) (N.length + 1) cap) h.zV), cell_of_row w2 V 0 _ _ _ hb2, frozen_of_row w2 V 0 _ _ hb2⟩
  case ne =>
    intro j hj
    cases hj
    rcases hg with ⟨h1, _⟩ | ⟨h1, _⟩
    · exact h.ne _ h1
    · intro e
      have : g < w.heap.size := owns_lt h.rowL e
      omega
theorem Bp.growL (h : Bp Z V nv kv lv N Ks L w) (hz : ∀ g, w.heap.size ≤ g → Z g) {o : Obj} {w2 : World} {g cap : Nat} {s : Bytes} (hown : w2.ownsRow 0 9 1 (.slice (some ⟨g, 0, none⟩) (L.length + 1) cap) (L.length + 1) (strs L ++ [.string ⟨s.toArray⟩]))
    (hg : (lv.ownBlock = some g ∧ (w.alloc o).grownBy w2 (some g)) ∨ (g = w.heap.size + 1 ∧ (w.alloc o).grownBy w2 none)) :
    Bp Z V nv kv (.slice (some ⟨g, 0, none⟩) (L.length + 1) cap) N Ks (L ++ [s]) (w2.setCell ⟨V, 2, none⟩ (.slice (some ⟨g, 0, none⟩) (L.length + 1) cap)) ∧ Fr Z w (w2.setCell ⟨V, 2, none⟩ (.slice (some ⟨g, 0, none⟩) (L.length + 1) cap)) ∧ w2.cell? ⟨V, 2, none⟩ = some lv ∧ w2.frozen? ⟨V, 2, none⟩ = false := by
  have hgB : g ≠ V := by
    rcases hg with ⟨h1, _⟩ | ⟨h1, _⟩
    · intro e; exact own_ne h.rowL h.box (by decide) (by rw [h1, e])
    · have := loc_lt h.box; omega
  have hgz : Z g := by
    rcases hg with ⟨h1, _⟩ | ⟨h1, _⟩
    · exact h.zl g h1
    · exact hz g (by omega)
  have hb2 := (grown_old rfl hg (loc_lt h.box) (own_ne h.rowL h.box (by decide))).trans h.box
  have hf2 : Fr Z w w2 := grown_fr (Z := Z) rfl hg h.zl
  have o3 : ∀ j, j ≠ V → (w2.setCell ⟨V, 2, none⟩ (.slice (some ⟨g, 0, none⟩) (L.length + 1) cap)).heap[j]? = w2.heap[j]? := fun j hj => heap_setCell_other w2 ⟨V, 2, none⟩ j _ hj
  have hb3 := loc_set (i := 2) (v := .slice (some ⟨g, 0, none⟩) (L.length + 1) cap) hb2
  have hk : (w2.setCell ⟨V, 2, none⟩ (.slice (some ⟨g, 0, none⟩) (L.length + 1) cap)).ownsRow 0 3 1 kv Ks.length (ints Ks) := owns_keep h.rowK fun j hj => (o3 j (fun e => own_ne h.rowK h.box (by decide) (by rw [← e]; exact hj))).trans (grown_old rfl hg (owns_lt h.rowK hj) (own_ne2 h.rowL h.rowK (by decide) hj))
  have hn : (w2.setCell ⟨V, 2, none⟩ (.slice (some ⟨g, 0, none⟩) (L.length + 1) cap)).ownsRow 0 9 1 nv N.length (strs N) := owns_keep h.rowN fun j hj => (o3 j (fun e => own_ne h.rowN h.box (by decide) (by rw [← e]; exact hj))).trans (grown_old rfl hg (owns_lt h.rowN hj) (fun e => h.ne j hj e))
  have hl : (w2.setCell ⟨V, 2, none⟩ (.slice (some ⟨g, 0, none⟩) (L.length + 1) cap)).ownsRow 0 9 1 (.slice (some ⟨g, 0, none⟩) (L.length + 1) cap) (L ++ [s]).length (strs (L ++ [s])) := by
    rw [strs_one, List.length_append]
    exact owns_keep hown fun j hj => o3 j (by cases hj; exact hgB)
  refine ⟨⟨by simpa using hb3, hn, hk, hl, ?ne, h.zV, h.zn, h.zk, (fun j hj => by cases hj; exact hgz)⟩, hf2.trans (.setCell ⟨V, 2, none⟩ (.slice (some ⟨g, 0, none⟩) (L.length + 1) cap) h.zV), cell_of_row w2 V 2 _ _ _ hb2, frozen_of_row w2 V 2 _ _ hb2⟩
  case ne =>
    intro j hj e
    cases e
    rcases hg with ⟨h1, _⟩ | ⟨h1, _⟩
    · exact h.ne _ hj h1
    · have : g < w.heap.size := owns_lt h.rowN hj
      omega
theorem Bp.growK (h : Bp Z V nv kv lv N Ks L w) (hz : ∀ g, w.heap.size ≤ g → Z g) {o : Obj} {w2 : World} {g cap : Nat} {k : Int} (hown : w2.ownsRow 0 3 1 (.slice (some ⟨g, 0, none⟩) (Ks.length + 1) cap) (Ks.length + 1) (ints Ks ++ [.int .i64 k]))
    (hg : (kv.ownBlock = some g ∧ (w.alloc o).grownBy w2 (some g)) ∨ (g = w.heap.size + 1 ∧ (w.alloc o).grownBy w2 none)) :
    Bp Z V nv (.slice (some ⟨g, 0, none⟩) (Ks.length + 1) cap) lv N (Ks ++ [k]) L (w2.setCell ⟨V, 1, none⟩ (.slice (some ⟨g, 0, none⟩) (Ks.length + 1) cap)) ∧ Fr Z w (w2.setCell ⟨V, 1, none⟩ (.slice (some ⟨g, 0, none⟩) (Ks.length + 1) cap)) ∧ w2.cell? ⟨V, 1, none⟩ = some kv ∧ w2.frozen? ⟨V, 1, none⟩ = false := by
  have hgB : g ≠ V := by
    rcases hg with ⟨h1, _⟩ | ⟨h1, _⟩
    · intro e; exact own_ne h.rowK h.box (by decide) (by rw [h1, e])
    · have := loc_lt h.box; omega
  have hgz : Z g := by
    rcases hg with ⟨h1, _⟩ | ⟨h1, _⟩
    · exact h.zk g h1
    · exact hz g (by omega)
  have hb2 := (grown_old rfl hg (loc_lt h.box) (own_ne h.rowK h.box (by decide))).trans h.box
  have hf2 : Fr Z w w2 := grown_fr (Z := Z) rfl hg h.zk
  have o3 : ∀ j, j ≠ V → (w2.setCell ⟨V, 1, none⟩ (.slice (some ⟨g, 0, none⟩) (Ks.length + 1) cap)).heap[j]? = w2.heap[j]? := fun j hj => heap_setCell_other w2 ⟨V, 1, none⟩ j _ hj
  have hb3 := loc_set (i := 1) (v := .slice (some ⟨g, 0, none⟩) (Ks.length + 1) cap) hb2
  have hn : (w2.setCell ⟨V, 1, none⟩ (.slice (some ⟨g, 0, none⟩) (Ks.length + 1) cap)).ownsRow 0 9 1 nv N.length (strs N) := owns_keep h.rowN fun j hj => (o3 j (fun e => own_ne h.rowN h.box (by decide) (by rw [← e]; exact hj))).trans (grown_old rfl hg (owns_lt h.rowN hj) (own_ne2 h.rowK h.rowN (by decide) hj))
  have hl : (w2.setCell ⟨V, 1, none⟩ (.slice (some ⟨g, 0, none⟩) (Ks.length + 1) cap)).ownsRow 0 9 1 lv L.length (strs L) := owns_keep h.rowL fun j hj => (o3 j (fun e => own_ne h.rowL h.box (by decide) (by rw [← e]; exact hj))).trans (grown_old rfl hg (owns_lt h.rowL hj) (own_ne2 h.rowK h.rowL (by decide) hj))
  have hk : (w2.setCell ⟨V, 1, none⟩ (.slice (some ⟨g, 0, none⟩) (Ks.length + 1) cap)).ownsRow 0 3 1 (.slice (some ⟨g, 0, none⟩) (Ks.length + 1) cap) (Ks ++ [k]).length (ints (Ks ++ [k])) := by
    rw [ints_one, List.length_append]
    exact owns_keep hown fun j hj => o3 j (by cases hj; exact hgB)
  refine ⟨⟨by simpa using hb3, hn, hk, hl, ?ne, h.zV, h.zn, (fun j hj => by cases hj; exact hgz), h.zl⟩, hf2.trans (.setCell ⟨V, 1, none⟩ (.slice (some ⟨g, 0, none⟩) (Ks.length + 1) cap) h.zV), cell_of_row w2 V 1 _ _ _ hb2, frozen_of_row w2 V 1 _ _ hb2⟩
  case ne => exact h.ne
end
/-- All that the page's book is asked with. -/
structure Pk (W0 : World) (S : StatM) (st : St9) (Z : Nat → Prop) (V B : Nat) (v : Scope) (X : World) : Prop where
  srW : SR W0.heap.size W0 S st
  fit : S.fitsB = true
  bel : Below W0.heap.size W0 X
  low : ∀ k, Z k → W0.heap.size ≤ k
  bk : ∃ nv kv lv N Ks L, Bp Z V nv kv lv N Ks L X ∧ Sim v N Ks L ∧ N.length ≤ B ∧ L.length ≤ B
  new : ∀ g, X.heap.size ≤ g → Z g
section
variable {W0 : World} {S : StatM} {st : St9} {Z Z' : Nat → Prop} {V B B' : Nat} {v v' : Scope} {X X' X1 : World}
theorem Pk.sr (h : Pk W0 S st Z V B v X) : SR X.heap.size X S st := SR.mono h.bel.size (h.srW.keep h.bel.block)
theorem Pk.fr (h : Pk W0 S st Z V B v X) (hf : Fr Z X X') (hs : ∃ nv kv lv N Ks L, Bp Z V nv kv lv N Ks L X' ∧ Sim v' N Ks L ∧ N.length ≤ B' ∧ L.length ≤ B') : Pk W0 S st Z V B' v' X' :=
  ⟨h.srW, h.fit, h.bel.trans (hf.below fun k hk => ⟨Nat.lt_of_lt_of_le hk h.bel.size, fun hz => by have := h.low k hz; omega⟩), h.low, hs, fun g hg => h.new g (Nat.le_trans hf.size hg)⟩
theorem Pk.below (h : Pk W0 S st Z V B v X) (hb : Below X.heap.size X X') : Pk W0 S st Z V B v X' := by
  obtain ⟨nv, kv, lv, N, Ks, L, h1, h2, h3, h4⟩ := h.bk
  exact h.fr (.of_below hb) ⟨nv, kv, lv, N, Ks, L, h1.below hb, h2, h3, h4⟩
theorem Pk.grow (h : Pk W0 S st Z V B v X) (hB : B ≤ B') : Pk W0 S st Z V B' v X := by
  obtain ⟨nv, kv, lv, N, Ks, L, h1, h2, h3, h4⟩ := h.bk
  exact ⟨h.srW, h.fit, h.bel, h.low, ⟨nv, kv, lv, N, Ks, L, h1, h2, by omega, by omega⟩, h.new⟩
/-- What is new beside belongs to nobody. -/
theorem Pk.fits (h : Pk W0 S st Z V B v X) (hb : Below X.heap.size X X1) : Pk W0 S st (fun k => (Z k ∧ k < X.heap.size) ∨ X1.heap.size ≤ k) V B v X1 := by
  obtain ⟨nv, kv, lv, N, Ks, L, h1, h2, h3, h4⟩ := h.bk
  have hx := h.bel.size
  have hs := hb.size
  refine ⟨h.srW, h.fit, h.bel.trans (hb.mono hx), ?_, ⟨nv, kv, lv, N, Ks, L, (h1.mono fun k hk hz => .inl ⟨hz, hk⟩).keep ?_, h2, h3, h4⟩, fun g hg => .inr hg⟩
  · rintro k (a | a)
    · exact h.low k a.1
    · omega
  · intro k _ hk
    exact hb.block k hk
theorem Pk.sub (h : Pk W0 S st Z V B v X) (hb : Below X.heap.size X X1) : ∀ k, ((Z k ∧ k < X.heap.size) ∨ X1.heap.size ≤ k) → Z k := by
  rintro k (a | a)
  · exact a.1
  · exact h.new k (by have := hb.size; omega)
theorem Pk.up (h : Pk W0 S st Z V B v X) (h' : Pk W0 S st Z' V B' v' X') (hz : ∀ k, Z' k → Z k) : Pk W0 S st Z V B' v' X' := by
  obtain ⟨nv, kv, lv, N, Ks, L, h1, h2, h3, h4⟩ := h'.bk
  exact ⟨h'.srW, h'.fit, h'.bel, h.low, ⟨nv, kv, lv, N, Ks, L, h1.mono fun k _ e => hz k e, h2, h3, h4⟩, fun g hg => hz g (h'.new g hg)⟩
end
/-- How a question to the page's book ends. -/
def Eks (W0 : World) (S : StatM) (st : St9) (Z : Nat → Prop) (V B : Nat) (X : World) (o : Er Scope) (e : Ending) (X' : World) : Prop :=
  e = .returned (.int .i64 (erc o)) ∧ Fr Z X X' ∧ ∀ v', o = .ok v' → Pk W0 S st Z V B v' X'
section
variable {W0 : World} {S : StatM} {st : St9} {Z : Nat → Prop} {V B : Nat} {X X' : World} {o : Er Scope}
theorem Eks.bad {c : Int} (h : .error c = o) (hf : Fr Z X X') : Eks W0 S st Z V B X o (.returned (.int .i64 c)) X' := by subst h; exact ⟨rfl, hf, fun _ e => by cases e⟩
theorem Eks.ok {v : Scope} (h : .ok v = o) (hf : Fr Z X X') (hp : Pk W0 S st Z V B v X') : Eks W0 S st Z V B X o (.returned (.int .i64 0)) X' := by subst h; exact ⟨rfl, hf, fun _ e => by cases e; exact hp⟩
theorem Eks.no {e : Ending} (h : Eks W0 S st Z V B X o e X') : (∃ c, o = .error c ∧ e = .returned (.int .i64 c) ∧ Fr Z X X') ∨ (∃ v', o = .ok v' ∧ e = .returned (.int .i64 0) ∧ Pk W0 S st Z V B v' X' ∧ Fr Z X X') := by
  obtain ⟨h1, h2, h3⟩ := h
  cases o with
  | ok v => exact .inr ⟨v, rfl, h1, h3 v rfl, h2⟩
  | error c => exact .inl ⟨c, rfl, h1, h2⟩
end
end Go.Proofs.YtbdlgglbcaoakaaGreat
