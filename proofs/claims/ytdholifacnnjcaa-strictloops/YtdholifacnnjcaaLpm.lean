/- Why it is neither, plainly. -/
import Derived.Test.YtdholifacnnjcaaStf
namespace Go.Proofs.Ytdholifacnnjcaa

abbrev missM (sg : List Int) : Int → Bool := fun x => !decide (gi sg x = 1)
def nxM (sg : List Int) (T : Th) (q : Int) : Int := match idxF (standM sg T) 0 (strL T T.rules.length q) with
  | none => 0
  | some k => match T.rules[((strL T T.rules.length q).getD k 0).toNat]? with
    | none => 0
    | some R => match idxF (missM sg) 0 R.body with
      | none => 0
      | some j => R.body.getD j 0
/-- The next one: where it is found. -/
structure Nx (sg : List Int) (T : Th) (n : Nat) (q : Int) (k r j : Nat) (R : RuleM) (x : Int) : Prop where
  ki : idxF (standM sg T) 0 (strL T T.rules.length q) = some k
  kr : (strL T T.rules.length q)[k]? = some (r : Int)
  rr : T.rules[r]? = some R
  kd : R.kind = 1
  hd : R.head = q
  ji : idxF (missM sg) 0 R.body = some j
  jx : R.body[j]? = some x
  x0 : 0 ≤ x ∧ x < (n : Int)
  xs : gi sg x = 0
  nx : nxM sg T q = x
theorem strL_at {T : Th} {k j : Nat} {z r : Int} (h : (strL T k z)[j]? = some r) : ∃ (a : Nat) (R : RuleM), r = a ∧ a < k ∧ T.rules[a]? = some R ∧ R.kind = 1 ∧ R.head = z := by
  have hm := List.mem_of_getElem? h
  unfold strL at hm
  obtain ⟨a, ha, e⟩ := List.mem_map.1 hm
  have h2 := (List.mem_filter.1 ha).2
  have h3 := List.mem_range.1 (List.mem_filter.1 ha).1
  unfold strB at h2
  cases hr : T.rules[a]? with
  | none => rw [hr] at h2; cases h2
  | some R =>
    rw [hr] at h2
    simp at h2
    exact ⟨a, R, e.symm, h3, hr, h2.1, h2.2⟩
theorem strL_mem {T : Th} {k : Nat} {z : Int} {a : Nat} {R : RuleM} (ha : a < k) (hr : T.rules[a]? = some R) (hk : R.kind = 1) (hh : R.head = z) : (a : Int) ∈ strL T k z := by
  unfold strL
  refine List.mem_map.2 ⟨a, List.mem_filter.2 ⟨List.mem_range.2 ha, ?_⟩, rfl⟩
  unfold strB
  rw [hr]
  simp [hk, hh]
section
variable {T : Th} {F : List Int} {n : Nat} {sg rd : List Int}
theorem Fin.next (h : Fin T F n sg rd) (hN : Nm T F n) {q : Int} (hq : 0 ≤ q ∧ q < (n : Int)) (h0 : gi sg q = 0) : ∃ k r j R x, Nx sg T n q k r j R x := by
  obtain ⟨qn, rfl⟩ := Int.eq_ofNat_of_zero_le hq.1
  have hqn : qn < n := by omega
  rw [gi_nat] at h0
  have hnp : ¬ PD T F qn := fun hp => by have := (h.pd qn hqn).2 hp; omega
  have hnm : ¬ MD T F qn := fun hp => by have := (h.md qn hqn).2 hp; omega
  have sgb : ∀ y : Int, 0 ≤ y ∧ y < (n : Int) → gi sg y = 2 → MD T F y := by
    intro y hy e
    obtain ⟨yn, rfl⟩ := Int.eq_ofNat_of_zero_le hy.1
    rw [gi_nat] at e
    exact (h.md yn (by omega)).1 e
  have sga : ∀ y : Int, 0 ≤ y ∧ y < (n : Int) → gi sg y = 1 → PD T F y := by
    intro y hy e
    obtain ⟨yn, rfl⟩ := Int.eq_ofNat_of_zero_le hy.1
    rw [gi_nat] at e
    exact (h.pd yn (by omega)).1 e
  cases hk : idxF (standM sg T) 0 (strL T T.rules.length (qn : Int)) with
  | none =>
    exfalso
    apply hnm
    refine MD.of (fun hf => hnp (.fact hf)) fun R hR hkd hhd => ?_
    obtain ⟨a, ha, hya⟩ := List.mem_iff_getElem.1 hR
    have hya : T.rules[a]? = some R := by rw [List.getElem?_eq_getElem ha, hya]
    have hs := idxF_none hk (a : Int) (strL_mem ha hya hkd hhd)
    unfold standM at hs
    rw [Int.toNat_natCast, hya] at hs
    simp only [Option.map_some, Option.getD_some, Bool.not_eq_false'] at hs
    obtain ⟨j, hj⟩ := Option.isSome_iff_exists.1 hs
    obtain ⟨i, x, -, hx, hp, -⟩ := idxF_some hj
    have hxm := List.mem_of_getElem? hx
    exact ⟨x, hxm, sgb x (hN.body R hR x hxm) (by simpa using hp)⟩
  | some k =>
    obtain ⟨i, r0, e, hr0, hp, -⟩ := idxF_some hk
    have e : k = i := by omega
    subst e
    obtain ⟨r, R, rfl, hrl, hR, hkd, hhd⟩ := strL_at hr0
    have hmem := List.mem_of_getElem? hR
    have hst : ∀ x ∈ R.body, gi sg x ≠ 2 := by
      intro x hx e2
      unfold standM at hp
      rw [Int.toNat_natCast, hR] at hp
      simp only [Option.map_some, Option.getD_some] at hp
      cases hi : idxF (fun x => decide (gi sg x = 2)) 0 R.body with
      | none =>
        have := idxF_none hi x hx
        exact absurd e2 (of_decide_eq_false this)
      | some j => rw [hi] at hp; cases hp
    cases hj : idxF (missM sg) 0 R.body with
    | none =>
      exfalso
      apply hnp
      rw [← hhd]
      refine .rule hmem hkd fun x hx => sga x (hN.body R hmem x hx) ?_
      have := idxF_none hj x hx
      simpa using this
    | some j =>
      obtain ⟨i, x, e, hx, hpx, -⟩ := idxF_some hj
      have e : j = i := by omega
      subst e
      have hxm := List.mem_of_getElem? hx
      have hx0 := hN.body R hmem x hxm
      refine ⟨k, r, j, R, x, hk, hr0, hR, hkd, hhd, hj, hx, hx0, ?_, ?_⟩
      · obtain ⟨xn, rfl⟩ := Int.eq_ofNat_of_zero_le hx0.1
        have h1 : gi sg (xn : Int) ≠ 1 := by simpa using hpx
        have h2 := hst _ hxm
        rw [gi_nat] at h1 h2 ⊢
        rcases h.three xn (by omega) with h | h | h
        · exact h
        · exact absurd h h1
        · exact absurd h h2
      · unfold nxM
        rw [hk]
        simp only
        have e1 : (strL T T.rules.length (qn : Int)).getD k 0 = (r : Int) := by rw [List.getD_eq_getElem?_getD, hr0]; rfl
        rw [e1, Int.toNat_natCast, hR]
        simp only [hj]
        rw [List.getD_eq_getElem?_getD, hx]
        rfl
end
/-- The way so far: P ahead, then q. -/
structure Lq (sg : List Int) (T : Th) (n : Nat) (lit : Int) (P : List Int) (q : Int) (seen : List Bool) : Prop where
  hd : (P ++ [q])[0]? = some lit
  ch : ∀ (i : Nat) x y, (P ++ [q])[i]? = some x → (P ++ [q])[i + 1]? = some y → y = nxM sg T x
  al : ∀ x ∈ P ++ [q], (0 ≤ x ∧ x < (n : Int)) ∧ gi sg x = 0
  nd : P.Nodup
  ls : seen.length = n
  sn : ∀ z : Nat, z < n → (seen.getD z false = true ↔ (z : Int) ∈ P)
section
variable {sg : List Int} {T : Th} {n : Nat} {lit q : Int} {P : List Int} {seen : List Bool}
theorem Lq.start (h : 0 ≤ lit ∧ lit < (n : Int)) (h0 : gi sg lit = 0) : Lq sg T n lit [] lit (List.replicate n false) := by
  refine ⟨rfl, fun i x y hx hy => ?_, fun x hx => ?_, List.nodup_nil, by simp, fun z hz => ?_⟩
  · simp at hy
  · simp at hx; subst hx; exact ⟨h, h0⟩
  · rw [repF]; simp
theorem Lq.next (h : Lq sg T n lit P q seen) (hs : seen.getD q.toNat false = false) {x : Int} (hx : 0 ≤ x ∧ x < (n : Int)) (hx0 : gi sg x = 0) (hn : nxM sg T q = x) : Lq sg T n lit (P ++ [q]) x (seen.set q.toNat true) := by
  have hq := (h.al q (by simp)).1
  have hqn : q.toNat < n := by omega
  have hqP : q ∉ P := by
    intro hin
    have := (h.sn q.toNat hqn).2 (by rw [show ((q.toNat : Nat) : Int) = q by omega]; exact hin)
    rw [this] at hs
    cases hs
  refine ⟨?_, fun i a b ha hb => ?_, fun y hy => ?_, ?_, by rw [List.length_set]; exact h.ls, fun z hz => ?_⟩
  · rw [List.getElem?_append_left (by simp)]; exact h.hd
  · by_cases hi : i + 1 < (P ++ [q]).length
    · rw [List.getElem?_append_left (by omega)] at ha
      rw [List.getElem?_append_left hi] at hb
      exact h.ch i a b ha hb
    · have hbl : i + 1 < (P ++ [q] ++ [x]).length := (List.getElem?_eq_some_iff.1 hb).1
      simp only [List.length_append, List.length_cons, List.length_nil] at hi hbl
      have hip : i = P.length := by omega
      subst hip
      have e1 : (P ++ [q] ++ [x])[P.length]? = some q := by
        rw [List.getElem?_append_left (by simp), List.getElem?_append_right (Nat.le_refl _), Nat.sub_self]; rfl
      have e2 : (P ++ [q] ++ [x])[P.length + 1]? = some x := by
        rw [List.getElem?_append_right (by simp)]; simp
      rw [e1] at ha
      rw [e2] at hb
      cases ha
      cases hb
      exact hn.symm
  · rcases List.mem_append.1 hy with hy | hy
    · exact h.al y hy
    · have : y = x := by simpa using hy
      subst this
      exact ⟨hx, hx0⟩
  · rw [List.nodup_append]
    refine ⟨h.nd, by simp, fun a ha b hb e => ?_⟩
    have : b = q := by simpa using hb
    subst e
    subst this
    exact hqP ha
  · rw [getD_set (by rw [h.ls]; exact hqn)]
    by_cases e : z = q.toNat
    · subst e
      rw [if_pos rfl]
      have : ((q.toNat : Nat) : Int) = q := by omega
      rw [this]
      simp
    · rw [if_neg e, h.sn z hz]
      have : (z : Int) ≠ q := by omega
      simp [this]
theorem Lq.len (h : Lq sg T n lit P q seen) : P.length ≤ n := by
  have h1 := nodup_le (m := (List.range n).map Int.ofNat) h.nd fun x hx => by
    have := (h.al x (List.mem_append_left _ hx)).1
    obtain ⟨a, rfl⟩ := Int.eq_ofNat_of_zero_le this.1
    exact List.mem_map.2 ⟨a, List.mem_range.2 (by omega), rfl⟩
  simpa using h1
end
end Go.Proofs.Ytdholifacnnjcaa
