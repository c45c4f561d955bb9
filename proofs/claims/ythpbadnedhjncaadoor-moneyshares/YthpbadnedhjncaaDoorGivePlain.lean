/- Who is given one more: the first of the sorted places. No Go in sight. -/
import Derived.Test.YthpbadnedhjncaaDoorSortPlain
import Derived.Test.YthpbadnedhjncaaDoorShareP
namespace Go.Proofs.YthpbadnedhjncaaDoor

theorem bestAt_spec (rs : List Int) : ∀ k, 1 ≤ k → (∀ i, i < k → rs.getD i 0 ≤ rs.getD (bestAt rs k) 0) ∧ (∀ i, i < bestAt rs k → rs.getD i 0 < rs.getD (bestAt rs k) 0) := by
  intro k
  induction k with
  | zero => intro h; omega
  | succ k ih =>
    intro _
    rcases Nat.eq_zero_or_pos k with rfl | hk
    · rw [bestAt_one]
      exact ⟨fun i hi => by have : i = 0 := by omega
                            subst this; exact Int.le_refl _, fun i hi => by omega⟩
    · obtain ⟨h1, h2⟩ := ih hk
      rw [bestAt]
      split
      · rename_i h
        refine ⟨fun i hi => ?_, fun i hi => ?_⟩
        · by_cases e : i = k
          · subst e; exact Int.le_refl _
          · have := h1 i (by omega); omega
        · have := h1 i hi; omega
      · rename_i h
        refine ⟨fun i hi => ?_, h2⟩
        by_cases e : i = k
        · subst e; omega
        · exact h1 i (by omega)

theorem bestAt_eq {rs : List Int} {n p : Nat} (hp : p < n) (h1 : ∀ i, i < n → rs.getD i 0 ≤ rs.getD p 0) (h2 : ∀ i, i < p → rs.getD i 0 < rs.getD p 0) : bestAt rs n = p := by
  obtain ⟨s1, s2⟩ := bestAt_spec rs n (by omega)
  have hb := bestAt_lt rs n (by omega)
  generalize bestAt rs n = b at *
  rcases Nat.lt_trichotomy b p with h | h | h
  · have := h2 b h; have := s1 p hp; omega
  · exact h
  · have := s2 p h; have := h1 b hb; omega

/-- The first m places struck. -/
def struck (f : Nat → Nat) : Nat → List Int → List Int
  | 0, rs => rs
  | m + 1, rs => (struck f m rs).set (f m) (-1)

theorem struck_len (f : Nat → Nat) (rs : List Int) : ∀ m, (struck f m rs).length = rs.length := by
  intro m
  induction m with
  | zero => rfl
  | succ m ih => rw [struck, List.length_set, ih]

theorem getD_set (l : List Int) (p i : Nat) (x : Int) (hp : p < l.length) : (l.set p x).getD i 0 = if i = p then x else l.getD i 0 := by
  by_cases h : i = p
  · subst h; simp [List.getD, hp]
  · rw [if_neg h]; simp [List.getD, Ne.symm h]

theorem struck_at (f : Nat → Nat) (rs : List Int) (x : Nat) : ∀ m, (∀ i, i < m → f i < rs.length) → ((∃ i, i < m ∧ f i = x) → (struck f m rs).getD x 0 = -1) ∧ ((∀ i, i < m → f i ≠ x) → (struck f m rs).getD x 0 = rs.getD x 0) := by
  intro m
  induction m with
  | zero => intro _; exact ⟨fun ⟨i, hi, _⟩ => by omega, fun _ => rfl⟩
  | succ m ih =>
    intro hf
    obtain ⟨a1, a2⟩ := ih (fun i hi => hf i (by omega))
    rw [struck, getD_set _ _ _ _ (by rw [struck_len]; exact hf m (by omega))]
    refine ⟨fun ⟨i, hi, e⟩ => ?_, fun h => ?_⟩
    · by_cases hx : x = f m
      · rw [if_pos hx]
      · rw [if_neg hx]
        refine a1 ⟨i, ?_, e⟩
        rcases (show i < m ∨ i = m by omega) with h | h
        · exact h
        · subst h; exact absurd e.symm hx
    · rw [if_neg (fun hx => h m (by omega) hx.symm)]
      exact a2 (fun i hi => h i (by omega))

theorem give_bump (f : Nat → Nat) (rs : List Int) (hpos : ∀ i, i < rs.length → 0 ≤ rs.getD i 0) (hB : Blk (fun i => (rs.getD i 0).toNat) f 0 rs.length) :
    ∀ (L m : Nat) (os : List Int), m + L ≤ rs.length → give L os (struck f m rs) = bump (((List.range L).map fun i => f (m + i))) os := by
  intro L
  induction L with
  | zero => intro m os _; rfl
  | succ L ih =>
    intro m os hm
    obtain ⟨hS, hR, hV⟩ := hB
    have hlt : ∀ i, i < rs.length → f i < rs.length := fun i hi => (hR i (Nat.zero_le _) hi).2
    have hinj : ∀ i j, i < j → j < rs.length → f i ≠ f j := fun i j hij hj e => by
      have := hS i j (Nat.zero_le _) hij hj
      rw [e] at this
      exact this.irrefl
    have hbest : bestAt (struck f m rs) (struck f m rs).length = f m := by
      rw [struck_len]
      have st := fun x => struck_at f rs x m (fun i hi => hlt i (by omega))
      have hm0 : (struck f m rs).getD (f m) 0 = rs.getD (f m) 0 := (st (f m)).2 (fun i hi => hinj i m hi (by omega))
      have hge := hpos (f m) (hlt m (by omega))
      have key : ∀ x, x < rs.length → x = f m ∨ (struck f m rs).getD x 0 < rs.getD (f m) 0 ∨ ((struck f m rs).getD x 0 = rs.getD (f m) 0 ∧ f m < x) := by
        intro x hx
        obtain ⟨i, _, hi, rfl⟩ := hV x (Nat.zero_le _) hx
        rcases Nat.lt_trichotomy i m with h | h | h
        · right; left
          rw [(st (f i)).1 ⟨i, h, rfl⟩]; omega
        · left; rw [h]
        · right
          have hb := hS m i (Nat.zero_le _) h hi
          rw [(st (f i)).2 (fun i' hi' => hinj i' i (by omega) hi)]
          have hp2 := hpos (f i) (hlt i hi)
          unfold Bef at hb
          dsimp only at hb
          omega
      refine bestAt_eq (hlt m (by omega)) (fun i hi => ?_) (fun i hi => ?_)
      · rw [hm0]
        rcases key i hi with h | h | ⟨h, _⟩
        · rw [h, hm0]; exact Int.le_refl _
        · omega
        · omega
      · rw [hm0]
        rcases key i (by have := hlt m (by omega); omega) with h | h | ⟨_, h⟩
        · omega
        · exact h
        · omega
    rw [give, hbest, show (struck f m rs).set (f m) (-1) = struck f (m + 1) rs from rfl, ih (m + 1) _ (by omega)]
    rw [List.range_succ_eq_map, List.map_cons, bump, List.map_map]
    congr 1
    apply List.map_congr_left
    intro i _
    simp only [Function.comp]
    congr 1
    omega

#print axioms give_bump
end Go.Proofs.YthpbadnedhjncaaDoor
