/- The plain mathematics of a stable sort by insertion and by merging in place: rows as functions of the place, turned about (rot), swapped. No Go in sight. -/
import Derived.RowKit
namespace Go.Proofs.YthpbadnedhjncaaDoor

/-- The blocks [a, m) and [m, b) change places. -/
def rot (f : Nat → Nat) (a m b : Nat) : Nat → Nat := fun i => if a ≤ i ∧ i < b then (if i < a + (b - m) then f (i + (m - a)) else f (i - (b - m))) else f i

def swp (f : Nat → Nat) (i j : Nat) : Nat → Nat := fun k => if k = i then f j else if k = j then f i else f k

/-- n cells from a on and n from b on change places. -/
def swr (f : Nat → Nat) (a b n : Nat) : Nat → Nat := fun k => if a ≤ k ∧ k < a + n then f (k - a + b) else if b ≤ k ∧ k < b + n then f (k - b + a) else f k

theorem rot_left (f : Nat → Nat) (m b : Nat) : rot f m m b = f := by
  funext i; unfold rot; split
  · split
    · congr 1; omega
    · omega
  · rfl

theorem rot_right (f : Nat → Nat) (a m : Nat) : rot f a m m = f := by
  funext i; unfold rot; split
  · split
    · omega
    · congr 1; omega
  · rfl

theorem swr_zero (f : Nat → Nat) (a b : Nat) : swr f a b 0 = f := by
  funext k; unfold swr; split
  · omega
  · split
    · omega
    · rfl

theorem swr_succ (f : Nat → Nat) (a b n : Nat) (h : a + n < b) : swr f a b (n + 1) = swp (swr f a b n) (a + n) (b + n) := by
  funext k
  unfold swp swr
  repeat' split
  all_goals first | omega | (congr 1; omega) | rfl

theorem rot_more (f : Nat → Nat) (m i j : Nat) (hi : i ≤ m) (hj : 0 < j) (h : j < i) : rot f (m - i) m (m + j) = rot (swr f (m - i) m j) (m - (i - j)) m (m + j) := by
  funext k
  unfold rot swr
  repeat' split
  all_goals first | omega | (congr 1; omega) | rfl

theorem rot_less (f : Nat → Nat) (m i j : Nat) (hi : i ≤ m) (h0 : 0 < i) (h : i < j) : rot f (m - i) m (m + j) = rot (swr f (m - i) (m + j - i) i) (m - i) m (m + (j - i)) := by
  funext k
  unfold rot swr
  repeat' split
  all_goals first | omega | (congr 1; omega) | rfl

theorem rot_same (f : Nat → Nat) (m i : Nat) (hi : i ≤ m) : rot f (m - i) m (m + i) = swr f (m - i) m i := by
  funext k
  unfold rot swr
  repeat' split
  all_goals first | omega | (congr 1; omega) | rfl

/-- One cell goes one place back. -/
theorem rot_back (f : Nat → Nat) (j i : Nat) (h : j + 1 ≤ i) : swp (rot f (j + 1) i (i + 1)) (j + 1) j = rot f j i (i + 1) := by
  funext k
  unfold swp rot
  repeat' split
  all_goals first | omega | (congr 1; omega) | rfl

/-- One cell goes one place on. -/
theorem rot_on (f : Nat → Nat) (a k : Nat) (h : a ≤ k) : swp (rot f a (a + 1) (k + 1)) k (k + 1) = rot f a (a + 1) (k + 2) := by
  funext i
  unfold swp rot
  repeat' split
  all_goals first | omega | (congr 1; omega) | rfl

/-- Within [a, b) the same numbers, elsewhere all as it was. -/
def SameOn (f g : Nat → Nat) (a b : Nat) : Prop :=
  (∀ i, a ≤ i → i < b → ∃ j, a ≤ j ∧ j < b ∧ g i = f j) ∧ (∀ i, a ≤ i → i < b → ∃ j, a ≤ j ∧ j < b ∧ f i = g j) ∧ (∀ i, i < a ∨ b ≤ i → g i = f i)

theorem SameOn.refl (f : Nat → Nat) (a b : Nat) : SameOn f f a b := ⟨fun i h1 h2 => ⟨i, h1, h2, rfl⟩, fun i h1 h2 => ⟨i, h1, h2, rfl⟩, fun _ _ => rfl⟩

theorem SameOn.trans {f g h : Nat → Nat} {a b : Nat} (x : SameOn f g a b) (y : SameOn g h a b) : SameOn f h a b := by
  refine ⟨fun i h1 h2 => ?_, fun i h1 h2 => ?_, fun i hi => (y.2.2 i hi).trans (x.2.2 i hi)⟩
  · obtain ⟨j, j1, j2, e⟩ := y.1 i h1 h2
    obtain ⟨k, k1, k2, e'⟩ := x.1 j j1 j2
    exact ⟨k, k1, k2, e.trans e'⟩
  · obtain ⟨j, j1, j2, e⟩ := x.2.1 i h1 h2
    obtain ⟨k, k1, k2, e'⟩ := y.2.1 j j1 j2
    exact ⟨k, k1, k2, e.trans e'⟩

theorem SameOn.wider {f g : Nat → Nat} {a b c d : Nat} (x : SameOn f g a b) (h1 : c ≤ a) (h2 : b ≤ d) : SameOn f g c d := by
  refine ⟨fun i k1 k2 => ?_, fun i k1 k2 => ?_, fun i hi => x.2.2 i (by omega)⟩
  · by_cases hi : a ≤ i ∧ i < b
    · obtain ⟨j, j1, j2, e⟩ := x.1 i hi.1 hi.2
      exact ⟨j, by omega, by omega, e⟩
    · exact ⟨i, k1, k2, x.2.2 i (by omega)⟩
  · by_cases hi : a ≤ i ∧ i < b
    · obtain ⟨j, j1, j2, e⟩ := x.2.1 i hi.1 hi.2
      exact ⟨j, by omega, by omega, e⟩
    · exact ⟨i, k1, k2, (x.2.2 i (by omega)).symm⟩

theorem rot_at1 (f : Nat → Nat) {a m b i : Nat} (h1 : a ≤ i) (h2 : i < a + (b - m)) (_h3 : a ≤ m) (_h4 : m ≤ b) : rot f a m b i = f (i + (m - a)) := by
  unfold rot; rw [if_pos ⟨h1, by omega⟩, if_pos h2]

theorem rot_at2 (f : Nat → Nat) {a m b i : Nat} (h1 : a + (b - m) ≤ i) (h2 : i < b) (_h3 : a ≤ m) (_h4 : m ≤ b) : rot f a m b i = f (i - (b - m)) := by
  unfold rot; rw [if_pos ⟨by omega, h2⟩, if_neg (by omega)]

theorem rot_out (f : Nat → Nat) {a m b i : Nat} (h : i < a ∨ b ≤ i) : rot f a m b i = f i := by
  unfold rot; rw [if_neg (by omega)]

theorem rot_same_on (f : Nat → Nat) (a m b : Nat) (h1 : a ≤ m) (h2 : m ≤ b) : SameOn f (rot f a m b) a b := by
  refine ⟨fun i k1 k2 => ?_, fun i k1 k2 => ?_, fun i hi => rot_out f hi⟩
  · by_cases h : i < a + (b - m)
    · exact ⟨i + (m - a), by omega, by omega, rot_at1 f k1 h h1 h2⟩
    · exact ⟨i - (b - m), by omega, by omega, rot_at2 f (by omega) k2 h1 h2⟩
  · by_cases h : i < m
    · exact ⟨i + (b - m), by omega, by omega, by rw [rot_at2 f (by omega) (by omega) h1 h2, Nat.add_sub_cancel]⟩
    · exact ⟨i - (m - a), by omega, by omega, by rw [rot_at1 f (by omega) (by omega) h1 h2]; congr 1; omega⟩

/-- The order of places: the greater rest first; of equal ones the first. -/
def Bef (r : Nat → Nat) (x y : Nat) : Prop := r y < r x ∨ (r x = r y ∧ x < y)

theorem Bef.trans {r : Nat → Nat} {x y z : Nat} (h : Bef r x y) (k : Bef r y z) : Bef r x z := by unfold Bef at *; omega
theorem Bef.irrefl {r : Nat → Nat} {x : Nat} (h : Bef r x x) : False := by unfold Bef at *; omega

def Srt (r : Nat → Nat) (f : Nat → Nat) (a b : Nat) : Prop := ∀ i j, a ≤ i → i < j → j < b → Bef r (f i) (f j)

theorem Srt.sub {r f : Nat → Nat} {a b c d : Nat} (h : Srt r f a b) (h1 : a ≤ c) (h2 : d ≤ b) : Srt r f c d := fun i j a1 a2 a3 => h i j (by omega) a2 (by omega)

theorem Srt.congr {r f g : Nat → Nat} {a b : Nat} (h : Srt r f a b) (e : ∀ i, a ≤ i → i < b → g i = f i) : Srt r g a b := fun i j a1 a2 a3 => by
  rw [e i a1 (by omega), e j (by omega) a3]; exact h i j a1 a2 a3

theorem Srt.one (r f : Nat → Nat) (a b : Nat) (h : b ≤ a + 1) : Srt r f a b := fun i j a1 a2 a3 => by omega

/-- A rotation of two sorted blocks behind which all is sorted. -/
theorem Srt.join {r f : Nat → Nat} {a m b : Nat} (h1 : Srt r f a m) (h2 : Srt r f m b) (h : ∀ i j, a ≤ i → i < m → m ≤ j → j < b → Bef r (f i) (f j)) : Srt r f a b := fun i j a1 a2 a3 => by
  by_cases hj : j < m
  · exact h1 i j a1 a2 hj
  · by_cases hi : i < m
    · exact h i j a1 hi (by omega) a3
    · exact h2 i j (by omega) a2 a3

/-- What the merge of one block of one cell with another asks: its place i. -/
theorem merge_one_left {r f : Nat → Nat} {a b i : Nat} (hs : Srt r f (a + 1) b) (ha : a + 1 ≤ i) (hb : i ≤ b)
    (hl : ∀ j, a + 1 ≤ j → j < b → f a < f j) (h1 : i = a + 1 ∨ r (f a) < r (f (i - 1))) (h2 : i = b ∨ ¬ r (f a) < r (f i)) :
    SameOn f (rot f a (a + 1) i) a b ∧ Srt r (rot f a (a + 1) i) a b := by
  refine ⟨(rot_same_on f a (a + 1) i (by omega) ha).wider (Nat.le_refl _) hb, ?_⟩
  have c1 : ∀ j, a + 1 ≤ j → j < i → Bef r (f j) (f a) := fun j j1 j2 => by
    have x : Bef r (f (i - 1)) (f a) := Or.inl (by omega)
    by_cases e : j = i - 1
    · rw [e]; exact x
    · exact (hs j (i - 1) j1 (by omega) (by omega)).trans x
  have c2 : ∀ j, i ≤ j → j < b → Bef r (f a) (f j) := fun j j1 j2 => by
    have x : Bef r (f a) (f i) := by have := hl i ha (by omega); unfold Bef; omega
    by_cases e : j = i
    · rw [e]; exact x
    · exact x.trans (hs i j ha (by omega) j2)
  intro x y x1 xy y2
  have at1 : ∀ k, a ≤ k → k < i - 1 → rot f a (a + 1) i k = f (k + 1) := fun k k1 k2 => by rw [rot_at1 f k1 (by omega) (by omega) ha]; congr 1; omega
  have at2 : rot f a (a + 1) i (i - 1) = f a := by rw [rot_at2 f (by omega) (by omega) (by omega) ha]; congr 1; omega
  have at3 : ∀ k, i ≤ k → rot f a (a + 1) i k = f k := fun k k1 => rot_out f (Or.inr k1)
  by_cases hx : x < i - 1
  · rw [at1 x x1 hx]
    by_cases hy : y < i - 1
    · rw [at1 y (by omega) hy]; exact hs _ _ (by omega) (by omega) (by omega)
    · by_cases hy' : y = i - 1
      · rw [hy', at2]; exact c1 _ (by omega) (by omega)
      · rw [at3 y (by omega)]; exact hs _ _ (by omega) (by omega) (by omega)
  · by_cases hx' : x = i - 1
    · rw [hx', at2, at3 y (by omega)]; exact c2 _ (by omega) y2
    · rw [at3 x (by omega), at3 y (by omega)]; exact hs _ _ (by omega) xy y2

theorem merge_one_right {r f : Nat → Nat} {a m i : Nat} (hs : Srt r f a m) (ha : a ≤ i) (hb : i ≤ m)
    (hl : ∀ j, a ≤ j → j < m → f j < f m) (h1 : i = a ∨ ¬ r (f (i - 1)) < r (f m)) (h2 : i = m ∨ r (f i) < r (f m)) :
    SameOn f (rot f i m (m + 1)) a (m + 1) ∧ Srt r (rot f i m (m + 1)) a (m + 1) := by
  refine ⟨(rot_same_on f i m (m + 1) hb (by omega)).wider ha (Nat.le_refl _), ?_⟩
  have c1 : ∀ j, a ≤ j → j < i → Bef r (f j) (f m) := fun j j1 j2 => by
    have x : Bef r (f (i - 1)) (f m) := by have := hl (i - 1) (by omega) (by omega); unfold Bef; omega
    by_cases e : j = i - 1
    · rw [e]; exact x
    · exact (hs j (i - 1) j1 (by omega) (by omega)).trans x
  have c2 : ∀ j, i ≤ j → j < m → Bef r (f m) (f j) := fun j j1 j2 => by
    have x : Bef r (f m) (f i) := Or.inl (by omega)
    by_cases e : j = i
    · rw [e]; exact x
    · exact x.trans (hs i j ha (by omega) j2)
  intro x y x1 xy y2
  have at1 : rot f i m (m + 1) i = f m := by rw [rot_at1 f (Nat.le_refl _) (by omega) hb (by omega)]; congr 1; omega
  have at2 : ∀ k, i + 1 ≤ k → k < m + 1 → rot f i m (m + 1) k = f (k - 1) := fun k k1 k2 => by rw [rot_at2 f (by omega) k2 hb (by omega)]; congr 1; omega
  have at3 : ∀ k, k < i → rot f i m (m + 1) k = f k := fun k k1 => rot_out f (Or.inl k1)
  by_cases hx : x < i
  · rw [at3 x hx]
    by_cases hy : y < i
    · rw [at3 y hy]; exact hs _ _ x1 xy (by omega)
    · by_cases hy' : y = i
      · rw [hy', at1]; exact c1 _ x1 hx
      · rw [at2 y (by omega) y2]; exact hs _ _ x1 (by omega) (by omega)
  · by_cases hx' : x = i
    · rw [hx', at1, at2 y (by omega) y2]; exact c2 _ (by omega) (by omega)
    · rw [at2 x (by omega) (by omega), at2 y (by omega) y2]; exact hs _ _ (by omega) (by omega) (by omega)

/-- The cut that the merge looks for. -/
structure Cutt (r f : Nat → Nat) (a m b mid start : Nat) : Prop where
  h1 : a ≤ start
  h2 : start ≤ mid
  h3 : start ≤ m
  h4 : m + mid - start ≤ b
  h5 : m ≤ m + mid - start
  lo : start = a ∨ m + mid - start = b ∨ ¬ r (f (start - 1)) < r (f (m + mid - start))
  hi : start = mid ∨ start = m ∨ r (f start) < r (f (m + mid - start - 1))

/-- Behind the rotation both halves are two sorted blocks. -/
theorem cut_halves {r f : Nat → Nat} {a m b mid start : Nat} (c : Cutt r f a m b mid start) (_hs1 : Srt r f a m) (_hs2 : Srt r f m b)
    (_hl : ∀ i j, a ≤ i → i < m → m ≤ j → j < b → f i < f j) :
    (∀ i, a ≤ i → i < start → rot f start m (m + mid - start) i = f i) ∧
    (∀ i, start ≤ i → i < mid → rot f start m (m + mid - start) i = f (i + (m - start))) ∧
    (∀ i, mid ≤ i → i < m + mid - start → rot f start m (m + mid - start) i = f (i - (mid - start))) ∧
    (∀ i, m + mid - start ≤ i → rot f start m (m + mid - start) i = f i) := by
  obtain ⟨h1, h2, h3, h4, h5, lo, hi⟩ := c
  refine ⟨fun i a1 a2 => rot_out f (Or.inl a2), fun i a1 a2 => rot_at1 f a1 (by omega) h3 h5, fun i a1 a2 => ?_, fun i a1 => rot_out f (Or.inr a1)⟩
  rw [rot_at2 f (by omega) a2 h3 h5]
  congr 1; omega

theorem cut_cross {r f : Nat → Nat} {a m b mid start : Nat} (c : Cutt r f a m b mid start) (hs1 : Srt r f a m) (hs2 : Srt r f m b)
    (hl : ∀ i j, a ≤ i → i < m → m ≤ j → j < b → f i < f j) (_hm : a ≤ m) (_hb : m ≤ b) :
    ∀ i j, a ≤ i → i < mid → mid ≤ j → j < b → Bef r (rot f start m (m + mid - start) i) (rot f start m (m + mid - start) j) := by
  obtain ⟨e1, e2, e3, e4⟩ := cut_halves c hs1 hs2 hl
  obtain ⟨h1, h2, h3, h4, h5, lo, hi⟩ := c
  have c1 : ∀ x y, a ≤ x → x < start → m + mid - start ≤ y → y < b → Bef r (f x) (f y) := fun x y x1 x2 y1 y2 => by
    have z : Bef r (f (start - 1)) (f (m + mid - start)) := by
      have := hl (start - 1) (m + mid - start) (by omega) (by omega) h5 (by omega)
      unfold Bef; omega
    have z1 : Bef r (f x) (f (m + mid - start)) := by
      by_cases e : x = start - 1
      · rw [e]; exact z
      · exact (hs1 x (start - 1) x1 (by omega) (by omega)).trans z
    by_cases e : y = m + mid - start
    · rw [e]; exact z1
    · exact z1.trans (hs2 _ y h5 (by omega) y2)
  have c2 : ∀ x y, start ≤ x → x < m → m ≤ y → y < m + mid - start → Bef r (f y) (f x) := fun x y x1 x2 y1 y2 => by
    have z : Bef r (f (m + mid - start - 1)) (f start) := by
      refine Or.inl ?_
      rcases hi with h | h | h
      · omega
      · omega
      · exact h
    have z1 : Bef r (f y) (f start) := by
      by_cases e : y = m + mid - start - 1
      · rw [e]; exact z
      · exact (hs2 y _ y1 (by omega) (by omega)).trans z
    by_cases e : x = start
    · rw [e]; exact z1
    · exact z1.trans (hs1 start x h1 (by omega) x2)
  intro i j i1 i2 j1 j2
  by_cases hi' : i < start
  · rw [e1 i i1 hi']
    by_cases hj' : j < m + mid - start
    · rw [e3 j j1 hj']; exact hs1 _ _ i1 (by omega) (by omega)
    · rw [e4 j (by omega)]; exact c1 _ _ i1 hi' (by omega) j2
  · rw [e2 i (by omega) i2]
    by_cases hj' : j < m + mid - start
    · rw [e3 j j1 hj']; exact c2 _ _ (by omega) (by omega) (by omega) (by omega)
    · rw [e4 j (by omega)]; exact hs2 _ _ (by omega) (by omega) j2

/-- Both halves merged: all is. -/
theorem cut_whole {r f g k : Nat → Nat} {a m b mid start : Nat} (c : Cutt r f a m b mid start) (hs1 : Srt r f a m) (hs2 : Srt r f m b)
    (hl : ∀ i j, a ≤ i → i < m → m ≤ j → j < b → f i < f j) (hm : a ≤ m) (hb : m ≤ b) (hmid1 : a ≤ mid) (hmid2 : mid ≤ b)
    (g1 : SameOn (rot f start m (m + mid - start)) g a mid) (g2 : Srt r g a mid) (k1 : SameOn g k mid b) (k2 : Srt r k mid b) :
    SameOn f k a b ∧ Srt r k a b := by
  have x := cut_cross c hs1 hs2 hl hm hb
  have c' := c
  obtain ⟨h1, h2, h3, h4, h5, lo, hi⟩ := c'
  refine ⟨(((rot_same_on f start m (m + mid - start) h3 h5).wider h1 h4).trans (g1.wider (Nat.le_refl _) hmid2)).trans (k1.wider hmid1 (Nat.le_refl _)), ?_⟩
  refine Srt.join (m := mid) (g2.congr fun i a1 a2 => k1.2.2 i (Or.inl a2)) k2 fun i j i1 i2 j1 j2 => ?_
  obtain ⟨i', a1, a2, e⟩ := g1.1 i i1 i2
  obtain ⟨j', b1, b2, e'⟩ := k1.1 j j1 j2
  rw [k1.2.2 i (Or.inl i2), e, e', g1.2.2 j' (Or.inr b1)]
  exact x i' j' a1 a2 b1 b2

/-- The block [s, e) bears just the places of [s, e), sorted. -/
def Blk (r f : Nat → Nat) (s e : Nat) : Prop := Srt r f s e ∧ (∀ i, s ≤ i → i < e → s ≤ f i ∧ f i < e) ∧ (∀ v, s ≤ v → v < e → ∃ i, s ≤ i ∧ i < e ∧ f i = v)

theorem blk_of_id {r f g : Nat → Nat} {s e : Nat} (h : ∀ i, s ≤ i → i < e → f i = i) (hg : SameOn f g s e) (hs : Srt r g s e) : Blk r g s e := by
  refine ⟨hs, fun i h1 h2 => ?_, fun v h1 h2 => ?_⟩
  · obtain ⟨j, j1, j2, x⟩ := hg.1 i h1 h2
    rw [x, h j j1 j2]; exact ⟨j1, j2⟩
  · obtain ⟨j, j1, j2, x⟩ := hg.2.1 v h1 h2
    exact ⟨j, j1, j2, by rw [← x, h v h1 h2]⟩

theorem blk_left {r f : Nat → Nat} {s m e : Nat} (h1 : Blk r f s m) (h2 : Blk r f m e) : ∀ i j, s ≤ i → i < m → m ≤ j → j < e → f i < f j := fun i j a1 a2 b1 b2 => by
  have x := h1.2.1 i a1 a2
  have y := h2.2.1 j b1 b2
  omega

theorem blk_merge {r f g : Nat → Nat} {s m e : Nat} (h1 : Blk r f s m) (h2 : Blk r f m e) (hm : s ≤ m) (he : m ≤ e) (hg : SameOn f g s e) (hs : Srt r g s e) : Blk r g s e := by
  refine ⟨hs, fun i a1 a2 => ?_, fun v a1 a2 => ?_⟩
  · obtain ⟨j, j1, j2, x⟩ := hg.1 i a1 a2
    rw [x]
    by_cases hj : j < m
    · have := h1.2.1 j j1 hj; omega
    · have := h2.2.1 j (by omega) j2; omega
  · have : ∃ i, s ≤ i ∧ i < e ∧ f i = v := by
      by_cases hv : v < m
      · obtain ⟨i, i1, i2, x⟩ := h1.2.2 v a1 hv
        exact ⟨i, i1, by omega, x⟩
      · obtain ⟨i, i1, i2, x⟩ := h2.2.2 v (by omega) a2
        exact ⟨i, by omega, i2, x⟩
    obtain ⟨i, i1, i2, x⟩ := this
    obtain ⟨j, j1, j2, y⟩ := hg.2.1 i i1 i2
    exact ⟨j, j1, j2, by rw [← y, x]⟩

theorem blk_frame {r f g : Nat → Nat} {s e a b : Nat} (h : Blk r f s e) (hg : SameOn f g a b) (hd : e ≤ a ∨ b ≤ s) : Blk r g s e := by
  have eq : ∀ i, s ≤ i → i < e → g i = f i := fun i h1 h2 => hg.2.2 i (by omega)
  refine ⟨h.1.congr eq, fun i h1 h2 => ?_, fun v h1 h2 => ?_⟩
  · rw [eq i h1 h2]; exact h.2.1 i h1 h2
  · obtain ⟨i, i1, i2, x⟩ := h.2.2 v h1 h2
    exact ⟨i, i1, i2, by rw [eq i i1 i2, x]⟩

/-- Blocks of z cells each lie sorted from a on. -/
def Blks (r f : Nat → Nat) (z n a : Nat) : Prop := ∀ s, a ≤ s → s < n → z ∣ s → Blk r f s (min (s + z) n)

#print axioms blk_merge
#print axioms blk_frame
#print axioms cut_whole
#print axioms merge_one_left
#print axioms merge_one_right
end Go.Proofs.YthpbadnedhjncaaDoor
