/- The document's Share, in plain mathematics: quotients, rests, and who is given one more. -/
import Derived.Test.YthpbadnedhjncaaDoorPart
import Derived.Test.YthpbadnedhjncaaDoorMoneyPlain
import Derived.Laws.OwnMore
import Derived.Lib.OwnKind
namespace Go.Proofs.YthpbadnedhjncaaDoor
open Go.RowKit

/-- The first of the greatest among the first k. -/
def bestAt (rs : List Int) : Nat → Nat
  | 0 => 0
  | k + 1 => if rs.getD (bestAt rs k) 0 < rs.getD k 0 then k else bestAt rs k

theorem bestAt_lt (rs : List Int) : ∀ k, 0 < k → bestAt rs k < k := by
  intro k
  induction k with
  | zero => intro h; omega
  | succ k ih =>
    intro _
    rw [bestAt]
    split
    · omega
    · rcases Nat.eq_zero_or_pos k with rfl | h
      · simp [bestAt]
      · have := ih h; omega

theorem bestAt_one (rs : List Int) : bestAt rs 1 = 0 := by
  have := bestAt_lt rs 1 (by omega); omega

theorem bestAt_yes {rs : List Int} {k : Nat} {c d : Int} (hc : c = rs.getD k 0) (hd : d = rs.getD (bestAt rs k) 0) (h : d < c) : bestAt rs (k + 1) = k := by
  rw [bestAt, if_pos (by rw [← hc, ← hd]; exact h)]

theorem bestAt_no {rs : List Int} {k : Nat} {c d : Int} (hc : c = rs.getD k 0) (hd : d = rs.getD (bestAt rs k) 0) (h : ¬ d < c) : bestAt rs (k + 1) = bestAt rs k := by
  rw [bestAt, if_neg (by rw [← hc, ← hd]; exact h)]

/-- So many are given one more, each once. -/
def give : Nat → List Int → List Int → List Int
  | 0, out, _ => out
  | k + 1, out, rs => give k (out.set (bestAt rs rs.length) (out.getD (bestAt rs rs.length) 0 + 1)) (rs.set (bestAt rs rs.length) (-1))

theorem give_len : ∀ (k : Nat) (out rs : List Int), (give k out rs).length = out.length := by
  intro k
  induction k with
  | zero => intros; rfl
  | succ k ih => intro out rs; rw [give, ih]; simp

def quots (t s : Int) (ws : List Int) : List Int := ws.map (fun x => t * x / s)
def rests (t s : Int) (ws : List Int) : List Int := ws.map (fun x => t * x % s)

def shareOut (t : Int) (ws : List Int) : List Int := give (t - (quots t ws.sum ws).sum).toNat (quots t ws.sum ws) (rests t ws.sum ws)

theorem shareOut_len (t : Int) (ws : List Int) : (shareOut t ws).length = ws.length := by
  unfold shareOut; rw [give_len]; simp [quots]

def fitW (z : Int) : Prop := 0 ≤ z ∧ z ≤ 1000000000000000

instance (z : Int) : Decidable (fitW z) := by unfold fitW; infer_instance

def shareErr (t : Int) (ws : List Int) : Int :=
  if t < 0 ∨ may t = false then 22 else if ws.length = 0 ∨ 4096 < ws.length then 3 else if ¬ (∀ z ∈ ws, fitW z) then 4 else if ws.sum = 0 then 1 else 0

def shareM (t : Int) (ws : List Int) : List Int := if shareErr t ws = 0 then shareOut t ws else []

theorem sum_nonneg : ∀ (l : List Int), (∀ z ∈ l, fitW z) → 0 ≤ l.sum := by
  intro l
  induction l with
  | nil => intro _; simp
  | cons a l ih =>
    intro h
    have h1 := (h a (by simp)).1
    have h2 := ih (fun z hz => h z (by simp [hz]))
    rw [List.sum_cons]; omega

theorem mem_le_sum : ∀ (l : List Int), (∀ z ∈ l, fitW z) → ∀ c ∈ l, c ≤ l.sum := by
  intro l
  induction l with
  | nil => intro _ c hc; simp at hc
  | cons a l ih =>
    intro h c hc
    have h1 := (h a (by simp)).1
    have h3 := sum_nonneg l (fun z hz => h z (by simp [hz]))
    rw [List.sum_cons]
    rcases List.mem_cons.1 hc with rfl | hc
    · omega
    · have h2 := ih (fun z hz => h z (by simp [hz])) c hc
      omega

theorem own_apart {w : World} {B e1 e2 n m : Nat} {u v : Value} {xs ys : List Value} (h1 : w.ownsRow B e1 1 u n xs) (h2 : w.ownsRow B e2 1 v m ys) (hne : e1 ≠ e2) : v.ownBlock = none ∨ v.ownBlock ≠ u.ownBlock := by
  cases hv : v.ownBlock with
  | none => exact .inl rfl
  | some g =>
    refine .inr (fun e => ?_)
    obtain ⟨c, fz, hc⟩ := Go.Lib.ownsRow_kind h2 g hv
    obtain ⟨c', fz', hc'⟩ := Go.Lib.ownsRow_kind h1 g e.symm
    rw [hc] at hc'
    simp at hc'
    exact hne hc'.2.1.symm

theorem own_some {w : World} {B e n : Nat} {v : Value} {xs : List Value} (h : w.ownsRow B e 1 v n xs) (hn : 0 < n) : ∃ g cap, v = .slice (some ⟨g, 0, none⟩) n cap ∧ B ≤ g ∧ n ≤ cap ∧ cap ≤ maxLen := by
  rcases h.2 with ⟨rfl, h0⟩ | ⟨g, cap, cur, rfl, hb, hg, hnc, hcm, _⟩
  · subst h0
    have := h.1
    simp at this
    omega
  · exact ⟨g, cap, rfl, hb, hnc, hcm⟩

/-- One number of an own row. -/
theorem own_get {w : World} {B e n g cap : Nat} {zs : List Int} (h : w.ownsRow B e 1 (.slice (some ⟨g, 0, none⟩) n cap) n (zs.map (Value.int .i64))) {j : Nat} (hj : j < n) :
    ∃ c, w.cell? ⟨g, j, none⟩ = some (.int .i64 c) ∧ Hid (c = zs.getD j 0) ∧ Hid (c ∈ zs) := by
  have hl : zs.length = n := by simpa using h.1
  have hjz : j < zs.length := by omega
  refine ⟨zs.getD j 0, ?_, rfl, ?_⟩
  · rw [h.cellAt j (by omega)]
    simp [List.getD, hjz]
  · simp [Hid, List.getD, hjz]

theorem quot_take {t s : Int} {zs : List Int} {k : Nat} {c q : Int} (h : zs.take (k + 1) = zs.take k ++ [c]) (hq : t * c / s = q) : quots t s (zs.take (k + 1)) = quots t s (zs.take k) ++ [q] := by
  rw [h]; simp [quots, hq]

theorem rest_take {t s : Int} {zs : List Int} {k : Nat} {c q : Int} (h : zs.take (k + 1) = zs.take k ++ [c]) (hq : t * c % s = q) : rests t s (zs.take (k + 1)) = rests t s (zs.take k) ++ [q] := by
  rw [h]; simp [rests, hq]

theorem quot_bounds {t c s : Int} (ht : 0 ≤ t) (hc : 0 ≤ c) (hcs : c ≤ s) (hs : 1 ≤ s) : 0 ≤ t * c / s ∧ t * c / s ≤ t ∧ 0 ≤ t * c % s ∧ t * c % s < s := by
  refine ⟨Int.ediv_nonneg (Int.mul_nonneg ht hc) (by omega), ?_, Int.emod_nonneg _ (by omega), Int.emod_lt_of_pos _ (by omega)⟩
  have h1 : t * c ≤ t * s := Int.mul_le_mul_of_nonneg_left hcs ht
  have h2 : t * c / s ≤ t * s / s := Int.ediv_le_ediv (by omega) h1
  rwa [Int.mul_ediv_cancel _ (by omega)] at h2

theorem quots_fit {t s : Int} {zs : List Int} (ht : 0 ≤ t) (hs : 1 ≤ s) (hf : ∀ z ∈ zs, fitW z ∧ z ≤ s) : ∀ z ∈ quots t s zs, 0 ≤ z ∧ z ≤ t := by
  intro z hz
  simp [quots] at hz
  obtain ⟨x, hx, rfl⟩ := hz
  have h := quot_bounds ht (hf x hx).1.1 (hf x hx).2 hs
  exact ⟨h.1, h.2.1⟩

theorem mem_set_bound {os : List Int} {j : Nat} {v B C : Int} (h : ∀ z ∈ os, 0 ≤ z ∧ z ≤ B) (hv : 0 ≤ v ∧ v ≤ C) (hBC : B ≤ C) : ∀ z ∈ os.set j v, 0 ≤ z ∧ z ≤ C := by
  intro z hz
  rcases List.mem_or_eq_of_mem_set hz with h1 | rfl
  · have := h z h1; omega
  · exact hv

theorem give_step {n : Nat} {os rs : List Int} {b : Nat} {c : Int} {L : List Int} (h : give (n + 1) os rs = L) (hb : b = bestAt rs rs.length) (hc : c = os.getD b 0) : give n (os.set b (c + 1)) (rs.set b (-1)) = L := by
  subst hb; subst hc; rw [← h, give]

end Go.Proofs.YthpbadnedhjncaaDoor
