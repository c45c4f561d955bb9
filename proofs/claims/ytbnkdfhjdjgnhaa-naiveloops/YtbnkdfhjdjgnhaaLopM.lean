/- NaiveLoops, walked. -/
import Derived.Test.YtbnkdfhjdjgnhaaRngM
import Derived.Test.YtbnkdfhjdjgnhaaRnd
namespace Go.Proofs.Ytbnkdfhjdjgnhaa
open Go.RowKit

def rcell (n : Nat) (b : Nat → Nat) (i : Nat) : List Value := [.int .i64 2, .int .i64 (((i + 1) % n : Nat) : Int), .slice (some ⟨b i, 0, none⟩) 1 1]
def rcells (n : Nat) (b : Nat → Nat) : Nat → List Value
  | 0 => []
  | k + 1 => rcells n b k ++ rcell n b k
theorem rcells_len {n : Nat} {b : Nat → Nat} : ∀ {k : Nat}, (rcells n b k).length = k * 3
  | 0 => rfl
  | k + 1 => by rw [rcells, List.length_append, rcells_len]; simp [rcell]; omega
theorem rcells_up {n : Nat} {b : Nat → Nat} {c v : Nat} : ∀ {k : Nat}, k ≤ c → rcells n (up b c v) k = rcells n b k
  | 0, _ => rfl
  | k + 1, h => by
    rw [rcells, rcells, rcells_up (by omega)]
    unfold rcell
    rw [up_off (by omega)]
theorem rcells_at {n : Nat} {b : Nat → Nat} {i : Nat} : ∀ {k : Nat}, i < k → ∀ j u, (rcell n b i)[j]? = some u → (rcells n b k)[i * 3 + j]? = some u
  | 0, h, _, _, _ => by omega
  | k + 1, h, j, u, hu => by
    have hj : j < 3 := (List.getElem?_eq_some_iff.1 hu).1
    rw [rcells]
    by_cases e : i = k
    · subst e
      rw [List.getElem?_append_right (by rw [rcells_len]; omega), rcells_len, show i * 3 + j - i * 3 = j by omega]
      exact hu
    · rw [List.getElem?_append_left (by rw [rcells_len]; omega)]
      exact rcells_at (by omega) j u hu
/-- The rules so far. -/
structure Rl (base n k : Nat) (b : Nat → Nat) (rv : Value) (w : World) : Prop where
  own : w.ownsRow base 41 3 rv k (rcells n b k)
  bod : ∀ i, i < k → Fx (b i) 3 (ints [(i : Int)]) w
theorem own3_slice {w : World} {base e k n : Nat} {v : Value} {xs : List Value} (h : w.ownsRow base e k v n xs) : ∃ a c, v = .slice a n c := owns_slice h
theorem Rl.rules {base n k : Nat} {b : Nat → Nat} {a : Option Addr} {c : Nat} {w : World} (h : Rl base n k b (.slice a k c) w) (hk : k ≤ 50) : Rules w.heap.size w (ringR n k) (.slice a (ringR n k).length c) := by
  have hl : (ringR n k).length = k := by unfold ringR; simp
  rw [hl]
  refine ⟨a, c, by rw [hl], ?_, by rw [hl]; omega, fun i x hi => ?_⟩
  · rw [hl]
    rcases h.own.2 with ⟨_, e⟩ | ⟨g, cap, cur, e, _, _, hle, _⟩
    · omega
    · cases e; exact hle
  · have hik : i < k := by rw [← hl]; exact (List.getElem?_eq_some_iff.1 hi).1
    rw [ring_at hik] at hi
    cases hi
    rcases h.own.2 with ⟨_, e⟩ | ⟨g, cap, cur, e, _, hg, hle, _⟩
    · omega
    · cases e
      refine ⟨g, 0, rcell n b i, rfl, loc_lt hg, rfl, fun j u hu => ?_, _, rfl, Ints.blk (l := [(i : Int)]) (h.bod i hik) (h.bod i hik).lt (by simp)⟩
      have := h.own.cells (g := g) rfl (i * 3 + j) u (rcells_at hik j u hu)
      rw [Addr.add_lit] at this
      rw [Nat.zero_add] at this ⊢
      exact this
end Go.Proofs.Ytbnkdfhjdjgnhaa
