/- The document's walk over a text. -/
import Derived.Test.YtlllgndbcagkgabTokens
import Derived.OwnWalk
namespace Go.Proofs.Ytlllgndbcagkgab
open Go.RowKit

theorem one_five {l : List UInt8} (h : (one l).2.2.1 = 0) (h5 : (one l).1 = 5) : 2 ≤ (one l).2.1 := by
  unfold one at h h5 ⊢
  by_cases hd : dateB l = true
  · rw [if_pos hd] at h h5; rw [fin_ok h] at h5; simp at h5
  · rw [if_neg hd] at h h5 ⊢
    by_cases c5 : clsB (l.getD 0 0) = 5
    · rw [if_pos c5] at h h5; rw [fin_ok h] at h5; simp at h5
    · rw [if_neg c5] at h h5 ⊢
      by_cases c3 : clsB (l.getD 0 0) = 3
      · rw [if_pos c3] at h h5; rw [fin_ok h] at h5; simp at h5
      · rw [if_neg c3] at h h5 ⊢
        by_cases c4 : clsB (l.getD 0 0) = 4
        · rw [if_pos c4] at h h5; rw [fin_ok h] at h5; simp at h5
        · rw [if_neg c4] at h h5 ⊢
          by_cases c7 : clsB (l.getD 0 0) = 7
          · rw [if_pos c7] at h ⊢
            by_cases hq : clsB (l.getD (span inQ (l.drop 1) + 1) 0) = 7
            · rw [if_pos hq]; simp
            · rw [if_neg hq] at h; simp at h
          · rw [if_neg c7] at h h5 ⊢
            by_cases h2 : 2 ≤ l.length ∧ markB (l.take 2) = true
            · rw [if_pos h2] at h5; simp at h5
            · rw [if_neg h2] at h h5 ⊢
              by_cases h1 : markB (l.take 1) = true
              · rw [if_pos h1] at h5; simp at h5
              · rw [if_neg h1] at h; simp at h

/-- Two rows of the call's own, of tokens and of texts. -/
structure Two (B : Nat) (tv rv : Value) (tk : List Tok) (rm : List (List UInt8)) (w0 w : World) : Prop where
  bel : Below B w0 w
  size : B ≤ w.heap.size
  tks : w.ownsRow B 64 3 tv tk.length (cellsT tk)
  rms : w.ownsRow B 9 1 rv rm.length (rm.map strV)

section
variable {B : Nat} {tv rv : Value} {tk : List Tok} {rm : List (List UInt8)} {w0 w w1 : World}

theorem own_kinds {e e' k k' n n' : Nat} {v v' : Value} {xs xs' : List Value} (h : w.ownsRow B e k v n xs) (h' : w.ownsRow B e' k' v' n' xs') (hne : e ≠ e') : v'.ownBlock = none ∨ v'.ownBlock ≠ v.ownBlock := by
  rcases h'.2 with ⟨rfl, _⟩ | ⟨g, cap, cur, rfl, _, hz, _⟩
  · exact .inl rfl
  · refine .inr fun e1 => ?_
    rcases h.2 with ⟨rfl, _⟩ | ⟨g', cap', cur', rfl, _, hz', _⟩
    · cases e1
    · have : g' = g := by simpa [Value.ownBlock] using e1.symm
      subst this
      rw [hz] at hz'
      simp at hz'
      exact hne hz'.2.symm

theorem grown_below (hs : B ≤ w.heap.size) {row : Option Nat} (hg : w.grownBy w1 row) (hr : ∀ k, row = some k → B ≤ k) (hb : Below B w0 w) : Below B w0 w1 :=
  hb.trans ⟨hg.os, hg.tape, hg.output, hg.size, fun k hk => hg.block k (by omega) fun e => by have := hr k e.symm; omega⟩

theorem Two.tok (h : Two B tv rv tk rm w0 w) {v : Value} (t : Tok) (hown : w1.ownsRow B 64 3 v (tk.length + 1) (cellsT tk ++ [.int .i64 t.kind, strV t.text, .int .i64 t.place])) (hg : w.grownBy w1 tv.ownBlock) : Two B v rv (tk ++ [t]) rm w0 w1 := by
  refine ⟨grown_below h.size hg (fun k hk => (h.tks.lt k hk).1) h.bel, Nat.le_trans h.size hg.size, ?_, h.rms.kept hg (own_kinds h.tks h.rms (by decide))⟩
  simp only [cellsT_snoc, List.length_append, List.length_cons, List.length_nil]
  exact hown

theorem Two.rem (h : Two B tv rv tk rm w0 w) {v : Value} (t : List UInt8) (hown : w1.ownsRow B 9 1 v (rm.length + 1) (rm.map strV ++ [strV t])) (hg : w.grownBy w1 rv.ownBlock) : Two B tv v tk (rm ++ [t]) w0 w1 := by
  refine ⟨grown_below h.size hg (fun k hk => (h.rms.lt k hk).1) h.bel, Nat.le_trans h.size hg.size, h.tks.kept hg (own_kinds h.rms h.tks (by decide)), ?_⟩
  simp only [List.map_append, List.map_cons, List.map_nil, List.length_append, List.length_cons, List.length_nil]
  exact hown

theorem Two.below (h : Two B tv rv tk rm w0 w) (hb : Below w.heap.size w w1) : Two B tv rv tk rm w0 w1 := by
  have ow : ∀ {e k n : Nat} {v : Value} {xs : List Value}, w.ownsRow B e k v n xs → w1.ownsRow B e k v n xs := fun {e k n v xs} ho => by
    refine ⟨ho.1, ?_⟩
    rcases ho.2 with h3 | ⟨g, cap, cur, h4, h5, h6, h7⟩
    · exact .inl h3
    · exact .inr ⟨g, cap, cur, h4, h5, (hb.block g (Array.getElem?_eq_some_iff.1 h6).1).trans h6, h7⟩
  exact ⟨h.bel.trans (hb.mono h.size), Nat.le_trans h.size hb.size, ow h.tks, ow h.rms⟩
end

end Go.Proofs.Ytlllgndbcagkgab
