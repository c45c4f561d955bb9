import Derived.Test.YtbpphlmakmeoaaaGreatDoorParse5
namespace Go.Proofs.YtbpphlmakmeoaaaGreatDoor.Sy
open Go.RowKit
theorem Rows.at {α : Type} {Z : Nat → Prop} {e k : Nat} {c : World → α → List Value → Prop} {w : World} {l : List α} {v : Value} (h : Rows Z e k c w l v) {i : Nat} {a : α} (hi : l[i]? = some a) :
    ∃ g cap ys, v = .slice (some ⟨g, 0, none⟩) l.length cap ∧ Z g ∧ c w a ys ∧ ∀ (j : Nat) u, ys[j]? = some u → w.cell? ⟨g, i * k + j, none⟩ = some u := by
 obtain ⟨xs, ⟨h1, h2⟩, h3⟩ := h
 have Aa := (List.getElem?_eq_some_iff.1 hi).1
 rcases h1.2 with ⟨_, hn⟩ | ⟨g, cap, Ab, rfl, _, hg, _, _, _, _⟩
 · omega
 · refine ⟨g, cap, _, rfl, h2 g rfl, h3 i a hi, fun j u hu => ?_⟩
   rw [List.getElem?_take] at hu
   split at hu
   · next hj =>
     rw [List.getElem?_drop] at hu
     have Ac : i * k + k ≤ l.length * k := by rw [← Nat.succ_mul]; exact Nat.mul_le_mul_right k Aa
     rw [h1.cellAt (i * k + j) (by omega), hu]
   · cases hu
end Go.Proofs.YtbpphlmakmeoaaaGreatDoor.Sy
namespace Go.Proofs.YtbpphlmakmeoaaaGreatDoor.Sy
open Go.RowKit
end Go.Proofs.YtbpphlmakmeoaaaGreatDoor.Sy
namespace Go.Proofs.YtbpphlmakmeoaaaGreatDoor.Sy
open Go.RowKit
theorem iR {w : World} {g o : Nat} {v : Value} (h : w.cell? ⟨g, o, none⟩ = some v) : g < w.heap.size := World.block_lt_of_cell? w _ h
abbrev Two4 (wr : World) (ga gb o : Nat) (p0 p1 p2 p3 q0 q1 q2 q3 : Value) (X : World) : Prop :=
 X.cell? ⟨ga, o, none⟩ = some p0 ∧ X.cell? ⟨ga, o + 1, none⟩ = some p1 ∧ X.cell? ⟨ga, o + 2, none⟩ = some p2 ∧ X.cell? ⟨ga, o + 3, none⟩ = some p3 ∧ X.cell? ⟨gb, o, none⟩ = some q0 ∧ X.cell? ⟨gb, o + 1, none⟩ = some q1 ∧ X.cell? ⟨gb, o + 2, none⟩ = some q2 ∧ X.cell? ⟨gb, o + 3, none⟩ = some q3 ∧ ga < wr.heap.size ∧ gb < wr.heap.size ∧ Below wr.heap.size wr X
theorem Two4.b {wr : World} {ga gb o : Nat} {p0 p1 p2 p3 q0 q1 q2 q3 : Value} {X : World} (h : Two4 wr ga gb o p0 p1 p2 p3 q0 q1 q2 q3 X) : Below wr.heap.size wr X := h.2.2.2.2.2.2.2.2.2.2
theorem Two4.drew {wr : World} {ga gb o : Nat} {p0 p1 p2 p3 q0 q1 q2 q3 : Value} {X : World} (h : Two4 wr ga gb o p0 p1 p2 p3 q0 q1 q2 q3 X) : Two4 wr ga gb o p0 p1 p2 p3 q0 q1 q2 q3 X.drew := by
 obtain ⟨h0, h1, h2, h3, h4, h5, h6, h7, k1, k2, k3⟩ := h
 exact ⟨h0, h1, h2, h3, h4, h5, h6, h7, k1, k2, k3.drew⟩
theorem Two4.below {wr : World} {ga gb o : Nat} {p0 p1 p2 p3 q0 q1 q2 q3 : Value} {X Y : World} (h : Two4 wr ga gb o p0 p1 p2 p3 q0 q1 q2 q3 X) (hb : Below X.heap.size X Y) : Two4 wr ga gb o p0 p1 p2 p3 q0 q1 q2 q3 Y := by
 obtain ⟨h0, h1, h2, h3, h4, h5, h6, h7, k1, k2, k3⟩ := h
 have ha : ga < X.heap.size := Nat.lt_of_lt_of_le k1 k3.size
 have hc : gb < X.heap.size := Nat.lt_of_lt_of_le k2 k3.size
 refine ⟨?_, ?_, ?_, ?_, ?_, ?_, ?_, ?_, k1, k2, k3.trans (hb.mono k3.size)⟩ <;> rw [hb.cell (by assumption)] <;> assumption
abbrev Two5 (wr : World) (ga gb o : Nat) (p0 p1 p2 p3 p4 q0 q1 q2 q3 q4 : Value) (X : World) : Prop :=
 X.cell? ⟨ga, o, none⟩ = some p0 ∧ X.cell? ⟨ga, o + 1, none⟩ = some p1 ∧ X.cell? ⟨ga, o + 2, none⟩ = some p2 ∧ X.cell? ⟨ga, o + 3, none⟩ = some p3 ∧ X.cell? ⟨ga, o + 4, none⟩ = some p4 ∧ X.cell? ⟨gb, o, none⟩ = some q0 ∧ X.cell? ⟨gb, o + 1, none⟩ = some q1 ∧ X.cell? ⟨gb, o + 2, none⟩ = some q2 ∧ X.cell? ⟨gb, o + 3, none⟩ = some q3 ∧ X.cell? ⟨gb, o + 4, none⟩ = some q4 ∧ ga < wr.heap.size ∧ gb < wr.heap.size ∧ Below wr.heap.size wr X
theorem Two5.b {wr : World} {ga gb o : Nat} {p0 p1 p2 p3 p4 q0 q1 q2 q3 q4 : Value} {X : World} (h : Two5 wr ga gb o p0 p1 p2 p3 p4 q0 q1 q2 q3 q4 X) : Below wr.heap.size wr X := h.2.2.2.2.2.2.2.2.2.2.2.2
theorem Two5.drew {wr : World} {ga gb o : Nat} {p0 p1 p2 p3 p4 q0 q1 q2 q3 q4 : Value} {X : World} (h : Two5 wr ga gb o p0 p1 p2 p3 p4 q0 q1 q2 q3 q4 X) : Two5 wr ga gb o p0 p1 p2 p3 p4 q0 q1 q2 q3 q4 X.drew := by
 obtain ⟨h0, h1, h2, h3, h4, h5, h6, h7, h8, h9, k1, k2, k3⟩ := h
 exact ⟨h0, h1, h2, h3, h4, h5, h6, h7, h8, h9, k1, k2, k3.drew⟩
theorem Two5.below {wr : World} {ga gb o : Nat} {p0 p1 p2 p3 p4 q0 q1 q2 q3 q4 : Value} {X Y : World} (h : Two5 wr ga gb o p0 p1 p2 p3 p4 q0 q1 q2 q3 q4 X) (hb : Below X.heap.size X Y) : Two5 wr ga gb o p0 p1 p2 p3 p4 q0 q1 q2 q3 q4 Y := by
 obtain ⟨h0, h1, h2, h3, h4, h5, h6, h7, h8, h9, k1, k2, k3⟩ := h
 have ha : ga < X.heap.size := Nat.lt_of_lt_of_le k1 k3.size
 have hc : gb < X.heap.size := Nat.lt_of_lt_of_le k2 k3.size
 refine ⟨?_, ?_, ?_, ?_, ?_, ?_, ?_, ?_, ?_, ?_, k1, k2, k3.trans (hb.mono k3.size)⟩ <;> rw [hb.cell (by assumption)] <;> assumption
end Go.Proofs.YtbpphlmakmeoaaaGreatDoor.Sy
namespace Go.Proofs.YtbpphlmakmeoaaaGreatDoor.Sy
open Go.RowKit
abbrev Two1 (wr : World) (ga gb o : Nat) (p0 q0 : Value) (X : World) : Prop :=
 X.cell? ⟨ga, o, none⟩ = some p0 ∧ X.cell? ⟨gb, o, none⟩ = some q0 ∧ ga < wr.heap.size ∧ gb < wr.heap.size ∧ Below wr.heap.size wr X
theorem Two1.b {wr : World} {ga gb o : Nat} {p0 q0 : Value} {X : World} (h : Two1 wr ga gb o p0 q0 X) : Below wr.heap.size wr X := h.2.2.2.2
theorem Two1.drew {wr : World} {ga gb o : Nat} {p0 q0 : Value} {X : World} (h : Two1 wr ga gb o p0 q0 X) : Two1 wr ga gb o p0 q0 X.drew := by
 obtain ⟨h0, h1, k1, k2, k3⟩ := h
 exact ⟨h0, h1, k1, k2, k3.drew⟩
theorem Two1.below {wr : World} {ga gb o : Nat} {p0 q0 : Value} {X Y : World} (h : Two1 wr ga gb o p0 q0 X) (hb : Below X.heap.size X Y) : Two1 wr ga gb o p0 q0 Y := by
 obtain ⟨h0, h1, k1, k2, k3⟩ := h
 have ha : ga < X.heap.size := Nat.lt_of_lt_of_le k1 k3.size
 have hc : gb < X.heap.size := Nat.lt_of_lt_of_le k2 k3.size
 refine ⟨?_, ?_, k1, k2, k3.trans (hb.mono k3.size)⟩ <;> rw [hb.cell (by assumption)] <;> assumption
end Go.Proofs.YtbpphlmakmeoaaaGreatDoor.Sy
namespace Go.Proofs.YtbpphlmakmeoaaaGreatDoor.Sy
open Go.RowKit
end Go.Proofs.YtbpphlmakmeoaaaGreatDoor.Sy
namespace Go.Proofs.YtbpphlmakmeoaaaGreatDoor.Sy
open Go.RowKit
def nH (a : f9) : Prop := a.lit.args.length ≤ 1000000000 ∧ a.guard.left.length ≤ 1000000000 ∧ (∀ t, t ∈ a.guard.left → t.args.length ≤ 1000000000) ∧ a.guard.right.length ≤ 1000000000 ∧ ∀ t, t ∈ a.guard.right → t.args.length ≤ 1000000000
def lQ (a : gI) : Prop := a.body.length ≤ 1000000000 ∧ (∀ p, p ∈ a.body → nH p) ∧ a.head.args.length ≤ 1000000000
abbrev Two11 (wr : World) (ga gb o : Nat) (p0 p1 p2 p3 p4 p5 p6 p7 p8 p9 p10 q0 q1 q2 q3 q4 q5 q6 q7 q8 q9 q10 : Value) (X : World) : Prop :=
 X.cell? ⟨ga, o, none⟩ = some p0 ∧ X.cell? ⟨ga, o + 1, none⟩ = some p1 ∧ X.cell? ⟨ga, o + 2, none⟩ = some p2 ∧ X.cell? ⟨ga, o + 3, none⟩ = some p3 ∧ X.cell? ⟨ga, o + 4, none⟩ = some p4 ∧ X.cell? ⟨ga, o + 5, none⟩ = some p5 ∧ X.cell? ⟨ga, o + 6, none⟩ = some p6 ∧ X.cell? ⟨ga, o + 7, none⟩ = some p7 ∧ X.cell? ⟨ga, o + 8, none⟩ = some p8 ∧ X.cell? ⟨ga, o + 9, none⟩ = some p9 ∧ X.cell? ⟨ga, o + 10, none⟩ = some p10 ∧ X.cell? ⟨gb, o, none⟩ = some q0 ∧ X.cell? ⟨gb, o + 1, none⟩ = some q1 ∧ X.cell? ⟨gb, o + 2, none⟩ = some q2 ∧ X.cell? ⟨gb, o + 3, none⟩ = some q3 ∧ X.cell? ⟨gb, o + 4, none⟩ = some q4 ∧ X.cell? ⟨gb, o + 5, none⟩ = some q5 ∧ X.cell? ⟨gb, o + 6, none⟩ = some q6 ∧ X.cell? ⟨gb, o + 7, none⟩ = some q7 ∧ X.cell? ⟨gb, o + 8, none⟩ = some q8 ∧ X.cell? ⟨gb, o + 9, none⟩ = some q9 ∧ X.cell? ⟨gb, o + 10, none⟩ = some q10 ∧ ga < wr.heap.size ∧ gb < wr.heap.size ∧ Below wr.heap.size wr X
theorem Two11.b {wr : World} {ga gb o : Nat} {p0 p1 p2 p3 p4 p5 p6 p7 p8 p9 p10 q0 q1 q2 q3 q4 q5 q6 q7 q8 q9 q10 : Value} {X : World} (h : Two11 wr ga gb o p0 p1 p2 p3 p4 p5 p6 p7 p8 p9 p10 q0 q1 q2 q3 q4 q5 q6 q7 q8 q9 q10 X) : Below wr.heap.size wr X := h.2.2.2.2.2.2.2.2.2.2.2.2.2.2.2.2.2.2.2.2.2.2.2.2
theorem Two11.drew {wr : World} {ga gb o : Nat} {p0 p1 p2 p3 p4 p5 p6 p7 p8 p9 p10 q0 q1 q2 q3 q4 q5 q6 q7 q8 q9 q10 : Value} {X : World} (h : Two11 wr ga gb o p0 p1 p2 p3 p4 p5 p6 p7 p8 p9 p10 q0 q1 q2 q3 q4 q5 q6 q7 q8 q9 q10 X) : Two11 wr ga gb o p0 p1 p2 p3 p4 p5 p6 p7 p8 p9 p10 q0 q1 q2 q3 q4 q5 q6 q7 q8 q9 q10 X.drew := by
 obtain ⟨h0, h1, h2, h3, h4, h5, h6, h7, h8, h9, Aj, Ab, Af, Ai, Ad, Ag, Aa, Ah, Ak, Al, Ac, Ae, k1, k2, k3⟩ := h
 exact ⟨h0, h1, h2, h3, h4, h5, h6, h7, h8, h9, Aj, Ab, Af, Ai, Ad, Ag, Aa, Ah, Ak, Al, Ac, Ae, k1, k2, k3.drew⟩
theorem Two11.below {wr : World} {ga gb o : Nat} {p0 p1 p2 p3 p4 p5 p6 p7 p8 p9 p10 q0 q1 q2 q3 q4 q5 q6 q7 q8 q9 q10 : Value} {X Y : World} (h : Two11 wr ga gb o p0 p1 p2 p3 p4 p5 p6 p7 p8 p9 p10 q0 q1 q2 q3 q4 q5 q6 q7 q8 q9 q10 X) (hb : Below X.heap.size X Y) : Two11 wr ga gb o p0 p1 p2 p3 p4 p5 p6 p7 p8 p9 p10 q0 q1 q2 q3 q4 q5 q6 q7 q8 q9 q10 Y := by
 obtain ⟨h0, h1, h2, h3, h4, h5, h6, h7, h8, h9, Aj, Ab, Af, Ai, Ad, Ag, Aa, Ah, Ak, Al, Ac, Ae, k1, k2, k3⟩ := h
 have ha : ga < X.heap.size := Nat.lt_of_lt_of_le k1 k3.size
 have hc : gb < X.heap.size := Nat.lt_of_lt_of_le k2 k3.size
 refine ⟨?_, ?_, ?_, ?_, ?_, ?_, ?_, ?_, ?_, ?_, ?_, ?_, ?_, ?_, ?_, ?_, ?_, ?_, ?_, ?_, ?_, ?_, k1, k2, k3.trans (hb.mono k3.size)⟩ <;> rw [hb.cell (by assumption)] <;> assumption
end Go.Proofs.YtbpphlmakmeoaaaGreatDoor.Sy
namespace Go.Proofs.YtbpphlmakmeoaaaGreatDoor.Sy
open Go.RowKit
structure mu (S : StatM) : Prop where
 kinds : S.kinds.length ≤ 1000000000
 members : S.members.length ≤ 1000000000
 preds : S.preds.length ≤ 1000000000
 preds' : ∀ a, a ∈ S.preds → a.kinds.length ≤ 1000000000 ∧ a.values.length ≤ 1000000000
 classes : S.classes.length ≤ 1000000000
 classes' : ∀ a, a ∈ S.classes → a.length ≤ 1000000000
 sources : S.sources.length ≤ 1000000000
 rules : S.rules.length ≤ 1000000000
 rules' : ∀ a, a ∈ S.rules → lQ a
 excepts : S.excepts.length ≤ 1000000000
 totals : S.totals.length ≤ 1000000000
 totals' : ∀ a, a ∈ S.totals → a.preds.length ≤ 1000000000
end Go.Proofs.YtbpphlmakmeoaaaGreatDoor.Sy
