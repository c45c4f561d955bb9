import Derived.Test.YtbpphlmakmeoaaaGreatDoorParse5
namespace Go.Proofs.YtbpphlmakmeoaaaGreatDoor.Sy
open Go.RowKit
theorem SRep.form {R : Nat} {w : World} {st : St9} {S : StatM} (h : SRep R w st S) : ∃ a1 c1 a2 c2 a3 c3 a4 c4 a5 c5 a6 c6 a7 c7 a8 c8, st = ⟨.string ⟨S.title.toArray⟩, .slice a1 S.kinds.length c1, .slice a2 S.members.length c2, .slice a3 S.preds.length c3, .slice a4 S.classes.length c4, .slice a5 S.sources.length c5, .slice a6 S.rules.length c6, .slice a7 S.excepts.length c7, .slice a8 S.totals.length c8⟩ := by
 obtain ⟨g0, g1, g2, g3, g4, g5, g6, g7, g8⟩ := st
 have e0 := h.title
 simp only at e0
 subst e0
 obtain ⟨a1, c1, e⟩ := ed h.kinds
 simp only at e
 subst e
 obtain ⟨a2, c2, e⟩ := ed h.members
 simp only at e
 subst e
 obtain ⟨a3, c3, e⟩ := ed h.preds
 simp only at e
 subst e
 obtain ⟨a4, c4, e⟩ := ed h.classes
 simp only at e
 subst e
 obtain ⟨a5, c5, e⟩ := ed h.sources
 simp only at e
 subst e
 obtain ⟨a6, c6, e⟩ := ed h.rules
 simp only at e
 subst e
 obtain ⟨a7, c7, e⟩ := ed h.excepts
 simp only at e
 subst e
 obtain ⟨a8, c8, e⟩ := ed h.totals
 simp only at e
 subst e
 exact ⟨_, _, _, _, _, _, _, _, _, _, _, _, _, _, _, _, rfl⟩
end Go.Proofs.YtbpphlmakmeoaaaGreatDoor.Sy
