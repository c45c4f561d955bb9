/- A statute in a reader's memory grows. By program. -/
import Derived.Test.YtjacfleiafkmmaaGreatDoorStat
namespace Go.Proofs.YtjacfleiafkmmaaGreatDoor.Sy
open Go.RowKit

section
variable {R : Nat} {L : List Tok} {N : Nat} {s : RS} {w1 w2 : World} {st : St9} {S : StatM}

theorem SRep.put_members (h : SRep R w1 st S) (hr : Rd R L N s st w1) (hF : Fg R st.members.ownBlock w1 w2) {l : List (Bytes × Bytes)} {v : Value} (hv : Rows (Beh R st.kinds) 78 2 cM w2 (S.members ++ l) v) :
    SRep R (w2.setCell ⟨R, 7, none⟩ v) { st with members := v } { S with members := S.members ++ l } := by
  have K0 : ∀ T Z, (∀ g, Z g → g ≠ R) → Kp T Z w2 (w2.setCell ⟨R, 7, none⟩ v) := fun T Z hz => Kp.setR hz
  have K1 : Kp (allT.filter (· ≠ 78)) (R < ·) w1 (w2.setCell ⟨R, 7, none⟩ v) := (Kp.of_fg hF hr h.members.own (by decide) (by decide)).trans (K0 _ _ fun g hg => Nat.ne_of_gt hg)
  have K2 : Kp (allT.filter (· ≠ 78)) (Beh R st.kinds) w1 (w2.setCell ⟨R, 7, none⟩ v) := K1.sub (fun _ h => h) fun g hg => hg.1
  have Ki : Kp inner (Beh R st.kinds) w1 (w2.setCell ⟨R, 7, none⟩ v) := inner_all K2 (by decide)
  have Kn : ∀ T, Kp T (Beh R st.kinds) w2 (w2.setCell ⟨R, 7, none⟩ v) := fun T => K0 T _ fun g hg => Nat.ne_of_gt hg.1
  exact ⟨h.title, h.kinds.keep K1 (by decide), hv.keep (Kn [78]) (by decide) fun _ _ h => h, h.preds.keep K2 (by decide) fun _ _ h => h.keep Ki, h.classes.keep K2 (by decide) fun _ _ h => h.keep Ki, h.sources.keep K2 (by decide) fun _ _ h => h, h.rules.keep K2 (by decide) fun _ _ h => h.keep Ki, h.excepts.keep K2 (by decide) fun _ _ h => h, h.totals.keep K2 (by decide) fun _ _ h => h.keep Ki⟩
theorem SRep.put_preds (h : SRep R w1 st S) (hr : Rd R L N s st w1) (hF : Fg R st.preds.ownBlock w1 w2) {l : List PredM} {v : Value} (hv : Rows (Beh R st.kinds) 92 4 (cPred (Beh R st.kinds)) w2 (S.preds ++ l) v) :
    SRep R (w2.setCell ⟨R, 8, none⟩ v) { st with preds := v } { S with preds := S.preds ++ l } := by
  have K0 : ∀ T Z, (∀ g, Z g → g ≠ R) → Kp T Z w2 (w2.setCell ⟨R, 8, none⟩ v) := fun T Z hz => Kp.setR hz
  have K1 : Kp (allT.filter (· ≠ 92)) (R < ·) w1 (w2.setCell ⟨R, 8, none⟩ v) := (Kp.of_fg hF hr h.preds.own (by decide) (by decide)).trans (K0 _ _ fun g hg => Nat.ne_of_gt hg)
  have K2 : Kp (allT.filter (· ≠ 92)) (Beh R st.kinds) w1 (w2.setCell ⟨R, 8, none⟩ v) := K1.sub (fun _ h => h) fun g hg => hg.1
  have Ki : Kp inner (Beh R st.kinds) w1 (w2.setCell ⟨R, 8, none⟩ v) := inner_all K2 (by decide)
  have Kn : ∀ T, Kp T (Beh R st.kinds) w2 (w2.setCell ⟨R, 8, none⟩ v) := fun T => K0 T _ fun g hg => Nat.ne_of_gt hg.1
  exact ⟨h.title, h.kinds.keep K1 (by decide), h.members.keep K2 (by decide) fun _ _ h => h, hv.keep (Kn [92]) (by decide) fun _ _ h => h.keep (Kn inner), h.classes.keep K2 (by decide) fun _ _ h => h.keep Ki, h.sources.keep K2 (by decide) fun _ _ h => h, h.rules.keep K2 (by decide) fun _ _ h => h.keep Ki, h.excepts.keep K2 (by decide) fun _ _ h => h, h.totals.keep K2 (by decide) fun _ _ h => h.keep Ki⟩
theorem SRep.put_classes (h : SRep R w1 st S) (hr : Rd R L N s st w1) (hF : Fg R st.classes.ownBlock w1 w2) {l : List (List Bytes)} {v : Value} (hv : Rows (Beh R st.kinds) 22 1 (cClass (Beh R st.kinds)) w2 (S.classes ++ l) v) :
    SRep R (w2.setCell ⟨R, 9, none⟩ v) { st with classes := v } { S with classes := S.classes ++ l } := by
  have K0 : ∀ T Z, (∀ g, Z g → g ≠ R) → Kp T Z w2 (w2.setCell ⟨R, 9, none⟩ v) := fun T Z hz => Kp.setR hz
  have K1 : Kp (allT.filter (· ≠ 22)) (R < ·) w1 (w2.setCell ⟨R, 9, none⟩ v) := (Kp.of_fg hF hr h.classes.own (by decide) (by decide)).trans (K0 _ _ fun g hg => Nat.ne_of_gt hg)
  have K2 : Kp (allT.filter (· ≠ 22)) (Beh R st.kinds) w1 (w2.setCell ⟨R, 9, none⟩ v) := K1.sub (fun _ h => h) fun g hg => hg.1
  have Ki : Kp inner (Beh R st.kinds) w1 (w2.setCell ⟨R, 9, none⟩ v) := inner_all K2 (by decide)
  have Kn : ∀ T, Kp T (Beh R st.kinds) w2 (w2.setCell ⟨R, 9, none⟩ v) := fun T => K0 T _ fun g hg => Nat.ne_of_gt hg.1
  exact ⟨h.title, h.kinds.keep K1 (by decide), h.members.keep K2 (by decide) fun _ _ h => h, h.preds.keep K2 (by decide) fun _ _ h => h.keep Ki, hv.keep (Kn [22]) (by decide) fun _ _ h => h.keep (Kn inner), h.sources.keep K2 (by decide) fun _ _ h => h, h.rules.keep K2 (by decide) fun _ _ h => h.keep Ki, h.excepts.keep K2 (by decide) fun _ _ h => h, h.totals.keep K2 (by decide) fun _ _ h => h.keep Ki⟩
theorem SRep.put_sources (h : SRep R w1 st S) (hr : Rd R L N s st w1) (hF : Fg R st.sources.ownBlock w1 w2) {l : List (Bytes × Int)} {v : Value} (hv : Rows (Beh R st.kinds) 126 2 cSrc w2 (S.sources ++ l) v) :
    SRep R (w2.setCell ⟨R, 10, none⟩ v) { st with sources := v } { S with sources := S.sources ++ l } := by
  have K0 : ∀ T Z, (∀ g, Z g → g ≠ R) → Kp T Z w2 (w2.setCell ⟨R, 10, none⟩ v) := fun T Z hz => Kp.setR hz
  have K1 : Kp (allT.filter (· ≠ 126)) (R < ·) w1 (w2.setCell ⟨R, 10, none⟩ v) := (Kp.of_fg hF hr h.sources.own (by decide) (by decide)).trans (K0 _ _ fun g hg => Nat.ne_of_gt hg)
  have K2 : Kp (allT.filter (· ≠ 126)) (Beh R st.kinds) w1 (w2.setCell ⟨R, 10, none⟩ v) := K1.sub (fun _ h => h) fun g hg => hg.1
  have Ki : Kp inner (Beh R st.kinds) w1 (w2.setCell ⟨R, 10, none⟩ v) := inner_all K2 (by decide)
  have Kn : ∀ T, Kp T (Beh R st.kinds) w2 (w2.setCell ⟨R, 10, none⟩ v) := fun T => K0 T _ fun g hg => Nat.ne_of_gt hg.1
  exact ⟨h.title, h.kinds.keep K1 (by decide), h.members.keep K2 (by decide) fun _ _ h => h, h.preds.keep K2 (by decide) fun _ _ h => h.keep Ki, h.classes.keep K2 (by decide) fun _ _ h => h.keep Ki, hv.keep (Kn [126]) (by decide) fun _ _ h => h, h.rules.keep K2 (by decide) fun _ _ h => h.keep Ki, h.excepts.keep K2 (by decide) fun _ _ h => h, h.totals.keep K2 (by decide) fun _ _ h => h.keep Ki⟩
theorem SRep.put_rules (h : SRep R w1 st S) (hr : Rd R L N s st w1) (hF : Fg R st.rules.ownBlock w1 w2) {l : List RuleM} {v : Value} (hv : Rows (Beh R st.kinds) 100 11 (cRule (Beh R st.kinds)) w2 (S.rules ++ l) v) :
    SRep R (w2.setCell ⟨R, 11, none⟩ v) { st with rules := v } { S with rules := S.rules ++ l } := by
  have K0 : ∀ T Z, (∀ g, Z g → g ≠ R) → Kp T Z w2 (w2.setCell ⟨R, 11, none⟩ v) := fun T Z hz => Kp.setR hz
  have K1 : Kp (allT.filter (· ≠ 100)) (R < ·) w1 (w2.setCell ⟨R, 11, none⟩ v) := (Kp.of_fg hF hr h.rules.own (by decide) (by decide)).trans (K0 _ _ fun g hg => Nat.ne_of_gt hg)
  have K2 : Kp (allT.filter (· ≠ 100)) (Beh R st.kinds) w1 (w2.setCell ⟨R, 11, none⟩ v) := K1.sub (fun _ h => h) fun g hg => hg.1
  have Ki : Kp inner (Beh R st.kinds) w1 (w2.setCell ⟨R, 11, none⟩ v) := inner_all K2 (by decide)
  have Kn : ∀ T, Kp T (Beh R st.kinds) w2 (w2.setCell ⟨R, 11, none⟩ v) := fun T => K0 T _ fun g hg => Nat.ne_of_gt hg.1
  exact ⟨h.title, h.kinds.keep K1 (by decide), h.members.keep K2 (by decide) fun _ _ h => h, h.preds.keep K2 (by decide) fun _ _ h => h.keep Ki, h.classes.keep K2 (by decide) fun _ _ h => h.keep Ki, h.sources.keep K2 (by decide) fun _ _ h => h, hv.keep (Kn [100]) (by decide) fun _ _ h => h.keep (Kn inner), h.excepts.keep K2 (by decide) fun _ _ h => h, h.totals.keep K2 (by decide) fun _ _ h => h.keep Ki⟩
theorem SRep.put_excepts (h : SRep R w1 st S) (hr : Rd R L N s st w1) (hF : Fg R st.excepts.ownBlock w1 w2) {l : List (Bytes × Bytes)} {v : Value} (hv : Rows (Beh R st.kinds) 128 2 cM w2 (S.excepts ++ l) v) :
    SRep R (w2.setCell ⟨R, 12, none⟩ v) { st with excepts := v } { S with excepts := S.excepts ++ l } := by
  have K0 : ∀ T Z, (∀ g, Z g → g ≠ R) → Kp T Z w2 (w2.setCell ⟨R, 12, none⟩ v) := fun T Z hz => Kp.setR hz
  have K1 : Kp (allT.filter (· ≠ 128)) (R < ·) w1 (w2.setCell ⟨R, 12, none⟩ v) := (Kp.of_fg hF hr h.excepts.own (by decide) (by decide)).trans (K0 _ _ fun g hg => Nat.ne_of_gt hg)
  have K2 : Kp (allT.filter (· ≠ 128)) (Beh R st.kinds) w1 (w2.setCell ⟨R, 12, none⟩ v) := K1.sub (fun _ h => h) fun g hg => hg.1
  have Ki : Kp inner (Beh R st.kinds) w1 (w2.setCell ⟨R, 12, none⟩ v) := inner_all K2 (by decide)
  have Kn : ∀ T, Kp T (Beh R st.kinds) w2 (w2.setCell ⟨R, 12, none⟩ v) := fun T => K0 T _ fun g hg => Nat.ne_of_gt hg.1
  exact ⟨h.title, h.kinds.keep K1 (by decide), h.members.keep K2 (by decide) fun _ _ h => h, h.preds.keep K2 (by decide) fun _ _ h => h.keep Ki, h.classes.keep K2 (by decide) fun _ _ h => h.keep Ki, h.sources.keep K2 (by decide) fun _ _ h => h, h.rules.keep K2 (by decide) fun _ _ h => h.keep Ki, hv.keep (Kn [128]) (by decide) fun _ _ h => h, h.totals.keep K2 (by decide) fun _ _ h => h.keep Ki⟩
theorem SRep.put_totals (h : SRep R w1 st S) (hr : Rd R L N s st w1) (hF : Fg R st.totals.ownBlock w1 w2) {l : List TotalM} {v : Value} (hv : Rows (Beh R st.kinds) 111 5 (cTotal (Beh R st.kinds)) w2 (S.totals ++ l) v) :
    SRep R (w2.setCell ⟨R, 13, none⟩ v) { st with totals := v } { S with totals := S.totals ++ l } := by
  have K0 : ∀ T Z, (∀ g, Z g → g ≠ R) → Kp T Z w2 (w2.setCell ⟨R, 13, none⟩ v) := fun T Z hz => Kp.setR hz
  have K1 : Kp (allT.filter (· ≠ 111)) (R < ·) w1 (w2.setCell ⟨R, 13, none⟩ v) := (Kp.of_fg hF hr h.totals.own (by decide) (by decide)).trans (K0 _ _ fun g hg => Nat.ne_of_gt hg)
  have K2 : Kp (allT.filter (· ≠ 111)) (Beh R st.kinds) w1 (w2.setCell ⟨R, 13, none⟩ v) := K1.sub (fun _ h => h) fun g hg => hg.1
  have Ki : Kp inner (Beh R st.kinds) w1 (w2.setCell ⟨R, 13, none⟩ v) := inner_all K2 (by decide)
  have Kn : ∀ T, Kp T (Beh R st.kinds) w2 (w2.setCell ⟨R, 13, none⟩ v) := fun T => K0 T _ fun g hg => Nat.ne_of_gt hg.1
  exact ⟨h.title, h.kinds.keep K1 (by decide), h.members.keep K2 (by decide) fun _ _ h => h, h.preds.keep K2 (by decide) fun _ _ h => h.keep Ki, h.classes.keep K2 (by decide) fun _ _ h => h.keep Ki, h.sources.keep K2 (by decide) fun _ _ h => h, h.rules.keep K2 (by decide) fun _ _ h => h.keep Ki, h.excepts.keep K2 (by decide) fun _ _ h => h, hv.keep (Kn [111]) (by decide) fun _ _ h => h.keep (Kn inner)⟩
theorem SRep.put_kinds (h : SRep R w1 st S) (hF : Fg R st.kinds.ownBlock w1 w2) {l : List Bytes} {v : Value} (hv : Strs (fun g => R < g ∧ (some g = st.kinds.ownBlock ∨ w1.heap.size ≤ g)) w2 (S.kinds ++ l) v) :
    SRep R (w2.setCell ⟨R, 6, none⟩ v) { st with kinds := v } { S with kinds := S.kinds ++ l } := by
  have K0 : ∀ T Z, (∀ g, Z g → g ≠ R) → Kp T Z w2 (w2.setCell ⟨R, 6, none⟩ v) := fun T Z hz => Kp.setR hz
  let Z : Nat → Prop := fun g => Beh R st.kinds g ∧ g < w1.heap.size
  have K1 : ∀ T, Kp T Z w1 (w2.setCell ⟨R, 6, none⟩ v) := fun T => (Kp.of_fg2 hF fun g hg => ⟨Nat.ne_of_gt hg.1.1, hg.1.2⟩).trans (K0 T _ fun g hg => Nat.ne_of_gt hg.1.1)
  have hw : ∀ g, g < w1.heap.size → Beh R st.kinds g → Z g := fun g h1 h2 => ⟨h2, h1⟩
  have hown : ∀ g, v.ownBlock = some g → some g = st.kinds.ownBlock ∨ w1.heap.size ≤ g := fun g hg => by
    obtain ⟨xs, hx, _⟩ := hv
    exact (hx.2 g hg).2
  have hm : ∀ g, Z g → Beh R v g := fun g hg => ⟨hg.1.1, fun e => by
    rcases hown g e.symm with h1 | h1
    · exact hg.1.2 h1
    · have := hg.2; omega⟩
  exact ⟨h.title, (Strs.mono hv fun g hg => hg.1).keep (K0 [9] _ fun g hg => Nat.ne_of_gt hg) (by decide), ((h.members.within hw fun _ _ h => h).keep (K1 [78]) (by decide) fun _ _ h => h).mono hm fun _ _ h => h, ((h.preds.within hw fun _ _ h => h.within hw).keep (K1 [92]) (by decide) fun _ _ h => h.keep (K1 inner)).mono hm fun _ _ h => h.mono hm, ((h.classes.within hw fun _ _ h => h.within hw).keep (K1 [22]) (by decide) fun _ _ h => h.keep (K1 inner)).mono hm fun _ _ h => h.mono hm, ((h.sources.within hw fun _ _ h => h).keep (K1 [126]) (by decide) fun _ _ h => h).mono hm fun _ _ h => h, ((h.rules.within hw fun _ _ h => h.within hw).keep (K1 [100]) (by decide) fun _ _ h => h.keep (K1 inner)).mono hm fun _ _ h => h.mono hm, ((h.excepts.within hw fun _ _ h => h).keep (K1 [128]) (by decide) fun _ _ h => h).mono hm fun _ _ h => h, ((h.totals.within hw fun _ _ h => h.within hw).keep (K1 [111]) (by decide) fun _ _ h => h.keep (K1 inner)).mono hm fun _ _ h => h.mono hm⟩
end
end Go.Proofs.YtjacfleiafkmmaaGreatDoor.Sy
