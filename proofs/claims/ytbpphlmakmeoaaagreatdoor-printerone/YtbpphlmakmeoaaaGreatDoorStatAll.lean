import Derived.Test.YtbpphlmakmeoaaaGreatDoorRule5
import Derived.Test.YtbpphlmakmeoaaaGreatDoorParts5
import Derived.Test.YtbpphlmakmeoaaaGreatDoorAddAll
import Derived.Test.YtbpphlmakmeoaaaGreatDoorMembers5
namespace Go.Proofs.YtbpphlmakmeoaaaGreatDoor.Sy
open Go.RowKit
def fV (R : Nat) (kv : Value) (g : Nat) : Prop := R < g ∧ some g ≠ kv.ownBlock
structure SRep (R : Nat) (w : World) (st : St9) (S : StatM) : Prop where
 title : st.title = .string ⟨S.title.toArray⟩
 kinds : Strs (R < ·) w S.kinds st.kinds
 members : Rows (fV R st.kinds) 124 2 cM w S.members st.members
 preds : Rows (fV R st.kinds) 128 4 (cPred (fV R st.kinds)) w S.preds st.preds
 classes : Rows (fV R st.kinds) 22 1 (cClass (fV R st.kinds)) w S.classes st.classes
 sources : Rows (fV R st.kinds) 131 2 i8 w S.sources st.sources
 rules : Rows (fV R st.kinds) 49 11 (cRule (fV R st.kinds)) w S.rules st.rules
 excepts : Rows (fV R st.kinds) 133 2 cM w S.excepts st.excepts
 totals : Rows (fV R st.kinds) 135 5 (cTotal (fV R st.kinds)) w S.totals st.totals
def allT : List Nat := [9, 45, 192, 108, 124, 128, 22, 131, 49, 133, 135]
section
variable {R : Nat} {w w' : World} {st : St9} {S : StatM}
theorem ji {Z : Nat → Prop} {T : List Nat} (h : Kp T Z w w') (ht : ∀ t ∈ ei, t ∈ T) : Kp ei Z w w' := h.sub ht fun _ h => h
theorem SRep.keep (h : SRep R w st S) (hk : Kp allT (R < ·) w w') : SRep R w' st S := by
 have Aa : Kp allT (fV R st.kinds) w w' := hk.sub (fun _ h => h) fun g hg => hg.1
 have hi : Kp ei (fV R st.kinds) w w' := ji Aa (by decide)
 exact ⟨h.title, h.kinds.keep hk (by decide), h.members.keep Aa (by decide) fun _ _ h => h, h.preds.keep Aa (by decide) fun _ _ h => h.keep hi, h.classes.keep Aa (by decide) fun _ _ h => h.keep hi,
  h.sources.keep Aa (by decide) fun _ _ h => h, h.rules.keep Aa (by decide) fun _ _ h => h.keep hi, h.excepts.keep Aa (by decide) fun _ _ h => h, h.totals.keep Aa (by decide) fun _ _ h => h.keep hi⟩
theorem Kp.of_fg {L : List fw} {N : Nat} {s : RS} {T : List Nat} {Z : Nat → Prop} {row : Option Nat} {e : Nat} (h : Fg R row w w') (hr : Rd R L N s st w) (ho : ∀ g, row = some g → ∃ cur, w.heap[g]? = some (.cells cur e (0, 0))) (he : e ∉ T) (ht : 122 ∉ T) : Kp T Z w w' := by
 intro g cur t _ hg hm
 rw [h.block g (eN hg), hg]
 · rintro rfl
   obtain ⟨a, c, hb, _⟩ := hr.blk
   rw [hb] at hg
   cases hg
   exact ht hm
 · intro Aa
   obtain ⟨cur', h'⟩ := ho g Aa.symm
   rw [hg] at h'
   cases h'
   exact he hm
theorem Kp.of_fg2 {T : List Nat} {row : Option Nat} {Z : Nat → Prop} (h : Fg R row w w') (hz : ∀ g, Z g → g ≠ R ∧ some g ≠ row) : Kp T Z w w' := by
 intro g Aa t hZ hg _
 rw [h.block g (eN hg) (hz g hZ).1 (hz g hZ).2, hg]
theorem Rows.own {α : Type} {Z : Nat → Prop} {e k : Nat} {c : World → α → List Value → Prop} {l : List α} {v : Value} (h : Rows Z e k c w l v) : ∀ g, v.ownBlock = some g → ∃ cur, w.heap[g]? = some (.cells cur e (0, 0)) := by
 obtain ⟨xs, h1, _⟩ := h
 intro g hg
 rcases h1.1.2 with ⟨h2, _⟩ | ⟨g', Aa, cur, h2, _, h3, _⟩
 · rw [h2] at hg; cases hg
 · rw [h2] at hg; cases hg; exact ⟨cur, h3⟩
structure Fi (R : Nat) (w w' : World) : Prop where
 os : w'.os = w.os
 tape : w'.tape = w.tape
 output : w'.output = w.output
 size : w.heap.size ≤ w'.heap.size
 block : ∀ k, k < R → w'.heap[k]? = w.heap[k]?
theorem Fi.refl (R : Nat) (w : World) : Fi R w w := ⟨rfl, rfl, rfl, Nat.le_refl _, fun _ _ => rfl⟩
theorem Fi.trans {a b c : World} (h : Fi R a b) (k : Fi R b c) : Fi R a c :=
 ⟨k.os.trans h.os, k.tape.trans h.tape, k.output.trans h.output, Nat.le_trans h.size k.size, fun i hi => (k.block i hi).trans (h.block i hi)⟩
theorem Fq.fi (h : Fq R w w') (hR : R < w.heap.size) : Fi R w w' := ⟨h.os, h.tape, h.output, h.size, fun k hk => h.block k (by omega) (by omega)⟩
theorem Fg.fi {row : Option Nat} (h : Fg R row w w') (hR : R < w.heap.size) (hr : ∀ g, row = some g → R < g) : Fi R w w' :=
 ⟨h.os, h.tape, h.output, h.size, fun k hk => h.block k (by omega) (by omega) fun e => by have := hr k e.symm; omega⟩
theorem Fi.set {a : World} (h : Fi R a w) (i : Nat) (v : Value) : Fi R a (w.setCell ⟨R, i, none⟩ v) :=
 ⟨h.os, h.tape, h.output, by simpa using h.size, fun k hk => (heap_setCell_other w ⟨R, i, none⟩ k v (by show k ≠ R; omega)).trans (h.block k hk)⟩
theorem Kp.setR {T : List Nat} {Z : Nat → Prop} {i : Nat} {v : Value} (hz : ∀ g, Z g → g ≠ R) : Kp T Z w (w.setCell ⟨R, i, none⟩ v) := fun g _ _ hZ hg _ => fD hg (hz g hZ)
end
section
variable {R : Nat} {L : List fw} {N : Nat} {s : RS} {st : St9} {w : World}
theorem Rd.d5 (h : Rd R L N s st w) : w.cell? ⟨R, 5, none⟩ = some st.title := by obtain ⟨a, c, hb, _⟩ := h.blk; rw [cell_of_row w R 5 _ 122 _ hb]; rfl
theorem Rd.d6 (h : Rd R L N s st w) : w.cell? ⟨R, 6, none⟩ = some st.kinds := by obtain ⟨a, c, hb, _⟩ := h.blk; rw [cell_of_row w R 6 _ 122 _ hb]; rfl
theorem Rd.d7 (h : Rd R L N s st w) : w.cell? ⟨R, 7, none⟩ = some st.members := by obtain ⟨a, c, hb, _⟩ := h.blk; rw [cell_of_row w R 7 _ 122 _ hb]; rfl
theorem Rd.d8 (h : Rd R L N s st w) : w.cell? ⟨R, 8, none⟩ = some st.preds := by obtain ⟨a, c, hb, _⟩ := h.blk; rw [cell_of_row w R 8 _ 122 _ hb]; rfl
theorem Rd.d9 (h : Rd R L N s st w) : w.cell? ⟨R, 9, none⟩ = some st.classes := by obtain ⟨a, c, hb, _⟩ := h.blk; rw [cell_of_row w R 9 _ 122 _ hb]; rfl
theorem Rd.d10 (h : Rd R L N s st w) : w.cell? ⟨R, 10, none⟩ = some st.sources := by obtain ⟨a, c, hb, _⟩ := h.blk; rw [cell_of_row w R 10 _ 122 _ hb]; rfl
theorem Rd.d11 (h : Rd R L N s st w) : w.cell? ⟨R, 11, none⟩ = some st.rules := by obtain ⟨a, c, hb, _⟩ := h.blk; rw [cell_of_row w R 11 _ 122 _ hb]; rfl
theorem Rd.d12 (h : Rd R L N s st w) : w.cell? ⟨R, 12, none⟩ = some st.excepts := by obtain ⟨a, c, hb, _⟩ := h.blk; rw [cell_of_row w R 12 _ 122 _ hb]; rfl
theorem Rd.d13 (h : Rd R L N s st w) : w.cell? ⟨R, 13, none⟩ = some st.totals := by obtain ⟨a, c, hb, _⟩ := h.blk; rw [cell_of_row w R 13 _ 122 _ hb]; rfl
theorem Rd.s5 (h : Rd R L N s st w) (v : Value) : Rd R L N s { st with title := v } (w.setCell ⟨R, 5, none⟩ v) := h.put _ _ 5 _ h.nle fun _ => rfl
theorem Rd.s6 (h : Rd R L N s st w) (v : Value) : Rd R L N s { st with kinds := v } (w.setCell ⟨R, 6, none⟩ v) := h.put _ _ 6 _ h.nle fun _ => rfl
theorem Rd.s7 (h : Rd R L N s st w) (v : Value) : Rd R L N s { st with members := v } (w.setCell ⟨R, 7, none⟩ v) := h.put _ _ 7 _ h.nle fun _ => rfl
theorem Rd.s8 (h : Rd R L N s st w) (v : Value) : Rd R L N s { st with preds := v } (w.setCell ⟨R, 8, none⟩ v) := h.put _ _ 8 _ h.nle fun _ => rfl
theorem Rd.s9 (h : Rd R L N s st w) (v : Value) : Rd R L N s { st with classes := v } (w.setCell ⟨R, 9, none⟩ v) := h.put _ _ 9 _ h.nle fun _ => rfl
theorem Rd.s10 (h : Rd R L N s st w) (v : Value) : Rd R L N s { st with sources := v } (w.setCell ⟨R, 10, none⟩ v) := h.put _ _ 10 _ h.nle fun _ => rfl
theorem Rd.s11 (h : Rd R L N s st w) (v : Value) : Rd R L N s { st with rules := v } (w.setCell ⟨R, 11, none⟩ v) := h.put _ _ 11 _ h.nle fun _ => rfl
theorem Rd.s12 (h : Rd R L N s st w) (v : Value) : Rd R L N s { st with excepts := v } (w.setCell ⟨R, 12, none⟩ v) := h.put _ _ 12 _ h.nle fun _ => rfl
theorem Rd.s13 (h : Rd R L N s st w) (v : Value) : Rd R L N s { st with totals := v } (w.setCell ⟨R, 13, none⟩ v) := h.put _ _ 13 _ h.nle fun _ => rfl
end
structure Lens (S : StatM) (n : Nat) : Prop where
 kinds : S.kinds.length ≤ n
 members : S.members.length ≤ n
 preds : S.preds.length ≤ n
 classes : S.classes.length ≤ n
 sources : S.sources.length ≤ n
 rules : S.rules.length ≤ n
 excepts : S.excepts.length ≤ n
 totals : S.totals.length ≤ n
theorem Lens.up {S : StatM} {n m : Nat} (h : Lens S n) (hm : n ≤ m) : Lens S m :=
 ⟨Nat.le_trans h.kinds hm, Nat.le_trans h.members hm, Nat.le_trans h.preds hm, Nat.le_trans h.classes hm, Nat.le_trans h.sources hm, Nat.le_trans h.rules hm, Nat.le_trans h.excepts hm, Nat.le_trans h.totals hm⟩
def EndsI (R : Nat) (L : List fw) (N : Nat) (w : World) (o : Out StatM) (e : Ending) (w' : World) : Prop :=
 match o with
 | .ok S t => e = .returned (.tuple #[]) ∧ (∃ st, Rd R L N t st w' ∧ SRep R w' st S ∧ Lens S t.n) ∧ Fi R w w'
 | .bad c n => e = .panicked [{ v := .iface 118 (.agg #[.int .i64 c, .int .i64 (eI L N n)]), recovered := false }] ∧ Fi R w w'
theorem EndsI.split {R : Nat} {L : List fw} {N : Nat} {w : World} {o : Out StatM} {e : Ending} {w' : World} (h : EndsI R L N w o e w') :
    (∃ S t st, o = .ok S t ∧ e = .returned (.tuple #[]) ∧ Rd R L N t st w' ∧ SRep R w' st S ∧ Lens S t.n ∧ Fi R w w') ∨
    (∃ c n, o = .bad c n ∧ e = .panicked [{ v := .iface 118 (.agg #[.int .i64 c, .int .i64 (eI L N n)]), recovered := false }] ∧ Fi R w w') := by
 cases o with
 | ok S t => obtain ⟨h1, ⟨st, h2, h3, h4⟩, h5⟩ := h; exact .inl ⟨S, t, st, rfl, h1, h2, h3, h4, h5⟩
 | bad c n => exact .inr ⟨c, n, rfl, h⟩
theorem EndsI.of_ok {R : Nat} {L : List fw} {N : Nat} {w : World} {o : Out StatM} {S : StatM} {t : RS} {st : St9} {w' : World} (ho : .ok S t = o) (hR : Rd R L N t st w') (hS : SRep R w' st S) (hl : Lens S t.n) (hF : Fi R w w') :
    EndsI R L N w o (.returned (.tuple #[])) w' := by subst ho; exact ⟨rfl, ⟨st, hR, hS, hl⟩, hF⟩
theorem EndsI.of_bad {R : Nat} {L : List fw} {N : Nat} {w : World} {o : Out StatM} {c : Int} {n : Nat} {w' : World} (ho : .bad c n = o)
    (hF : Fi R w w') : EndsI R L N w o (.panicked [{ v := .iface 118 (.agg #[.int .i64 c, .int .i64 (eI L N n)]), recovered := false }]) w' := by subst ho; exact ⟨rfl, hF⟩
end Go.Proofs.YtbpphlmakmeoaaaGreatDoor.Sy
namespace Go.Proofs.YtbpphlmakmeoaaaGreatDoor.Sy
open Go.RowKit
section
variable {R : Nat} {L : List fw} {N : Nat} {s : RS} {w1 w2 : World} {st : St9} {S : StatM}
theorem SRep.put_members (h : SRep R w1 st S) (hr : Rd R L N s st w1) (hF : Fg R st.members.ownBlock w1 w2) {l : List (ee × ee)} {v : Value} (hv : Rows (fV R st.kinds) 124 2 cM w2 (S.members ++ l) v) :
    SRep R (w2.setCell ⟨R, 7, none⟩ v) { st with members := v } { S with members := S.members ++ l } := by
 have K0 : ∀ T Z, (∀ g, Z g → g ≠ R) → Kp T Z w2 (w2.setCell ⟨R, 7, none⟩ v) := fun T Z hz => Kp.setR hz
 have K1 : Kp (allT.filter (· ≠ 124)) (R < ·) w1 (w2.setCell ⟨R, 7, none⟩ v) := (Kp.of_fg hF hr h.members.own (by decide) (by decide)).trans (K0 _ _ fun g hg => Nat.ne_of_gt hg)
 have K2 : Kp (allT.filter (· ≠ 124)) (fV R st.kinds) w1 (w2.setCell ⟨R, 7, none⟩ v) := K1.sub (fun _ h => h) fun g hg => hg.1
 have Ki : Kp ei (fV R st.kinds) w1 (w2.setCell ⟨R, 7, none⟩ v) := ji K2 (by decide)
 have Kn : ∀ T, Kp T (fV R st.kinds) w2 (w2.setCell ⟨R, 7, none⟩ v) := fun T => K0 T _ fun g hg => Nat.ne_of_gt hg.1
 exact ⟨h.title, h.kinds.keep K1 (by decide), hv.keep (Kn [124]) (by decide) fun _ _ h => h, h.preds.keep K2 (by decide) fun _ _ h => h.keep Ki, h.classes.keep K2 (by decide) fun _ _ h => h.keep Ki, h.sources.keep K2 (by decide) fun _ _ h => h, h.rules.keep K2 (by decide) fun _ _ h => h.keep Ki, h.excepts.keep K2 (by decide) fun _ _ h => h, h.totals.keep K2 (by decide) fun _ _ h => h.keep Ki⟩
theorem SRep.put_preds (h : SRep R w1 st S) (hr : Rd R L N s st w1) (hF : Fg R st.preds.ownBlock w1 w2) {l : List fZ} {v : Value} (hv : Rows (fV R st.kinds) 128 4 (cPred (fV R st.kinds)) w2 (S.preds ++ l) v) :
    SRep R (w2.setCell ⟨R, 8, none⟩ v) { st with preds := v } { S with preds := S.preds ++ l } := by
 have K0 : ∀ T Z, (∀ g, Z g → g ≠ R) → Kp T Z w2 (w2.setCell ⟨R, 8, none⟩ v) := fun T Z hz => Kp.setR hz
 have K1 : Kp (allT.filter (· ≠ 128)) (R < ·) w1 (w2.setCell ⟨R, 8, none⟩ v) := (Kp.of_fg hF hr h.preds.own (by decide) (by decide)).trans (K0 _ _ fun g hg => Nat.ne_of_gt hg)
 have K2 : Kp (allT.filter (· ≠ 128)) (fV R st.kinds) w1 (w2.setCell ⟨R, 8, none⟩ v) := K1.sub (fun _ h => h) fun g hg => hg.1
 have Ki : Kp ei (fV R st.kinds) w1 (w2.setCell ⟨R, 8, none⟩ v) := ji K2 (by decide)
 have Kn : ∀ T, Kp T (fV R st.kinds) w2 (w2.setCell ⟨R, 8, none⟩ v) := fun T => K0 T _ fun g hg => Nat.ne_of_gt hg.1
 exact ⟨h.title, h.kinds.keep K1 (by decide), h.members.keep K2 (by decide) fun _ _ h => h, hv.keep (Kn [128]) (by decide) fun _ _ h => h.keep (Kn ei), h.classes.keep K2 (by decide) fun _ _ h => h.keep Ki, h.sources.keep K2 (by decide) fun _ _ h => h, h.rules.keep K2 (by decide) fun _ _ h => h.keep Ki, h.excepts.keep K2 (by decide) fun _ _ h => h, h.totals.keep K2 (by decide) fun _ _ h => h.keep Ki⟩
theorem SRep.put_classes (h : SRep R w1 st S) (hr : Rd R L N s st w1) (hF : Fg R st.classes.ownBlock w1 w2) {l : List (List ee)} {v : Value} (hv : Rows (fV R st.kinds) 22 1 (cClass (fV R st.kinds)) w2 (S.classes ++ l) v) :
    SRep R (w2.setCell ⟨R, 9, none⟩ v) { st with classes := v } { S with classes := S.classes ++ l } := by
 have K0 : ∀ T Z, (∀ g, Z g → g ≠ R) → Kp T Z w2 (w2.setCell ⟨R, 9, none⟩ v) := fun T Z hz => Kp.setR hz
 have K1 : Kp (allT.filter (· ≠ 22)) (R < ·) w1 (w2.setCell ⟨R, 9, none⟩ v) := (Kp.of_fg hF hr h.classes.own (by decide) (by decide)).trans (K0 _ _ fun g hg => Nat.ne_of_gt hg)
 have K2 : Kp (allT.filter (· ≠ 22)) (fV R st.kinds) w1 (w2.setCell ⟨R, 9, none⟩ v) := K1.sub (fun _ h => h) fun g hg => hg.1
 have Ki : Kp ei (fV R st.kinds) w1 (w2.setCell ⟨R, 9, none⟩ v) := ji K2 (by decide)
 have Kn : ∀ T, Kp T (fV R st.kinds) w2 (w2.setCell ⟨R, 9, none⟩ v) := fun T => K0 T _ fun g hg => Nat.ne_of_gt hg.1
 exact ⟨h.title, h.kinds.keep K1 (by decide), h.members.keep K2 (by decide) fun _ _ h => h, h.preds.keep K2 (by decide) fun _ _ h => h.keep Ki, hv.keep (Kn [22]) (by decide) fun _ _ h => h.keep (Kn ei), h.sources.keep K2 (by decide) fun _ _ h => h, h.rules.keep K2 (by decide) fun _ _ h => h.keep Ki, h.excepts.keep K2 (by decide) fun _ _ h => h, h.totals.keep K2 (by decide) fun _ _ h => h.keep Ki⟩
theorem SRep.put_sources (h : SRep R w1 st S) (hr : Rd R L N s st w1) (hF : Fg R st.sources.ownBlock w1 w2) {l : List (ee × Int)} {v : Value} (hv : Rows (fV R st.kinds) 131 2 i8 w2 (S.sources ++ l) v) :
    SRep R (w2.setCell ⟨R, 10, none⟩ v) { st with sources := v } { S with sources := S.sources ++ l } := by
 have K0 : ∀ T Z, (∀ g, Z g → g ≠ R) → Kp T Z w2 (w2.setCell ⟨R, 10, none⟩ v) := fun T Z hz => Kp.setR hz
 have K1 : Kp (allT.filter (· ≠ 131)) (R < ·) w1 (w2.setCell ⟨R, 10, none⟩ v) := (Kp.of_fg hF hr h.sources.own (by decide) (by decide)).trans (K0 _ _ fun g hg => Nat.ne_of_gt hg)
 have K2 : Kp (allT.filter (· ≠ 131)) (fV R st.kinds) w1 (w2.setCell ⟨R, 10, none⟩ v) := K1.sub (fun _ h => h) fun g hg => hg.1
 have Ki : Kp ei (fV R st.kinds) w1 (w2.setCell ⟨R, 10, none⟩ v) := ji K2 (by decide)
 have Kn : ∀ T, Kp T (fV R st.kinds) w2 (w2.setCell ⟨R, 10, none⟩ v) := fun T => K0 T _ fun g hg => Nat.ne_of_gt hg.1
 exact ⟨h.title, h.kinds.keep K1 (by decide), h.members.keep K2 (by decide) fun _ _ h => h, h.preds.keep K2 (by decide) fun _ _ h => h.keep Ki, h.classes.keep K2 (by decide) fun _ _ h => h.keep Ki, hv.keep (Kn [131]) (by decide) fun _ _ h => h, h.rules.keep K2 (by decide) fun _ _ h => h.keep Ki, h.excepts.keep K2 (by decide) fun _ _ h => h, h.totals.keep K2 (by decide) fun _ _ h => h.keep Ki⟩
theorem SRep.put_rules (h : SRep R w1 st S) (hr : Rd R L N s st w1) (hF : Fg R st.rules.ownBlock w1 w2) {l : List gI} {v : Value} (hv : Rows (fV R st.kinds) 49 11 (cRule (fV R st.kinds)) w2 (S.rules ++ l) v) :
    SRep R (w2.setCell ⟨R, 11, none⟩ v) { st with rules := v } { S with rules := S.rules ++ l } := by
 have K0 : ∀ T Z, (∀ g, Z g → g ≠ R) → Kp T Z w2 (w2.setCell ⟨R, 11, none⟩ v) := fun T Z hz => Kp.setR hz
 have K1 : Kp (allT.filter (· ≠ 49)) (R < ·) w1 (w2.setCell ⟨R, 11, none⟩ v) := (Kp.of_fg hF hr h.rules.own (by decide) (by decide)).trans (K0 _ _ fun g hg => Nat.ne_of_gt hg)
 have K2 : Kp (allT.filter (· ≠ 49)) (fV R st.kinds) w1 (w2.setCell ⟨R, 11, none⟩ v) := K1.sub (fun _ h => h) fun g hg => hg.1
 have Ki : Kp ei (fV R st.kinds) w1 (w2.setCell ⟨R, 11, none⟩ v) := ji K2 (by decide)
 have Kn : ∀ T, Kp T (fV R st.kinds) w2 (w2.setCell ⟨R, 11, none⟩ v) := fun T => K0 T _ fun g hg => Nat.ne_of_gt hg.1
 exact ⟨h.title, h.kinds.keep K1 (by decide), h.members.keep K2 (by decide) fun _ _ h => h, h.preds.keep K2 (by decide) fun _ _ h => h.keep Ki, h.classes.keep K2 (by decide) fun _ _ h => h.keep Ki, h.sources.keep K2 (by decide) fun _ _ h => h, hv.keep (Kn [49]) (by decide) fun _ _ h => h.keep (Kn ei), h.excepts.keep K2 (by decide) fun _ _ h => h, h.totals.keep K2 (by decide) fun _ _ h => h.keep Ki⟩
theorem SRep.put_excepts (h : SRep R w1 st S) (hr : Rd R L N s st w1) (hF : Fg R st.excepts.ownBlock w1 w2) {l : List (ee × ee)} {v : Value} (hv : Rows (fV R st.kinds) 133 2 cM w2 (S.excepts ++ l) v) :
    SRep R (w2.setCell ⟨R, 12, none⟩ v) { st with excepts := v } { S with excepts := S.excepts ++ l } := by
 have K0 : ∀ T Z, (∀ g, Z g → g ≠ R) → Kp T Z w2 (w2.setCell ⟨R, 12, none⟩ v) := fun T Z hz => Kp.setR hz
 have K1 : Kp (allT.filter (· ≠ 133)) (R < ·) w1 (w2.setCell ⟨R, 12, none⟩ v) := (Kp.of_fg hF hr h.excepts.own (by decide) (by decide)).trans (K0 _ _ fun g hg => Nat.ne_of_gt hg)
 have K2 : Kp (allT.filter (· ≠ 133)) (fV R st.kinds) w1 (w2.setCell ⟨R, 12, none⟩ v) := K1.sub (fun _ h => h) fun g hg => hg.1
 have Ki : Kp ei (fV R st.kinds) w1 (w2.setCell ⟨R, 12, none⟩ v) := ji K2 (by decide)
 have Kn : ∀ T, Kp T (fV R st.kinds) w2 (w2.setCell ⟨R, 12, none⟩ v) := fun T => K0 T _ fun g hg => Nat.ne_of_gt hg.1
 exact ⟨h.title, h.kinds.keep K1 (by decide), h.members.keep K2 (by decide) fun _ _ h => h, h.preds.keep K2 (by decide) fun _ _ h => h.keep Ki, h.classes.keep K2 (by decide) fun _ _ h => h.keep Ki, h.sources.keep K2 (by decide) fun _ _ h => h, h.rules.keep K2 (by decide) fun _ _ h => h.keep Ki, hv.keep (Kn [133]) (by decide) fun _ _ h => h, h.totals.keep K2 (by decide) fun _ _ h => h.keep Ki⟩
theorem SRep.put_totals (h : SRep R w1 st S) (hr : Rd R L N s st w1) (hF : Fg R st.totals.ownBlock w1 w2) {l : List gx} {v : Value} (hv : Rows (fV R st.kinds) 135 5 (cTotal (fV R st.kinds)) w2 (S.totals ++ l) v) :
    SRep R (w2.setCell ⟨R, 13, none⟩ v) { st with totals := v } { S with totals := S.totals ++ l } := by
 have K0 : ∀ T Z, (∀ g, Z g → g ≠ R) → Kp T Z w2 (w2.setCell ⟨R, 13, none⟩ v) := fun T Z hz => Kp.setR hz
 have K1 : Kp (allT.filter (· ≠ 135)) (R < ·) w1 (w2.setCell ⟨R, 13, none⟩ v) := (Kp.of_fg hF hr h.totals.own (by decide) (by decide)).trans (K0 _ _ fun g hg => Nat.ne_of_gt hg)
 have K2 : Kp (allT.filter (· ≠ 135)) (fV R st.kinds) w1 (w2.setCell ⟨R, 13, none⟩ v) := K1.sub (fun _ h => h) fun g hg => hg.1
 have Ki : Kp ei (fV R st.kinds) w1 (w2.setCell ⟨R, 13, none⟩ v) := ji K2 (by decide)
 have Kn : ∀ T, Kp T (fV R st.kinds) w2 (w2.setCell ⟨R, 13, none⟩ v) := fun T => K0 T _ fun g hg => Nat.ne_of_gt hg.1
 exact ⟨h.title, h.kinds.keep K1 (by decide), h.members.keep K2 (by decide) fun _ _ h => h, h.preds.keep K2 (by decide) fun _ _ h => h.keep Ki, h.classes.keep K2 (by decide) fun _ _ h => h.keep Ki, h.sources.keep K2 (by decide) fun _ _ h => h, h.rules.keep K2 (by decide) fun _ _ h => h.keep Ki, h.excepts.keep K2 (by decide) fun _ _ h => h, hv.keep (Kn [135]) (by decide) fun _ _ h => h.keep (Kn ei)⟩
theorem SRep.put_kinds (h : SRep R w1 st S) (hF : Fg R st.kinds.ownBlock w1 w2) {l : List ee} {v : Value} (hv : Strs (fun g => R < g ∧ (some g = st.kinds.ownBlock ∨ w1.heap.size ≤ g)) w2 (S.kinds ++ l) v) :
    SRep R (w2.setCell ⟨R, 6, none⟩ v) { st with kinds := v } { S with kinds := S.kinds ++ l } := by
 have K0 : ∀ T Z, (∀ g, Z g → g ≠ R) → Kp T Z w2 (w2.setCell ⟨R, 6, none⟩ v) := fun T Z hz => Kp.setR hz
 let Z : Nat → Prop := fun g => fV R st.kinds g ∧ g < w1.heap.size
 have K1 : ∀ T, Kp T Z w1 (w2.setCell ⟨R, 6, none⟩ v) := fun T => (Kp.of_fg2 hF fun g hg => ⟨Nat.ne_of_gt hg.1.1, hg.1.2⟩).trans (K0 T _ fun g hg => Nat.ne_of_gt hg.1.1)
 have hw : ∀ g, g < w1.heap.size → fV R st.kinds g → Z g := fun g h1 h2 => ⟨h2, h1⟩
 have Aa : ∀ g, v.ownBlock = some g → some g = st.kinds.ownBlock ∨ w1.heap.size ≤ g := fun g hg => by
  obtain ⟨xs, hx, _⟩ := hv
  exact (hx.2 g hg).2
 have hm : ∀ g, Z g → fV R v g := fun g hg => ⟨hg.1.1, fun e => by
  rcases Aa g e.symm with h1 | h1
  · exact hg.1.2 h1
  · have := hg.2; omega⟩
 exact ⟨h.title, (Strs.mono hv fun g hg => hg.1).keep (K0 [9] _ fun g hg => Nat.ne_of_gt hg) (by decide), ((h.members.within hw fun _ _ h => h).keep (K1 [124]) (by decide) fun _ _ h => h).mono hm fun _ _ h => h, ((h.preds.within hw fun _ _ h => h.within hw).keep (K1 [128]) (by decide) fun _ _ h => h.keep (K1 ei)).mono hm fun _ _ h => h.mono hm, ((h.classes.within hw fun _ _ h => h.within hw).keep (K1 [22]) (by decide) fun _ _ h => h.keep (K1 ei)).mono hm fun _ _ h => h.mono hm, ((h.sources.within hw fun _ _ h => h).keep (K1 [131]) (by decide) fun _ _ h => h).mono hm fun _ _ h => h, ((h.rules.within hw fun _ _ h => h.within hw).keep (K1 [49]) (by decide) fun _ _ h => h.keep (K1 ei)).mono hm fun _ _ h => h.mono hm, ((h.excepts.within hw fun _ _ h => h).keep (K1 [133]) (by decide) fun _ _ h => h).mono hm fun _ _ h => h, ((h.totals.within hw fun _ _ h => h.within hw).keep (K1 [135]) (by decide) fun _ _ h => h.keep (K1 ei)).mono hm fun _ _ h => h.mono hm⟩
end
end Go.Proofs.YtbpphlmakmeoaaaGreatDoor.Sy
