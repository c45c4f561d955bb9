/- Check. -/
import Derived.Test.YtbdlgglbcaoakaaGreatFirst8
import Derived.Test.YtbdlgglbcaoakaaGreatProg
import Derived.WalkKit
import Derived.WalkSpells
import Derived.WalkLawsBesides
import Derived.Laws.BitsAllLaws
import Derived.RowKit
namespace Go.Proofs.YtbdlgglbcaoakaaGreat
open Go.RowKit Go.Shelf Go.Maps Go.WideMaps
section
variable {S : StatM} {st : St9} {w w' : World}
set_option maxRecDepth 100000 in
set_option maxHeartbeats 3200000 in
theorem check_any (h : SR w.heap.size w S st) : Calls Tryz.prog 9 #[st.agg] w fun e w' => e = .returned (.tuple #[.int .i64 (checkM S).1, .int .i64 (checkM S).2]) ∧ Below w.heap.size w w' := by
  obtain ⟨tt, ht⟩ := h.title
  obtain ⟨a1, b1, f1, _, l1⟩ := h.kinds.form
  obtain ⟨a2, b2, f2, _, l2⟩ := h.members.form
  obtain ⟨a3, b3, f3, _, l3⟩ := h.preds.form
  obtain ⟨a4, b4, f4, _, l4⟩ := h.classes.form
  obtain ⟨a5, b5, f5, _, l5⟩ := h.sources.form
  obtain ⟨a6, b6, f6, _, l6⟩ := h.rules.form
  obtain ⟨a7, b7, f7, _, l7⟩ := h.excepts.form
  obtain ⟨a8, b8, f8, _, l8⟩ := h.totals.form
  obtain ⟨s0, s1, s2, s3, s4, s5, s6, s7, s8⟩ := st
  simp only at ht f1 f2 f3 f4 f5 f6 f7 f8
  subst ht f1 f2 f3 f4 f5 f6 f7 f8
  have hmf : ∀ (fn : Fn) (first cap : Array Value) (w : World), (Instr.makeFunc fn first cap).run Tryz.prog w = .ok (.func fn first cap) w := fun _ _ _ _ => rfl
  have hA : Below w.heap.size w (w.alloc (.cells #[.string tt, .slice a1 S.kinds.length b1, .slice a2 S.members.length b2, .slice a3 S.preds.length b3, .slice a4 S.classes.length b4, .slice a5 S.sources.length b5, .slice a6 S.rules.length b6, .slice a7 S.excepts.length b7, .slice a8 S.totals.length b8] 31)) := (Below.refl _ w).alloc (Nat.le_refl _) _
  have CF := hide (first_any (SR.mono (N' := (w.alloc (.cells #[.string tt, .slice a1 S.kinds.length b1, .slice a2 S.members.length b2, .slice a3 S.preds.length b3, .slice a4 S.classes.length b4, .slice a5 S.sources.length b5, .slice a6 S.rules.length b6, .slice a7 S.excepts.length b7, .slice a8 S.totals.length b8] 31)).heap.size) hA.size (h.keep fun g hg => hA.block g hg)))
  have HA := hide hA
  unfold St9.agg at *
  simp only at *
  generalize (checkM S).1 = c0 at *
  generalize (checkM S).2 = n0 at *
  clear h hA
  go_enter Tryz.func9, Tryz.ntmps9
  go_wp2_with fail
  refine CF.out.mono ?_
  rintro _ w1 ⟨rfl, hb⟩
  have HB := hide (HA.out.trans (hb.mono HA.out.size))
  have HB2 := hide (HB.out.trans (((Below.refl _ w1).alloc (Nat.le_refl _) (.cells #[.int .i64 c0, .int .i64 n0] 63)).mono HB.out.size))
  clear hb CF HA
  go_wp2_with fail
  go_region
  go_wp2_with fail
  simp [bodyPost, results, Tryz.results9, go_sem]
  exact HB2.out.trans ((Lk.of (w := w1.alloc (.cells #[.int .i64 c0, .int .i64 n0] 63))).below.mono HB2.out.size)
end
end Go.Proofs.YtbdlgglbcaoakaaGreat
/- No error is 0; a right statute's items. -/
namespace Go.Proofs.YtbdlgglbcaoakaaGreat
def Nz {α : Type} (x : Er α) : Prop := ∀ c, x = .error c → c ≠ 0
theorem Nz.ok {α : Type} (a : α) : Nz (.ok a : Er α) := fun _ h => by cases h
theorem Nz.want {b : Bool} {c : Int} (hc : c ≠ 0) : Nz (wantM b c) := fun c' h => by rw [want_err1 h]; exact hc
theorem Nz.bind {α β : Type} {x : Er α} {f : α → Er β} (h : Nz x) (k : ∀ a, Nz (f a)) : Nz (x >>= f) := by
  intro c hc
  cases x with
  | ok a => exact k a c hc
  | error d => injection hc with e; subst e; exact h _ rfl
theorem Nz.ite {α : Type} {p : Prop} [Decidable p] {x y : Er α} (h : Nz x) (k : Nz y) : Nz (if p then x else y) := by split <;> assumption
theorem Nz.err {α : Type} {c : Int} (h : c ≠ 0) : Nz (.error c : Er α) := fun _ e => by injection e with e; subst e; exact h
theorem nz_find (l : List Bytes) (s : Bytes) {c : Int} (hc : c ≠ 0) : Nz (findM l s c) := by unfold findM; exact Nz.bind (Nz.want hc) fun _ => Nz.ok _
theorem nz_called (l : List Bytes) (s : Bytes) (n : Nat) : Nz (calledM l s n) := by unfold calledM; (repeat (first | exact Nz.ok _ | exact Nz.want (by decide) | exact Nz.err (by decide) | (refine Nz.bind ?_ fun _ => ?_) | (refine Nz.ite ?_ ?_) | assumption))
theorem nz_all {α : Type} {f : Nat → α → Er Unit} (h : ∀ k a, Nz (f k a)) : ∀ (l : List α) (k : Nat), Nz (allM f k l)
  | [], _ => by unfold allM; exact Nz.ok _
  | a :: r, k => by unfold allM; exact Nz.bind (h k a) fun _ => nz_all h r (k + 1)
theorem nz_member (C : Ctx) (n : Nat) (m : Bytes × Bytes) : Nz (memberM C n m) := by unfold memberM; (repeat (first | exact Nz.ok _ | exact Nz.want (by decide) | exact Nz.err (by decide) | exact nz_find _ _ (by decide) | exact nz_called _ _ _ | (refine Nz.bind ?_ fun _ => ?_) | (refine Nz.ite ?_ ?_) | assumption))
theorem nz_pred (C : Ctx) (n : Nat) (p : PredM) : Nz (predM C n p) := by
  unfold predM
  refine Nz.bind (nz_called _ _ _) fun _ => Nz.bind (Nz.want (by decide)) fun _ => Nz.bind (Nz.want (by decide)) fun _ => Nz.bind (nz_all (fun _ _ => ?_) _ _) fun _ => Nz.bind (Nz.want (by decide)) fun _ => nz_all (fun _ _ => Nz.want (by decide)) _ _
  (repeat (first | exact Nz.ok _ | exact Nz.want (by decide) | exact Nz.err (by decide) | exact nz_find _ _ (by decide) | exact nz_called _ _ _ | (refine Nz.bind ?_ fun _ => ?_) | (refine Nz.ite ?_ ?_) | assumption))
theorem nz_findPred (C : Ctx) (s : Bytes) : Nz (findPredM C s) := by unfold findPredM; (repeat (first | exact Nz.ok _ | exact Nz.want (by decide) | exact Nz.err (by decide) | exact nz_find _ _ (by decide) | exact nz_called _ _ _ | (refine Nz.bind ?_ fun _ => ?_) | (refine Nz.ite ?_ ?_) | assumption))
theorem nz_classNames (C : Ctx) (f : Bytes) : ∀ (l seen : List Bytes), Nz (classNamesM C f seen l)
  | [], _ => by unfold classNamesM; exact Nz.ok _
  | s :: r, seen => by
    unfold classNamesM
    exact Nz.bind (nz_findPred _ _) fun _ => Nz.bind (Nz.want (by decide)) fun _ => Nz.bind (nz_findPred _ _) fun _ => Nz.bind (Nz.want (by decide)) fun _ => Nz.bind (Nz.want (by decide)) fun _ => nz_classNames C f r _
theorem nz_class (C : Ctx) (seen l : List Bytes) : Nz (classM C seen l) := by unfold classM; exact Nz.bind (Nz.want (by decide)) fun _ => nz_classNames _ _ _ _
theorem nz_source (l : List Bytes) (n : Nat) (x : Bytes × Int) : Nz (sourceM l n x) := by unfold sourceM; (repeat (first | exact Nz.ok _ | exact Nz.want (by decide) | exact Nz.err (by decide) | exact nz_find _ _ (by decide) | exact nz_called _ _ _ | (refine Nz.bind ?_ fun _ => ?_) | (refine Nz.ite ?_ ?_) | assumption))
theorem nz_bindM (v : Scope) (s : Bytes) (k : Int) : Nz (bindM v s k) := by unfold bindM; (repeat (first | exact Nz.ok _ | exact Nz.want (by decide) | exact Nz.err (by decide) | exact nz_find _ _ (by decide) | exact nz_called _ _ _ | (refine Nz.bind ?_ fun _ => ?_) | (refine Nz.ite ?_ ?_) | assumption))
theorem nz_findMember (C : Ctx) (s : Bytes) : Nz (findMemberM C s) := by unfold findMemberM; (repeat (first | exact Nz.ok _ | exact Nz.want (by decide) | exact Nz.err (by decide) | exact nz_find _ _ (by decide) | exact nz_called _ _ _ | (refine Nz.bind ?_ fun _ => ?_) | (refine Nz.ite ?_ ?_) | assumption))
theorem nz_args (C : Ctx) : ∀ (l q : List Bytes) (v : Scope) (ms : List Nat), Nz (argsM C v ms l q)
  | [], _, _, _ => by unfold argsM; exact Nz.ok _
  | _ :: _, [], _, _ => by unfold argsM; exact Nz.ok _
  | s :: r, k :: q, v, ms => by
    unfold argsM
    exact Nz.ite (Nz.bind (nz_bindM _ _ _) fun _ => nz_args C r q _ _) (Nz.bind (nz_findMember _ _) fun _ => Nz.bind (Nz.want (by decide)) fun _ => nz_args C r q _ _)
theorem nz_arguments (C : Ctx) (v : Scope) (p : PredM) (l : List Bytes) : Nz (argumentsM C v p l) := by unfold argumentsM; exact Nz.bind (Nz.want (by decide)) fun _ => nz_args _ _ _ _ _
theorem nz_literal (C : Ctx) (v : Scope) (l : LitM) : Nz (literalM C v l) := by
  unfold literalM
  exact Nz.bind (nz_findPred _ _) fun _ => Nz.bind (Nz.want (by decide)) fun _ => Nz.bind (nz_arguments _ _ _ _) fun _ => Nz.bind (Nz.want (by decide)) fun _ => Nz.bind (Nz.want (by decide)) fun _ => Nz.bind (Nz.want (by decide)) fun _ => Nz.ok _
theorem nz_term (C : Ctx) (v : Scope) (t : TermM) : Nz (termM C v t) := by
  unfold termM
  exact Nz.ite (Nz.bind (Nz.want (by decide)) fun _ => Nz.bind (Nz.want (by decide)) fun _ => Nz.ok _) (Nz.bind (nz_findPred _ _) fun _ => Nz.bind (Nz.want (by decide)) fun _ => Nz.bind (Nz.want (by decide)) fun _ => Nz.bind (nz_arguments _ _ _ _) fun _ => Nz.ok _)
theorem nz_terms (C : Ctx) : ∀ (l : List TermM) (v : Scope), Nz (termsM C v l)
  | [], _ => by unfold termsM; exact Nz.ok _
  | t :: r, v => by unfold termsM; exact Nz.bind (nz_term _ _ _) fun _ => nz_terms C r _
theorem nz_guard (C : Ctx) (v : Scope) (g : GuardM) : Nz (guardM C v g) := by unfold guardM; exact Nz.bind (Nz.want (by decide)) fun _ => Nz.bind (Nz.want (by decide)) fun _ => Nz.bind (nz_terms _ _ _) fun _ => nz_terms _ _ _
theorem nz_unlike (C : Ctx) (v : Scope) (s : Bytes) : Nz (unlikeM C v s) := by unfold unlikeM; exact Nz.ite (Nz.ok _) (Nz.bind (nz_findMember _ _) fun _ => Nz.ok _)
theorem nz_prem (C : Ctx) (v : Scope) (p : PremM) : Nz (premM C v p) := by
  unfold premM
  exact Nz.ite (Nz.bind (nz_literal _ _ _) fun _ => Nz.ok _) (Nz.ite (nz_guard _ _ _) (Nz.ite (Nz.bind (nz_unlike _ _ _) fun _ => nz_unlike _ _ _) (Nz.err (by decide))))
theorem nz_body (C : Ctx) : ∀ (l : List PremM) (v : Scope), Nz (bodyM C v l)
  | [], _ => by unfold bodyM; exact Nz.ok _
  | p :: r, v => by unfold bodyM; exact Nz.bind (nz_prem _ _ _) fun _ => nz_body C r _
theorem nz_parts (C : Ctx) (t : RuleM) : Nz (partsM C t) := by unfold partsM; exact Nz.bind (nz_body _ _ _) fun _ => Nz.bind (nz_literal _ _ _) fun _ => Nz.ok _
theorem nz_rule (C : Ctx) (srcs names : List Bytes) (n : Nat) (t : RuleM) : Nz (ruleM C srcs names n t) := by
  unfold ruleM
  exact Nz.bind (nz_called _ _ _) fun _ => Nz.bind (nz_find _ _ (by decide)) fun _ => Nz.bind (Nz.want (by decide)) fun _ => Nz.bind (Nz.want (by decide)) fun _ => Nz.bind (Nz.want (by decide)) fun _ => Nz.bind (Nz.want (by decide)) fun _ => Nz.bind (nz_parts _ _) fun _ => Nz.want (by decide)
theorem nz_except (names keys : List Bytes) (n : Nat) (e : Bytes × Bytes) : Nz (exceptM names keys n e) := by unfold exceptM; (repeat (first | exact Nz.ok _ | exact Nz.want (by decide) | exact Nz.err (by decide) | exact nz_find _ _ (by decide) | exact nz_called _ _ _ | (refine Nz.bind ?_ fun _ => ?_) | (refine Nz.ite ?_ ?_) | assumption))
theorem nz_total (C : Ctx) (names : List Bytes) (n : Nat) (t : TotalM) : Nz (totalM C names n t) := by
  unfold totalM
  exact Nz.bind (nz_called _ _ _) fun _ => Nz.bind (nz_find _ _ (by decide)) fun _ => Nz.bind (Nz.want (by decide)) fun _ => Nz.bind (nz_all (fun _ _ => Nz.bind (nz_findPred _ _) fun _ => Nz.bind (Nz.want (by decide)) fun _ => Nz.bind (Nz.want (by decide)) fun _ => Nz.want (by decide)) _ _) fun _ => Nz.bind (Nz.want (by decide)) fun _ => Nz.want (by decide)
theorem nz_mapIdx {α : Type} {f : Nat → α → Er Unit} (h : ∀ n a, Nz (f n a)) (l : List α) : ∀ x ∈ l.mapIdx f, Nz x := by
  intro x hx
  obtain ⟨i, hi, rfl⟩ := List.mem_mapIdx.1 hx
  exact h _ _
theorem nz_items (S : StatM) : ∀ x ∈ S.items, Nz x := by
  intro x hx
  unfold StatM.items at hx
  simp only [List.mem_append] at hx
  rcases hx with ((((((hx | hx) | hx) | hx) | hx) | hx) | hx) | hx
  · exact nz_mapIdx (fun _ _ => nz_called _ _ _) _ x hx
  · exact nz_mapIdx (fun _ _ => nz_member _ _ _) _ x hx
  · exact nz_mapIdx (fun _ _ => nz_pred _ _ _) _ x hx
  · exact nz_mapIdx (fun _ _ => nz_class _ _ _) _ x hx
  · exact nz_mapIdx (fun _ _ => nz_source _ _ _) _ x hx
  · exact nz_mapIdx (fun _ _ => nz_rule _ _ _ _ _) _ x hx
  · exact nz_mapIdx (fun _ _ => nz_except _ _ _ _) _ x hx
  · exact nz_mapIdx (fun _ _ => nz_total _ _ _ _) _ x hx
theorem firstE_all {l : List (Er Unit)} (hz : ∀ x ∈ l, Nz x) : ∀ k, (firstE k l).1 = 0 → AllOk l := by
  induction l with
  | nil => intro k _; exact AllOk.nil
  | cons x r ih =>
    intro k h
    cases x with
    | error c => exact absurd h (hz _ (List.mem_cons_self ..) c rfl)
    | ok u =>
      have := ih (fun y hy => hz y (List.mem_cons_of_mem _ hy)) (k + 1) h
      intro y hy
      rcases List.mem_cons.1 hy with rfl | hy
      · rfl
      · exact this y hy
/-- When Check takes a statute. -/
theorem check_ok {S : StatM} : (checkM S).1 = 0 ↔ S.fitsB = true ∧ AllOk S.items := by
  unfold checkM
  cases h : S.fitsB with
  | false => simp
  | true =>
    simp only [if_true, true_and]
    constructor
    · exact firstE_all (nz_items S) 0
    · intro ha; rw [firstE_ok ha]
theorem check_len {S : StatM} (h : (checkM S).1 = 0) : checkM S = (0, S.items.length) := by
  obtain ⟨h1, h2⟩ := check_ok.1 h
  unfold checkM
  rw [h1, if_pos rfl, firstE_ok h2, Nat.zero_add]
end Go.Proofs.YtbdlgglbcaoakaaGreat
/- What the walks say of a slice of bytes: where its cells lie, what they hold; small laws about that. -/
namespace Go.Proofs.YtbdlgglbcaoakaaGreat.Pr
open Go.RowKit

theorem hide {p : Prop} (h : p) : Hid p := h

/-- The cells from an address on hold these bytes. -/
structure Row (w : World) (a : Option Addr) (zs : List Int) : Prop where
  cells : zs ≠ [] → ∃ b off, a = some ⟨b, off, none⟩ ∧ ∀ i, i < zs.length → w.cell? ⟨b, off + i, none⟩ = some (.int .u8 (zs.getD i 0))
  byte : ∀ i : Nat, 0 ≤ zs[i]?.getD 0 ∧ zs[i]?.getD 0 ≤ 255

theorem infoB : (Tryz.prog.info? 5).map (fun i => (i.zero, i.size, i.bytes)) = some (some (.int .u8 0), 1, 1) := by kernel_rfl

theorem Row.lt {w : World} {b off : Nat} {zs : List Int} (h : ∀ i, i < zs.length → w.cell? ⟨b, off + i, none⟩ = some (.int .u8 (zs.getD i 0))) (hz : zs ≠ []) : b < w.heap.size := by
  have h0 := h 0 (by cases zs with | nil => exact absurd rfl hz | cons _ _ => simp)
  exact World.block_lt_of_cell? w ⟨b, off + 0, none⟩ h0

theorem Row.below {B : Nat} {w w' : World} {a : Option Addr} {zs : List Int} (h : Row w a zs) (hb : Below B w w') (hB : w.heap.size ≤ B) : Row w' a zs := by
  refine ⟨fun hz => ?_, h.byte⟩
  obtain ⟨b, off, rfl, hc⟩ := h.cells hz
  have hlt := Row.lt hc hz
  exact ⟨b, off, rfl, fun i hi => (hb.cell (p := ⟨b, off + i, none⟩) (by simp; omega)).trans (hc i hi)⟩

/-- What the call itself owns: its shape, and where its cells lie. -/
theorem own_row {w : World} {base : Nat} {v : Value} {n : Nat} {zs : List Int} (h : w.ownsRow base 5 1 v n (zs.map (Value.int .u8))) (hb : ∀ i : Nat, 0 ≤ zs[i]?.getD 0 ∧ zs[i]?.getD 0 ≤ 255) :
    ∃ a cap, v = .slice a n cap ∧ zs.length = n ∧ n ≤ cap ∧ cap ≤ maxLen ∧ Row w a zs := by
  have hl : zs.length = n := by simpa using h.1
  rcases h.2 with ⟨rfl, rfl⟩ | ⟨g, cap, cur, rfl, hbg, hg, hnc, hcm, hcs, htake⟩
  · refine ⟨none, 0, rfl, hl, Nat.le_refl _, Nat.zero_le _, fun hz => ?_, hb⟩
    exact absurd (List.eq_nil_of_length_eq_zero hl) hz
  · refine ⟨some ⟨g, 0, none⟩, cap, rfl, hl, hnc, hcm, fun _ => ⟨g, 0, rfl, fun i hi => ?_⟩, hb⟩
    have := h.cellAt i (by omega)
    simp only [Nat.zero_add]
    rw [this]
    simp [List.getD, hi]

theorem own_shape {w : World} {base : Nat} {v : Value} {n : Nat} {xs : List Value} (h : w.ownsRow base 5 1 v n xs) : ∃ a cap, v = .slice a n cap := by
  rcases h.2 with ⟨rfl, rfl⟩ | ⟨g, cap, cur, rfl, _⟩
  · exact ⟨none, 0, rfl⟩
  · exact ⟨_, _, rfl⟩

/-- What is owned stays owned where nothing below is turned. -/
theorem own_below {w w' : World} {base B : Nat} {v : Value} {n : Nat} {xs : List Value} (h : w.ownsRow base 5 1 v n xs) (hb : Below B w w') (hB : w.heap.size ≤ B) : w'.ownsRow base 5 1 v n xs := by
  refine ⟨h.1, ?_⟩
  rcases h.2 with hn | ⟨g, cap, cur, rfl, hbg, hgg, rest⟩
  · exact .inl hn
  · refine .inr ⟨g, cap, cur, rfl, hbg, ?_, rest⟩
    rw [hb.block g (by have := (Array.getElem?_eq_some_iff.1 hgg).1; omega)]
    exact hgg

/-- The cells that a slice of its own has, as an append asks for them. -/
theorem own_news {w : World} {base : Nat} {a : Option Addr} {n cap : Nat} {zs : List Int} (h : w.ownsRow base 5 1 (.slice a n cap) n (zs.map (Value.int .u8))) (hn : n ≠ 0) :
    ∃ g, a = some ⟨g, 0, none⟩ ∧ base ≤ g ∧ g < w.heap.size ∧ ∀ j u, (zs.map (Value.int .u8))[j]? = some u → w.cell? ((⟨g, 0, none⟩ : Addr).add j) = some u := by
  rcases h.2 with ⟨_, h0⟩ | ⟨g, cap', cur, e, hbg, hgg, _⟩
  · exact absurd h0 hn
  · simp only [Value.slice.injEq, true_and] at e
    obtain ⟨rfl, rfl⟩ := e
    exact ⟨g, rfl, hbg, (Array.getElem?_eq_some_iff.1 hgg).1, h.cells (by simp [Value.ownBlock])⟩

theorem own_row' {w : World} {base : Nat} {a : Option Addr} {n cap : Nat} {zs : List Int} (h : w.ownsRow base 5 1 (.slice a n cap) n (zs.map (Value.int .u8))) (hb : ∀ i : Nat, 0 ≤ zs[i]?.getD 0 ∧ zs[i]?.getD 0 ≤ 255) :
    zs.length = n ∧ n ≤ cap ∧ cap ≤ maxLen ∧ (a = none → cap = 0) ∧ Row w a zs := by
  obtain ⟨a', cap', e, h1, h2, h3, h4⟩ := own_row h hb
  simp only [Value.slice.injEq, true_and] at e
  obtain ⟨rfl, rfl⟩ := e
  refine ⟨h1, h2, h3, fun ha => ?_, h4⟩
  rcases h.2 with ⟨e, _⟩ | ⟨g, cap', cur, e, _⟩
  · simp at e; omega
  · simp [ha] at e

theorem bytes_getD {zs : List Int} (h : ∀ z ∈ zs, 0 ≤ z ∧ z ≤ 255) (i : Nat) : 0 ≤ zs[i]?.getD 0 ∧ zs[i]?.getD 0 ≤ 255 := by
  by_cases hi : i < zs.length
  · simpa [hi] using h zs[i] (List.getElem_mem hi)
  · simp [hi]

theorem one_cell (c : Int) : ∀ u ∈ [Value.int .u8 c], u.oneCell' = true := by intro u hu; simp at hu; subst hu; rfl

theorem take_succ_getD (zs : List Int) (k : Nat) (h : k < zs.length) : zs.take (k + 1) = zs.take k ++ [zs[k]?.getD 0] := by
  rw [List.take_succ_eq_append_getElem h]; simp [h]

/-- One byte of a row, by a name of its own. -/
theorem Row.get {B : Nat} {w wr : World} {a : Option Addr} {zs : List Int} {len k : Nat} (h : Row w a zs) (hl : zs.length = len) (hb : Below B w wr) (hk : k < len) (hB : w.heap.size ≤ B := by omega) :
    ∃ b off c, a = some ⟨b, off, none⟩ ∧ wr.cell? ⟨b, off + k, none⟩ = some (.int .u8 c) ∧ Hid (zs.take (k + 1) = zs.take k ++ [c]) := by
  have hne : zs ≠ [] := by intro e; subst e; simp at hl; omega
  obtain ⟨b, off, rfl, hc⟩ := h.cells hne
  have hlt := Row.lt hc hne
  refine ⟨b, off, zs[k]?.getD 0, rfl, (hb.cell (p := ⟨b, off + k, none⟩) (by simp; omega)).trans ?_, take_succ_getD zs k (by omega)⟩
  simpa using hc k (by omega)

theorem Row.get' {B : Nat} {w wr : World} {a : Option Addr} {zs : List Int} {len k : Nat} (h : Row w a zs) (hl : zs.length = len) (hb : Below B w wr) (hk : k < len) (hB : w.heap.size ≤ B := by omega) :
    ∃ b off c, a = some ⟨b, off, none⟩ ∧ wr.cell? ⟨b, off + k, none⟩ = some (.int .u8 c) ∧ 0 ≤ c ∧ c ≤ 255 ∧ Hid (zs.take (k + 1) = zs.take k ++ [c]) := by
  have hne : zs ≠ [] := by intro e; subst e; simp at hl; omega
  obtain ⟨b, off, rfl, hc⟩ := h.cells hne
  have hlt := Row.lt hc hne
  refine ⟨b, off, zs[k]?.getD 0, rfl, (hb.cell (p := ⟨b, off + k, none⟩) (by simp; omega)).trans ?_, (h.byte k).1, (h.byte k).2, take_succ_getD zs k (by omega)⟩
  simpa using hc k (by omega)

end Go.Proofs.YtbdlgglbcaoakaaGreat.Pr
/- The plain mathematics of numbers as bytes: seven bits a byte, how such bytes are read, how they are laid. No Go in sight. -/
namespace Go.Proofs.YtbdlgglbcaoakaaGreat.Pr
open Go.RowKit

theorem and127 (c : Int) (h0 : 0 ≤ c) (h1 : c ≤ 255) : bits .and .u8 c 127 = c % 128 := by
  rw [u8_and c 127 h0 (by omega) (by omega) (by omega)]
  have : (127 : Int).toNat = 127 := rfl
  rw [this, nat_mask7]
  omega

theorem or128 (c : Int) (h0 : 0 ≤ c) (h1 : c ≤ 255) : bits .or .u8 c 128 = c % 128 + 128 := by
  obtain ⟨n, rfl⟩ := Int.eq_ofNat_of_zero_le h0
  have h : ∀ m, m < 256 → m ||| 128 = m % 128 + 128 := by decide +kernel
  rw [u8_or _ 128 h0 (by omega) (by omega) (by omega)]
  have : (128 : Int).toNat = 128 := rfl
  rw [this, Int.toNat_natCast, h n (by omega)]
  omega

theorem acc_step (acc d : Int) (k : Nat) (h0 : 0 ≤ acc) (h1 : acc < 2 ^ (7 * k)) (hd0 : 0 ≤ d) (hd1 : d ≤ 127) (hk : k < 9 ∨ (k = 9 ∧ d ≤ 1)) :
    bits .or .u64 acc (IntKind.u64.wrap (IntKind.u64.wrap d * 2 ^ (7 * k))) = acc + d * 2 ^ (7 * k) := by
  obtain ⟨a, rfl⟩ := Int.eq_ofNat_of_zero_le h0
  obtain ⟨x, rfl⟩ := Int.eq_ofNat_of_zero_le hd0
  have hx : x ≤ 127 := by omega
  have e1 : IntKind.u64.wrap (x : Int) = x := by rw [IntKind.wrap_u64]; omega
  have hlt : x * 2 ^ (7 * k) < 18446744073709551616 := by
    rcases hk with h | ⟨rfl, h⟩
    · have : 2 ^ (7 * k) ≤ 2 ^ 56 := Nat.pow_le_pow_right (by decide) (by omega)
      have : x * 2 ^ (7 * k) ≤ 127 * 2 ^ 56 := Nat.mul_le_mul hx this
      omega
    · have : x ≤ 1 := by omega
      have : x * 2 ^ (7 * 9) ≤ 1 * 2 ^ 63 := Nat.mul_le_mul this (by decide)
      omega
  have e2 : ((x : Int) * 2 ^ (7 * k)) = ((x * 2 ^ (7 * k) : Nat) : Int) := by simp
  have e3 : IntKind.u64.wrap ((x * 2 ^ (7 * k) : Nat) : Int) = ((x * 2 ^ (7 * k) : Nat) : Int) := by rw [IntKind.wrap_u64]; omega
  have ha : a < 2 ^ (7 * k) := by
    have : ((a : Nat) : Int) < ((2 ^ (7 * k) : Nat) : Int) := by simpa using h1
    omega
  have ha2 : a < 18446744073709551616 := by
    have : 2 ^ (7 * k) ≤ 2 ^ 63 := Nat.pow_le_pow_right (by decide) (by omega)
    omega
  rw [e1, e2, e3, u64_or_nat a _ ha2 hlt, Nat.or_comm, nat_join (7 * k) _ a (by simp) ha]
  omega

/-- Reading from a place on: k bytes are read, they make acc. -/
def rd (len p : Int) : Nat → Int → List Int → Int × Int × Int
  | _, _, [] => (0, len, 8)
  | k, acc, c :: r =>
    if k = 9 ∧ 1 < c then (0, p, 11)
    else if 128 ≤ c then rd len p (k + 1) (acc + c % 128 * 2 ^ (7 * k)) r
    else if c = 0 ∧ 0 < k then (0, p, 11)
    else (acc + c % 128 * 2 ^ (7 * k), p + k + 1, 0)

def readU (zs : List Int) (p : Int) : Int × Int × Int :=
  if p < 0 ∨ (zs.length : Int) < p then (0, p, 1) else rd zs.length p 0 0 (zs.drop p.toNat)

theorem acc_next (acc d : Int) (k : Nat) (h1 : acc < 2 ^ (7 * k)) (hd1 : d ≤ 127) : acc + d * 2 ^ (7 * k) < 2 ^ (7 * (k + 1)) := by
  have e : (2 : Int) ^ (7 * (k + 1)) = 128 * 2 ^ (7 * k) := by rw [Nat.mul_add, Int.pow_add]; omega
  have hp : (0 : Int) < 2 ^ (7 * k) := Int.pow_pos (by decide)
  have : d * 2 ^ (7 * k) ≤ 127 * 2 ^ (7 * k) := Int.mul_le_mul_of_nonneg_right hd1 (by omega)
  omega

theorem acc_pos (acc d : Int) (k : Nat) (h0 : 0 ≤ acc) (hd0 : 0 ≤ d) : 0 ≤ acc + d * 2 ^ (7 * k) := by
  have hp : (0 : Int) < 2 ^ (7 * k) := Int.pow_pos (by decide)
  have : 0 ≤ d * 2 ^ (7 * k) := Int.mul_nonneg hd0 (by omega)
  omega

theorem drop_cons (zs : List Int) (i : Nat) (h : i < zs.length) : zs.drop i = zs.getD i 0 :: zs.drop (i + 1) := by
  rw [List.drop_eq_getElem_cons h]; simp [List.getD, h]

end Go.Proofs.YtbdlgglbcaoakaaGreat.Pr
