/- Check. -/
import Derived.Test.YtbdlgglbcaoakaaGreatFirst8
namespace Go.Proofs.YtbdlgglbcaoakaaGreat
open Go.RowKit Go.Shelf Go.Maps Go.WideMaps
section
variable {S : StatM} {st : St9} {w w' : World}
set_option maxRecDepth 100000 in
set_option maxHeartbeats 3200000 in
theorem check_any (h : SR w.heap.size w S st) : Calls Tryz.prog 9 #[st.agg] w fun e w' => e = .returned (.tuple #[.int .i64 (checkM S).1, .int .i64 (checkM S).2]) ∧ Below w.heap.size w w' := by
  obtain ⟨tt, ht⟩ := h.title
  obtain ⟨a1, b1, f1, _, l1⟩ := h.kinds.form
  obtain ⟨a2, b2, f2, _, l2⟩ := h.members.form
  obtain ⟨a3, b3, f3, _, l3⟩ := h.preds.form
  obtain ⟨a4, b4, f4, _, l4⟩ := h.classes.form
  obtain ⟨a5, b5, f5, _, l5⟩ := h.sources.form
  obtain ⟨a6, b6, f6, _, l6⟩ := h.rules.form
  obtain ⟨a7, b7, f7, _, l7⟩ := h.excepts.form
  obtain ⟨a8, b8, f8, _, l8⟩ := h.totals.form
  obtain ⟨s0, s1, s2, s3, s4, s5, s6, s7, s8⟩ := st
  simp only at ht f1 f2 f3 f4 f5 f6 f7 f8
  subst ht f1 f2 f3 f4 f5 f6 f7 f8
  have hmf : ∀ (fn : Fn) (first cap : Array Value) (w : World), (Instr.makeFunc fn first cap).run Tryz.prog w = .ok (.func fn first cap) w := fun _ _ _ _ => rfl
  have hA : Below w.heap.size w (w.alloc (.cells #[.string tt, .slice a1 S.kinds.length b1, .slice a2 S.members.length b2, .slice a3 S.preds.length b3, .slice a4 S.classes.length b4, .slice a5 S.sources.length b5, .slice a6 S.rules.length b6, .slice a7 S.excepts.length b7, .slice a8 S.totals.length b8] 31)) := (Below.refl _ w).alloc (Nat.le_refl _) _
  have CF := hide (first_any (SR.mono (N' := (w.alloc (.cells #[.string tt, .slice a1 S.kinds.length b1, .slice a2 S.members.length b2, .slice a3 S.preds.length b3, .slice a4 S.classes.length b4, .slice a5 S.sources.length b5, .slice a6 S.rules.length b6, .slice a7 S.excepts.length b7, .slice a8 S.totals.length b8] 31)).heap.size) hA.size (h.keep fun g hg => hA.block g hg)))
  have HA := hide hA
  unfold St9.agg at *
  simp only at *
  generalize (checkM S).1 = c0 at *
  generalize (checkM S).2 = n0 at *
  clear h hA
  go_enter Tryz.func9, Tryz.ntmps9
  go_wp2_with fail
  refine CF.out.mono ?_
  rintro _ w1 ⟨rfl, hb⟩
  have HB := hide (HA.out.trans (hb.mono HA.out.size))
  have HB2 := hide (HB.out.trans (((Below.refl _ w1).alloc (Nat.le_refl _) (.cells #[.int .i64 c0, .int .i64 n0] 63)).mono HB.out.size))
  clear hb CF HA
  go_wp2_with fail
  go_region
  go_wp2_with fail
  simp [bodyPost, results, Tryz.results9, go_sem]
  exact HB2.out.trans ((Lk.of (w := w1.alloc (.cells #[.int .i64 c0, .int .i64 n0] 63))).below.mono HB2.out.size)
end
end Go.Proofs.YtbdlgglbcaoakaaGreat
/- No error is 0; a right statute's items. -/
namespace Go.Proofs.YtbdlgglbcaoakaaGreat
def Nz {α : Type} (x : Er α) : Prop := ∀ c, x = .error c → c ≠ 0
theorem Nz.ok {α : Type} (a : α) : Nz (.ok a : Er α) := fun _ h => by cases h
theorem Nz.want {b : Bool} {c : Int} (hc : c ≠ 0) : Nz (wantM b c) := fun c' h => by rw [want_err1 h]; exact hc
theorem Nz.bind {α β : Type} {x : Er α} {f : α → Er β} (h : Nz x) (k : ∀ a, Nz (f a)) : Nz (x >>= f) := by
  intro c hc
  cases x with
  | ok a => exact k a c hc
  | error d => injection hc with e; subst e; exact h _ rfl
theorem Nz.ite {α : Type} {p : Prop} [Decidable p] {x y : Er α} (h : Nz x) (k : Nz y) : Nz (if p then x else y) := by split <;> assumption
theorem Nz.err {α : Type} {c : Int} (h : c ≠ 0) : Nz (.error c : Er α) := fun _ e => by injection e with e; subst e; exact h
theorem nz_find (l : List Bytes) (s : Bytes) {c : Int} (hc : c ≠ 0) : Nz (findM l s c) := by unfold findM; exact Nz.bind (Nz.want hc) fun _ => Nz.ok _
theorem nz_called (l : List Bytes) (s : Bytes) (n : Nat) : Nz (calledM l s n) := by unfold calledM; (repeat (first | exact Nz.ok _ | exact Nz.want (by decide) | exact Nz.err (by decide) | (refine Nz.bind ?_ fun _ => ?_) | (refine Nz.ite ?_ ?_) | assumption))
theorem nz_all {α : Type} {f : Nat → α → Er Unit} (h : ∀ k a, Nz (f k a)) : ∀ (l : List α) (k : Nat), Nz (allM f k l)
  | [], _ => by unfold allM; exact Nz.ok _
  | a :: r, k => by unfold allM; exact Nz.bind (h k a) fun _ => nz_all h r (k + 1)
theorem nz_member (C : Ctx) (n : Nat) (m : Bytes × Bytes) : Nz (memberM C n m) := by unfold memberM; (repeat (first | exact Nz.ok _ | exact Nz.want (by decide) | exact Nz.err (by decide) | exact nz_find _ _ (by decide) | exact nz_called _ _ _ | (refine Nz.bind ?_ fun _ => ?_) | (refine Nz.ite ?_ ?_) | assumption))
theorem nz_pred (C : Ctx) (n : Nat) (p : PredM) : Nz (predM C n p) := by
  unfold predM
  refine Nz.bind (nz_called _ _ _) fun _ => Nz.bind (Nz.want (by decide)) fun _ => Nz.bind (Nz.want (by decide)) fun _ => Nz.bind (nz_all (fun _ _ => ?_) _ _) fun _ => Nz.bind (Nz.want (by decide)) fun _ => nz_all (fun _ _ => Nz.want (by decide)) _ _
  (repeat (first | exact Nz.ok _ | exact Nz.want (by decide) | exact Nz.err (by decide) | exact nz_find _ _ (by decide) | exact nz_called _ _ _ | (refine Nz.bind ?_ fun _ => ?_) | (refine Nz.ite ?_ ?_) | assumption))
theorem nz_findPred (C : Ctx) (s : Bytes) : Nz (findPredM C s) := by unfold findPredM; (repeat (first | exact Nz.ok _ | exact Nz.want (by decide) | exact Nz.err (by decide) | exact nz_find _ _ (by decide) | exact nz_called _ _ _ | (refine Nz.bind ?_ fun _ => ?_) | (refine Nz.ite ?_ ?_) | assumption))
theorem nz_classNames (C : Ctx) (f : Bytes) : ∀ (l seen : List Bytes), Nz (classNamesM C f seen l)
  | [], _ => by unfold classNamesM; exact Nz.ok _
  | s :: r, seen => by
    unfold classNamesM
    exact Nz.bind (nz_findPred _ _) fun _ => Nz.bind (Nz.want (by decide)) fun _ => Nz.bind (nz_findPred _ _) fun _ => Nz.bind (Nz.want (by decide)) fun _ => Nz.bind (Nz.want (by decide)) fun _ => nz_classNames C f r _
theorem nz_class (C : Ctx) (seen l : List Bytes) : Nz (classM C seen l) := by unfold classM; exact Nz.bind (Nz.want (by decide)) fun _ => nz_classNames _ _ _ _
theorem nz_source (l : List Bytes) (n : Nat) (x : Bytes × Int) : Nz (sourceM l n x) := by unfold sourceM; (repeat (first | exact Nz.ok _ | exact Nz.want (by decide) | exact Nz.err (by decide) | exact nz_find _ _ (by decide) | exact nz_called _ _ _ | (refine Nz.bind ?_ fun _ => ?_) | (refine Nz.ite ?_ ?_) | assumption))
theorem nz_bindM (v : Scope) (s : Bytes) (k : Int) : Nz (bindM v s k) := by unfold bindM; (repeat (first | exact Nz.ok _ | exact Nz.want (by decide) | exact Nz.err (by decide) | exact nz_find _ _ (by decide) | exact nz_called _ _ _ | (refine Nz.bind ?_ fun _ => ?_) | (refine Nz.ite ?_ ?_) | assumption))
theorem nz_findMember (C : Ctx) (s : Bytes) : Nz (findMemberM C s) := by unfold findMemberM; (repeat (first | exact Nz.ok _ | exact Nz.want (by decide) | exact Nz.err (by decide) | exact nz_find _ _ (by decide) | exact nz_called _ _ _ | (refine Nz.bind ?_ fun _ => ?_) | (refine Nz.ite ?_ ?_) | assumption))
theorem nz_args (C : Ctx) : ∀ (l q : List Bytes) (v : Scope) (ms : List Nat), Nz (argsM C v ms l q)
  | [], _, _, _ => by unfold argsM; exact Nz.ok _
  | _ :: _, [], _, _ => by unfold argsM; exact Nz.ok _
  | s :: r, k :: q, v, ms => by
    unfold argsM
    exact Nz.ite (Nz.bind (nz_bindM _ _ _) fun _ => nz_args C r q _ _) (Nz.bind (nz_findMember _ _) fun _ => Nz.bind (Nz.want (by decide)) fun _ => nz_args C r q _ _)
theorem nz_arguments (C : Ctx) (v : Scope) (p : PredM) (l : List Bytes) : Nz (argumentsM C v p l) := by unfold argumentsM; exact Nz.bind (Nz.want (by decide)) fun _ => nz_args _ _ _ _ _
theorem nz_literal (C : Ctx) (v : Scope) (l : LitM) : Nz (literalM C v l) := by
  unfold literalM
  exact Nz.bind (nz_findPred _ _) fun _ => Nz.bind (Nz.want (by decide)) fun _ => Nz.bind (nz_arguments _ _ _ _) fun _ => Nz.bind (Nz.want (by decide)) fun _ => Nz.bind (Nz.want (by decide)) fun _ => Nz.bind (Nz.want (by decide)) fun _ => Nz.ok _
theorem nz_term (C : Ctx) (v : Scope) (t : TermM) : Nz (termM C v t) := by
  unfold termM
  exact Nz.ite (Nz.bind (Nz.want (by decide)) fun _ => Nz.bind (Nz.want (by decide)) fun _ => Nz.ok _) (Nz.bind (nz_findPred _ _) fun _ => Nz.bind (Nz.want (by decide)) fun _ => Nz.bind (Nz.want (by decide)) fun _ => Nz.bind (nz_arguments _ _ _ _) fun _ => Nz.ok _)
theorem nz_terms (C : Ctx) : ∀ (l : List TermM) (v : Scope), Nz (termsM C v l)
  | [], _ => by unfold termsM; exact Nz.ok _
  | t :: r, v => by unfold termsM; exact Nz.bind (nz_term _ _ _) fun _ => nz_terms C r _
theorem nz_guard (C : Ctx) (v : Scope) (g : GuardM) : Nz (guardM C v g) := by unfold guardM; exact Nz.bind (Nz.want (by decide)) fun _ => Nz.bind (Nz.want (by decide)) fun _ => Nz.bind (nz_terms _ _ _) fun _ => nz_terms _ _ _
theorem nz_unlike (C : Ctx) (v : Scope) (s : Bytes) : Nz (unlikeM C v s) := by unfold unlikeM; exact Nz.ite (Nz.ok _) (Nz.bind (nz_findMember _ _) fun _ => Nz.ok _)
theorem nz_prem (C : Ctx) (v : Scope) (p : PremM) : Nz (premM C v p) := by
  unfold premM
  exact Nz.ite (Nz.bind (nz_literal _ _ _) fun _ => Nz.ok _) (Nz.ite (nz_guard _ _ _) (Nz.ite (Nz.bind (nz_unlike _ _ _) fun _ => nz_unlike _ _ _) (Nz.err (by decide))))
theorem nz_body (C : Ctx) : ∀ (l : List PremM) (v : Scope), Nz (bodyM C v l)
  | [], _ => by unfold bodyM; exact Nz.ok _
  | p :: r, v => by unfold bodyM; exact Nz.bind (nz_prem _ _ _) fun _ => nz_body C r _
theorem nz_parts (C : Ctx) (t : RuleM) : Nz (partsM C t) := by unfold partsM; exact Nz.bind (nz_body _ _ _) fun _ => Nz.bind (nz_literal _ _ _) fun _ => Nz.ok _
theorem nz_rule (C : Ctx) (srcs names : List Bytes) (n : Nat) (t : RuleM) : Nz (ruleM C srcs names n t) := by
  unfold ruleM
  exact Nz.bind (nz_called _ _ _) fun _ => Nz.bind (nz_find _ _ (by decide)) fun _ => Nz.bind (Nz.want (by decide)) fun _ => Nz.bind (Nz.want (by decide)) fun _ => Nz.bind (Nz.want (by decide)) fun _ => Nz.bind (Nz.want (by decide)) fun _ => Nz.bind (nz_parts _ _) fun _ => Nz.want (by decide)
theorem nz_except (names keys : List Bytes) (n : Nat) (e : Bytes × Bytes) : Nz (exceptM names keys n e) := by unfold exceptM; (repeat (first | exact Nz.ok _ | exact Nz.want (by decide) | exact Nz.err (by decide) | exact nz_find _ _ (by decide) | exact nz_called _ _ _ | (refine Nz.bind ?_ fun _ => ?_) | (refine Nz.ite ?_ ?_) | assumption))
theorem nz_total (C : Ctx) (names : List Bytes) (n : Nat) (t : TotalM) : Nz (totalM C names n t) := by
  unfold totalM
  exact Nz.bind (nz_called _ _ _) fun _ => Nz.bind (nz_find _ _ (by decide)) fun _ => Nz.bind (Nz.want (by decide)) fun _ => Nz.bind (nz_all (fun _ _ => Nz.bind (nz_findPred _ _) fun _ => Nz.bind (Nz.want (by decide)) fun _ => Nz.bind (Nz.want (by decide)) fun _ => Nz.want (by decide)) _ _) fun _ => Nz.bind (Nz.want (by decide)) fun _ => Nz.want (by decide)
theorem nz_mapIdx {α : Type} {f : Nat → α → Er Unit} (h : ∀ n a, Nz (f n a)) (l : List α) : ∀ x ∈ l.mapIdx f, Nz x := by
  intro x hx
  obtain ⟨i, hi, rfl⟩ := List.mem_mapIdx.1 hx
  exact h _ _
theorem nz_items (S : StatM) : ∀ x ∈ S.items, Nz x := by
  intro x hx
  unfold StatM.items at hx
  simp only [List.mem_append] at hx
  rcases hx with ((((((hx | hx) | hx) | hx) | hx) | hx) | hx) | hx
  · exact nz_mapIdx (fun _ _ => nz_called _ _ _) _ x hx
  · exact nz_mapIdx (fun _ _ => nz_member _ _ _) _ x hx
  · exact nz_mapIdx (fun _ _ => nz_pred _ _ _) _ x hx
  · exact nz_mapIdx (fun _ _ => nz_class _ _ _) _ x hx
  · exact nz_mapIdx (fun _ _ => nz_source _ _ _) _ x hx
  · exact nz_mapIdx (fun _ _ => nz_rule _ _ _ _ _) _ x hx
  · exact nz_mapIdx (fun _ _ => nz_except _ _ _ _) _ x hx
  · exact nz_mapIdx (fun _ _ => nz_total _ _ _ _) _ x hx
theorem firstE_all {l : List (Er Unit)} (hz : ∀ x ∈ l, Nz x) : ∀ k, (firstE k l).1 = 0 → AllOk l := by
  induction l with
  | nil => intro k _; exact AllOk.nil
  | cons x r ih =>
    intro k h
    cases x with
    | error c => exact absurd h (hz _ (List.mem_cons_self ..) c rfl)
    | ok u =>
      have := ih (fun y hy => hz y (List.mem_cons_of_mem _ hy)) (k + 1) h
      intro y hy
      rcases List.mem_cons.1 hy with rfl | hy
      · rfl
      · exact this y hy
/-- When Check takes a statute. -/
theorem check_ok {S : StatM} : (checkM S).1 = 0 ↔ S.fitsB = true ∧ AllOk S.items := by
  unfold checkM
  cases h : S.fitsB with
  | false => simp
  | true =>
    simp only [if_true, true_and]
    constructor
    · exact firstE_all (nz_items S) 0
    · intro ha; rw [firstE_ok ha]
theorem check_len {S : StatM} (h : (checkM S).1 = 0) : checkM S = (0, S.items.length) := by
  obtain ⟨h1, h2⟩ := check_ok.1 h
  unfold checkM
  rw [h1, if_pos rfl, firstE_ok h2, Nat.zero_add]
end Go.Proofs.YtbdlgglbcaoakaaGreat
