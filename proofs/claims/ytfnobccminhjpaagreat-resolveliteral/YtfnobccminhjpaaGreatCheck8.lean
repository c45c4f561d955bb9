/- Check. -/
import Derived.Test.YtfnobccminhjpaaGreatItems8
namespace Go.Proofs.YtfnobccminhjpaaGreat
open Go.RowKit Go.Shelf Go.Maps Go.WideMaps
section
variable {S : StatM} {st : St9} {w w' : World}
set_option maxRecDepth 100000 in
set_option maxHeartbeats 3200000 in
theorem check_any (h : SR w.heap.size w S st) : Calls Tryz.prog 8 #[st.agg] w fun e w' => e = .returned (.tuple #[.int .i64 (checkM S).1, .int .i64 (checkM S).2]) ∧ Below w.heap.size w w' := by
  obtain ⟨tt, ht⟩ := h.title
  obtain ⟨a1, b1, f1, _, l1⟩ := h.kinds.form
  obtain ⟨a2, b2, f2, _, l2⟩ := h.members.form
  obtain ⟨a3, b3, f3, _, l3⟩ := h.preds.form
  obtain ⟨a4, b4, f4, _, l4⟩ := h.classes.form
  obtain ⟨a5, b5, f5, _, l5⟩ := h.sources.form
  obtain ⟨a6, b6, f6, _, l6⟩ := h.rules.form
  obtain ⟨a7, b7, f7, _, l7⟩ := h.excepts.form
  obtain ⟨a8, b8, f8, _, l8⟩ := h.totals.form
  obtain ⟨s0, s1, s2, s3, s4, s5, s6, s7, s8⟩ := st
  simp only at ht f1 f2 f3 f4 f5 f6 f7 f8
  subst ht f1 f2 f3 f4 f5 f6 f7 f8
  have hmf : ∀ (fn : Fn) (first cap : Array Value) (w : World), (Instr.makeFunc fn first cap).run Tryz.prog w = .ok (.func fn first cap) w := fun _ _ _ _ => rfl
  have hA : Below w.heap.size w (w.alloc (.cells #[.string tt, .slice a1 S.kinds.length b1, .slice a2 S.members.length b2, .slice a3 S.preds.length b3, .slice a4 S.classes.length b4, .slice a5 S.sources.length b5, .slice a6 S.rules.length b6, .slice a7 S.excepts.length b7, .slice a8 S.totals.length b8] 31)) := (Below.refl _ w).alloc (Nat.le_refl _) _
  have CF := hide (first_any (SR.mono (N' := (w.alloc (.cells #[.string tt, .slice a1 S.kinds.length b1, .slice a2 S.members.length b2, .slice a3 S.preds.length b3, .slice a4 S.classes.length b4, .slice a5 S.sources.length b5, .slice a6 S.rules.length b6, .slice a7 S.excepts.length b7, .slice a8 S.totals.length b8] 31)).heap.size) hA.size (h.keep fun g hg => hA.block g hg)))
  have HA := hide hA
  unfold St9.agg at *
  simp only at *
  generalize (checkM S).1 = c0 at *
  generalize (checkM S).2 = n0 at *
  clear h hA
  go_enter Tryz.func8, Tryz.ntmps8
  go_wp2_with fail
  refine CF.out.mono ?_
  rintro _ w1 ⟨rfl, hb⟩
  have HB := hide (HA.out.trans (hb.mono HA.out.size))
  have HB2 := hide (HB.out.trans (((Below.refl _ w1).alloc (Nat.le_refl _) (.cells #[.int .i64 c0, .int .i64 n0] 85)).mono HB.out.size))
  clear hb CF HA
  go_wp2_with fail
  go_region
  go_wp2_with fail
  simp [bodyPost, results, Tryz.results8, go_sem]
  exact HB2.out.trans ((Lk.of (w := w1.alloc (.cells #[.int .i64 c0, .int .i64 n0] 85))).below.mono HB2.out.size)
end
end Go.Proofs.YtfnobccminhjpaaGreat
/- No error is 0; a right statute's items. -/
namespace Go.Proofs.YtfnobccminhjpaaGreat
def Nz {α : Type} (x : Er α) : Prop := ∀ c, x = .error c → c ≠ 0
theorem Nz.ok {α : Type} (a : α) : Nz (.ok a : Er α) := fun _ h => by cases h
theorem Nz.want {b : Bool} {c : Int} (hc : c ≠ 0) : Nz (wantM b c) := fun c' h => by rw [want_err1 h]; exact hc
theorem Nz.bind {α β : Type} {x : Er α} {f : α → Er β} (h : Nz x) (k : ∀ a, Nz (f a)) : Nz (x >>= f) := by
  intro c hc
  cases x with
  | ok a => exact k a c hc
  | error d => injection hc with e; subst e; exact h _ rfl
theorem Nz.ite {α : Type} {p : Prop} [Decidable p] {x y : Er α} (h : Nz x) (k : Nz y) : Nz (if p then x else y) := by split <;> assumption
theorem Nz.err {α : Type} {c : Int} (h : c ≠ 0) : Nz (.error c : Er α) := fun _ e => by injection e with e; subst e; exact h
theorem nz_find (l : List Bytes) (s : Bytes) {c : Int} (hc : c ≠ 0) : Nz (findM l s c) := by unfold findM; exact Nz.bind (Nz.want hc) fun _ => Nz.ok _
theorem nz_called (l : List Bytes) (s : Bytes) (n : Nat) : Nz (calledM l s n) := by unfold calledM; (repeat (first | exact Nz.ok _ | exact Nz.want (by decide) | exact Nz.err (by decide) | (refine Nz.bind ?_ fun _ => ?_) | (refine Nz.ite ?_ ?_) | assumption))
theorem nz_all {α : Type} {f : Nat → α → Er Unit} (h : ∀ k a, Nz (f k a)) : ∀ (l : List α) (k : Nat), Nz (allM f k l)
  | [], _ => by unfold allM; exact Nz.ok _
  | a :: r, k => by unfold allM; exact Nz.bind (h k a) fun _ => nz_all h r (k + 1)
theorem nz_member (C : Ctx) (n : Nat) (m : Bytes × Bytes) : Nz (memberM C n m) := by unfold memberM; (repeat (first | exact Nz.ok _ | exact Nz.want (by decide) | exact Nz.err (by decide) | exact nz_find _ _ (by decide) | exact nz_called _ _ _ | (refine Nz.bind ?_ fun _ => ?_) | (refine Nz.ite ?_ ?_) | assumption))
theorem nz_pred (C : Ctx) (n : Nat) (p : PredM) : Nz (predM C n p) := by
  unfold predM
  refine Nz.bind (nz_called _ _ _) fun _ => Nz.bind (Nz.want (by decide)) fun _ => Nz.bind (Nz.want (by decide)) fun _ => Nz.bind (nz_all (fun _ _ => ?_) _ _) fun _ => Nz.bind (Nz.want (by decide)) fun _ => nz_all (fun _ _ => Nz.want (by decide)) _ _
  (repeat (first | exact Nz.ok _ | exact Nz.want (by decide) | exact Nz.err (by decide) | exact nz_find _ _ (by decide) | exact nz_called _ _ _ | (refine Nz.bind ?_ fun _ => ?_) | (refine Nz.ite ?_ ?_) | assumption))
theorem nz_findPred (C : Ctx) (s : Bytes) : Nz (findPredM C s) := by unfold findPredM; (repeat (first | exact Nz.ok _ | exact Nz.want (by decide) | exact Nz.err (by decide) | exact nz_find _ _ (by decide) | exact nz_called _ _ _ | (refine Nz.bind ?_ fun _ => ?_) | (refine Nz.ite ?_ ?_) | assumption))
theorem nz_classNames (C : Ctx) (f : Bytes) : ∀ (l seen : List Bytes), Nz (classNamesM C f seen l)
  | [], _ => by unfold classNamesM; exact Nz.ok _
  | s :: r, seen => by
    unfold classNamesM
    exact Nz.bind (nz_findPred _ _) fun _ => Nz.bind (Nz.want (by decide)) fun _ => Nz.bind (nz_findPred _ _) fun _ => Nz.bind (Nz.want (by decide)) fun _ => Nz.bind (Nz.want (by decide)) fun _ => nz_classNames C f r _
theorem nz_class (C : Ctx) (seen l : List Bytes) : Nz (classM C seen l) := by unfold classM; exact Nz.bind (Nz.want (by decide)) fun _ => nz_classNames _ _ _ _
theorem nz_source (l : List Bytes) (n : Nat) (x : Bytes × Int) : Nz (sourceM l n x) := by unfold sourceM; (repeat (first | exact Nz.ok _ | exact Nz.want (by decide) | exact Nz.err (by decide) | exact nz_find _ _ (by decide) | exact nz_called _ _ _ | (refine Nz.bind ?_ fun _ => ?_) | (refine Nz.ite ?_ ?_) | assumption))
theorem nz_bindM (v : Scope) (s : Bytes) (k : Int) : Nz (bindM v s k) := by unfold bindM; (repeat (first | exact Nz.ok _ | exact Nz.want (by decide) | exact Nz.err (by decide) | exact nz_find _ _ (by decide) | exact nz_called _ _ _ | (refine Nz.bind ?_ fun _ => ?_) | (refine Nz.ite ?_ ?_) | assumption))
theorem nz_findMember (C : Ctx) (s : Bytes) : Nz (findMemberM C s) := by unfold findMemberM; (repeat (first | exact Nz.ok _ | exact Nz.want (by decide) | exact Nz.err (by decide) | exact nz_find _ _ (by decide) | exact nz_called _ _ _ | (refine Nz.bind ?_ fun _ => ?_) | (refine Nz.ite ?_ ?_) | assumption))
theorem nz_args (C : Ctx) : ∀ (l q : List Bytes) (v : Scope) (ms : List Nat), Nz (argsM C v ms l q)
  | [], _, _, _ => by unfold argsM; exact Nz.ok _
  | _ :: _, [], _, _ => by unfold argsM; exact Nz.ok _
  | s :: r, k :: q, v, ms => by
    unfold argsM
    exact Nz.ite (Nz.bind (nz_bindM _ _ _) fun _ => nz_args C r q _ _) (Nz.bind (nz_findMember _ _) fun _ => Nz.bind (Nz.want (by decide)) fun _ => nz_args C r q _ _)
theorem nz_arguments (C : Ctx) (v : Scope) (p : PredM) (l : List Bytes) : Nz (argumentsM C v p l) := by unfold argumentsM; exact Nz.bind (Nz.want (by decide)) fun _ => nz_args _ _ _ _ _
theorem nz_literal (C : Ctx) (v : Scope) (l : LitM) : Nz (literalM C v l) := by
  unfold literalM
  exact Nz.bind (nz_findPred _ _) fun _ => Nz.bind (Nz.want (by decide)) fun _ => Nz.bind (nz_arguments _ _ _ _) fun _ => Nz.bind (Nz.want (by decide)) fun _ => Nz.bind (Nz.want (by decide)) fun _ => Nz.bind (Nz.want (by decide)) fun _ => Nz.ok _
theorem nz_term (C : Ctx) (v : Scope) (t : TermM) : Nz (termM C v t) := by
  unfold termM
  exact Nz.ite (Nz.bind (Nz.want (by decide)) fun _ => Nz.bind (Nz.want (by decide)) fun _ => Nz.ok _) (Nz.bind (nz_findPred _ _) fun _ => Nz.bind (Nz.want (by decide)) fun _ => Nz.bind (Nz.want (by decide)) fun _ => Nz.bind (nz_arguments _ _ _ _) fun _ => Nz.ok _)
theorem nz_terms (C : Ctx) : ∀ (l : List TermM) (v : Scope), Nz (termsM C v l)
  | [], _ => by unfold termsM; exact Nz.ok _
  | t :: r, v => by unfold termsM; exact Nz.bind (nz_term _ _ _) fun _ => nz_terms C r _
theorem nz_guard (C : Ctx) (v : Scope) (g : GuardM) : Nz (guardM C v g) := by unfold guardM; exact Nz.bind (Nz.want (by decide)) fun _ => Nz.bind (Nz.want (by decide)) fun _ => Nz.bind (nz_terms _ _ _) fun _ => nz_terms _ _ _
theorem nz_unlike (C : Ctx) (v : Scope) (s : Bytes) : Nz (unlikeM C v s) := by unfold unlikeM; exact Nz.ite (Nz.ok _) (Nz.bind (nz_findMember _ _) fun _ => Nz.ok _)
theorem nz_prem (C : Ctx) (v : Scope) (p : PremM) : Nz (premM C v p) := by
  unfold premM
  exact Nz.ite (Nz.bind (nz_literal _ _ _) fun _ => Nz.ok _) (Nz.ite (nz_guard _ _ _) (Nz.ite (Nz.bind (nz_unlike _ _ _) fun _ => nz_unlike _ _ _) (Nz.err (by decide))))
theorem nz_body (C : Ctx) : ∀ (l : List PremM) (v : Scope), Nz (bodyM C v l)
  | [], _ => by unfold bodyM; exact Nz.ok _
  | p :: r, v => by unfold bodyM; exact Nz.bind (nz_prem _ _ _) fun _ => nz_body C r _
theorem nz_parts (C : Ctx) (t : RuleM) : Nz (partsM C t) := by unfold partsM; exact Nz.bind (nz_body _ _ _) fun _ => Nz.bind (nz_literal _ _ _) fun _ => Nz.ok _
theorem nz_rule (C : Ctx) (srcs names : List Bytes) (n : Nat) (t : RuleM) : Nz (ruleM C srcs names n t) := by
  unfold ruleM
  exact Nz.bind (nz_called _ _ _) fun _ => Nz.bind (nz_find _ _ (by decide)) fun _ => Nz.bind (Nz.want (by decide)) fun _ => Nz.bind (Nz.want (by decide)) fun _ => Nz.bind (Nz.want (by decide)) fun _ => Nz.bind (Nz.want (by decide)) fun _ => Nz.bind (nz_parts _ _) fun _ => Nz.want (by decide)
theorem nz_except (names keys : List Bytes) (n : Nat) (e : Bytes × Bytes) : Nz (exceptM names keys n e) := by unfold exceptM; (repeat (first | exact Nz.ok _ | exact Nz.want (by decide) | exact Nz.err (by decide) | exact nz_find _ _ (by decide) | exact nz_called _ _ _ | (refine Nz.bind ?_ fun _ => ?_) | (refine Nz.ite ?_ ?_) | assumption))
theorem nz_total (C : Ctx) (names : List Bytes) (n : Nat) (t : TotalM) : Nz (totalM C names n t) := by
  unfold totalM
  exact Nz.bind (nz_called _ _ _) fun _ => Nz.bind (nz_find _ _ (by decide)) fun _ => Nz.bind (Nz.want (by decide)) fun _ => Nz.bind (nz_all (fun _ _ => Nz.bind (nz_findPred _ _) fun _ => Nz.bind (Nz.want (by decide)) fun _ => Nz.bind (Nz.want (by decide)) fun _ => Nz.want (by decide)) _ _) fun _ => Nz.bind (Nz.want (by decide)) fun _ => Nz.want (by decide)
theorem nz_mapIdx {α : Type} {f : Nat → α → Er Unit} (h : ∀ n a, Nz (f n a)) (l : List α) : ∀ x ∈ l.mapIdx f, Nz x := by
  intro x hx
  obtain ⟨i, hi, rfl⟩ := List.mem_mapIdx.1 hx
  exact h _ _
theorem nz_items (S : StatM) : ∀ x ∈ S.items, Nz x := by
  intro x hx
  unfold StatM.items at hx
  simp only [List.mem_append] at hx
  rcases hx with ((((((hx | hx) | hx) | hx) | hx) | hx) | hx) | hx
  · exact nz_mapIdx (fun _ _ => nz_called _ _ _) _ x hx
  · exact nz_mapIdx (fun _ _ => nz_member _ _ _) _ x hx
  · exact nz_mapIdx (fun _ _ => nz_pred _ _ _) _ x hx
  · exact nz_mapIdx (fun _ _ => nz_class _ _ _) _ x hx
  · exact nz_mapIdx (fun _ _ => nz_source _ _ _) _ x hx
  · exact nz_mapIdx (fun _ _ => nz_rule _ _ _ _ _) _ x hx
  · exact nz_mapIdx (fun _ _ => nz_except _ _ _ _) _ x hx
  · exact nz_mapIdx (fun _ _ => nz_total _ _ _ _) _ x hx
theorem firstE_all {l : List (Er Unit)} (hz : ∀ x ∈ l, Nz x) : ∀ k, (firstE k l).1 = 0 → AllOk l := by
  induction l with
  | nil => intro k _; exact AllOk.nil
  | cons x r ih =>
    intro k h
    cases x with
    | error c => exact absurd h (hz _ (List.mem_cons_self ..) c rfl)
    | ok u =>
      have := ih (fun y hy => hz y (List.mem_cons_of_mem _ hy)) (k + 1) h
      intro y hy
      rcases List.mem_cons.1 hy with rfl | hy
      · rfl
      · exact this y hy
/-- When Check takes a statute. -/
theorem check_ok {S : StatM} : (checkM S).1 = 0 ↔ S.fitsB = true ∧ AllOk S.items := by
  unfold checkM
  cases h : S.fitsB with
  | false => simp
  | true =>
    simp only [if_true, true_and]
    constructor
    · exact firstE_all (nz_items S) 0
    · intro ha; rw [firstE_ok ha]
theorem check_len {S : StatM} (h : (checkM S).1 = 0) : checkM S = (0, S.items.length) := by
  obtain ⟨h1, h2⟩ := check_ok.1 h
  unfold checkM
  rw [h1, if_pos rfl, firstE_ok h2, Nat.zero_add]
end Go.Proofs.YtfnobccminhjpaaGreat
/- A right statute with less of it. -/
namespace Go.Proofs.YtfnobccminhjpaaGreat
theorem AllOk.split {l m : List (Er Unit)} : AllOk (l ++ m) ↔ AllOk l ∧ AllOk m := ⟨fun h => ⟨fun x hx => h x (List.mem_append.2 (.inl hx)), fun x hx => h x (List.mem_append.2 (.inr hx))⟩, fun h => h.1.app h.2⟩
theorem items_split {S : StatM} : AllOk S.items ↔ ((((((AllOk (S.kinds.mapIdx (kindM S.kinds)) ∧ AllOk (S.members.mapIdx (memberM S.ctx))) ∧ AllOk (S.preds.mapIdx (predM S.ctx))) ∧ AllOk (S.classes.mapIdx (clsM S))) ∧ AllOk (S.sources.mapIdx (sourceM S.srcs))) ∧ AllOk (S.rules.mapIdx (ruleM S.ctx S.srcs S.heads))) ∧ AllOk (S.excepts.mapIdx (exceptM S.heads S.keys))) ∧ AllOk (S.totals.mapIdx (totalM S.ctx S.sums)) := by
  unfold StatM.items
  rw [AllOk.split, AllOk.split, AllOk.split, AllOk.split, AllOk.split, AllOk.split, AllOk.split]
theorem items_len (S : StatM) : S.items.length = S.kinds.length + S.members.length + S.preds.length + S.classes.length + S.sources.length + S.rules.length + S.excepts.length + S.totals.length := by
  unfold StatM.items
  simp only [List.length_append, List.length_mapIdx]
theorem fits_split {S : StatM} : S.fitsB = true ↔ (((((((S.kinds.length ≤ 16 ∧ S.members.length ≤ 64) ∧ S.preds.length ≤ 256) ∧ S.classes.length ≤ 64) ∧ S.sources.length ≤ 64) ∧ S.rules.length ≤ 512) ∧ S.excepts.length ≤ 512) ∧ S.totals.length ≤ 64) := by
  unfold StatM.fitsB
  simp only [Bool.and_eq_true, decide_eq_true_eq]
theorem less_totals {S : StatM} (h : (checkM S).1 = 0) : (checkM { S with totals := [] }).1 = 0 ∧ (checkM { S with totals := [] }).2 ≤ (checkM S).2 := by
  obtain ⟨hf, ha⟩ := check_ok.1 h
  have hf' := fits_split.1 hf
  have ha' := items_split.1 ha
  have h2 : (checkM { S with totals := [] }).1 = 0 := check_ok.2 ⟨fits_split.2 ⟨hf'.1, by simp⟩, items_split.2 ⟨ha'.1, AllOk.nil⟩⟩
  refine ⟨h2, ?_⟩
  rw [check_len h, check_len h2, items_len, items_len]
  simp only [List.length_nil]
  omega
theorem less_excepts {S : StatM} (h : (checkM S).1 = 0) : (checkM { S with excepts := [] }).1 = 0 ∧ (checkM { S with excepts := [] }).2 ≤ (checkM S).2 := by
  obtain ⟨hf, ha⟩ := check_ok.1 h
  have hf' := fits_split.1 hf
  have ha' := items_split.1 ha
  have h2 : (checkM { S with excepts := [] }).1 = 0 := check_ok.2 ⟨fits_split.2 ⟨⟨hf'.1.1, by simp⟩, hf'.2⟩, items_split.2 ⟨⟨ha'.1.1, AllOk.nil⟩, ha'.2⟩⟩
  refine ⟨h2, ?_⟩
  rw [check_len h, check_len h2, items_len, items_len]
  simp only [List.length_nil]
  omega
theorem AllOk.at {α : Type} {f : Nat → α → Er Unit} {l : List α} : AllOk (l.mapIdx f) ↔ ∀ i x, l[i]? = some x → f i x = .ok () := by
  constructor
  · intro h i x hx
    exact h _ (List.mem_iff_getElem?.2 ⟨i, by rw [List.getElem?_mapIdx, hx]; rfl⟩)
  · intro h y hy
    obtain ⟨i, hi⟩ := List.mem_iff_getElem?.1 hy
    rw [List.getElem?_mapIdx] at hi
    obtain ⟨x, hx, rfl⟩ := Option.map_eq_some_iff.1 hi
    exact h i x hx
theorem called_take {l : List Bytes} {s : Bytes} {n k : Nat} (h : calledM l s n = .ok ()) (hx : l[n]? = some s) (hk : n < k) : calledM (l.take k) s n = .ok () := by
  unfold calledM at h ⊢
  obtain ⟨_, h1, h2⟩ := ex_ok h
  rw [h1]
  show wantM _ 6 = .ok ()
  have hp : ((posB l s : Int) = (n : Int)) := by
    apply Classical.byContradiction
    intro hn
    rw [decide_eq_false hn] at h2
    cases h2
  have hm : s ∈ l.take k := List.mem_iff_getElem?.2 ⟨n, by rw [List.getElem?_take, if_pos hk]; exact hx⟩
  have hm2 : s ∈ l := List.mem_of_mem_take hm
  have e : posB (l.take k) s = posB l s := by
    unfold posB
    rw [if_pos hm, if_pos hm2]
    conv => rhs; rw [← List.take_append_drop k l]
    rw [List.idxOf_append, if_pos hm]
  rw [e, decide_eq_true hp]
  rfl
theorem less_rules {S : StatM} (h : (checkM S).1 = 0) (he : S.excepts = []) (k : Nat) : (checkM { S with rules := S.rules.take k }).1 = 0 ∧ (checkM { S with rules := S.rules.take k }).2 ≤ (checkM S).2 := by
  obtain ⟨hf, ha⟩ := check_ok.1 h
  have hf' := fits_split.1 hf
  have ha' := items_split.1 ha
  have h2 : (checkM { S with rules := S.rules.take k }).1 = 0 := by
    refine check_ok.2 ⟨fits_split.2 ⟨⟨⟨hf'.1.1.1, by simp only [List.length_take]; omega⟩, hf'.1.2⟩, hf'.2⟩, items_split.2 ⟨⟨⟨ha'.1.1.1, ?_⟩, ?_⟩, ha'.2⟩⟩
    · refine AllOk.at.2 fun i x hx => ?_
      simp only at hx
      rw [List.getElem?_take] at hx
      by_cases hik : i < k
      · rw [if_pos hik] at hx
        have h0 := AllOk.at.1 ha'.1.1.2 i x hx
        unfold ruleM at h0 ⊢
        obtain ⟨_, h1, h0⟩ := ex_ok h0
        have h3 := called_take (k := k) h1 (by unfold StatM.heads; rw [List.getElem?_map, hx]; rfl) hik
        have e : StatM.heads { S with rules := S.rules.take k } = (S.heads).take k := by unfold StatM.heads; simp only [List.map_take]
        rw [e, h3]
        exact h0
      · rw [if_neg hik] at hx; cases hx
    · simp only [he]; exact AllOk.nil
  refine ⟨h2, ?_⟩
  rw [check_len h, check_len h2, items_len, items_len]
  simp only [List.length_take]
  omega
theorem less_classes {S : StatM} (h : (checkM S).1 = 0) (k : Nat) : (checkM { S with classes := S.classes.take k }).1 = 0 ∧ (checkM { S with classes := S.classes.take k }).2 ≤ (checkM S).2 := by
  obtain ⟨hf, ha⟩ := check_ok.1 h
  have hf' := fits_split.1 hf
  have ha' := items_split.1 ha
  have h2 : (checkM { S with classes := S.classes.take k }).1 = 0 := by
    refine check_ok.2 ⟨fits_split.2 ⟨⟨⟨⟨⟨hf'.1.1.1.1.1, by simp only [List.length_take]; omega⟩, hf'.1.1.1.2⟩, hf'.1.1.2⟩, hf'.1.2⟩, hf'.2⟩, items_split.2 ⟨⟨⟨⟨⟨ha'.1.1.1.1.1, ?_⟩, ha'.1.1.1.2⟩, ha'.1.1.2⟩, ha'.1.2⟩, ha'.2⟩⟩
    refine AllOk.at.2 fun i x hx => ?_
    simp only at hx
    rw [List.getElem?_take] at hx
    by_cases hik : i < k
    · rw [if_pos hik] at hx
      have h0 := AllOk.at.1 ha'.1.1.1.1.2 i x hx
      simp only [clsM] at h0 ⊢
      rw [List.take_take, Nat.min_eq_left (Nat.le_of_lt hik)]
      exact h0
    · rw [if_neg hik] at hx; cases hx
  refine ⟨h2, ?_⟩
  rw [check_len h, check_len h2, items_len, items_len]
  simp only [List.length_take]
  omega
end Go.Proofs.YtfnobccminhjpaaGreat
/- Vars: what is asked behind Check. -/
namespace Go.Proofs.YtfnobccminhjpaaGreat
open Go.RowKit Go.Shelf Go.Maps Go.WideMaps
theorem ruleM_sixteen {C : Ctx} {a b : List Bytes} {n : Nat} {t : RuleM} (h : ruleM C a b n t = .ok ()) : t.body.length ≤ 16 := by
  unfold ruleM at h
  obtain ⟨_, _, h⟩ := ex_ok h
  obtain ⟨_, _, h⟩ := ex_ok h
  obtain ⟨_, _, h⟩ := ex_ok h
  obtain ⟨_, _, h⟩ := ex_ok h
  obtain ⟨_, _, h⟩ := ex_ok h
  obtain ⟨_, h1, _⟩ := ex_ok h
  apply Classical.byContradiction
  intro hn
  rw [decide_eq_false (show ¬ ((t.body.length : Int) ≤ 16) by omega)] at h1
  cases h1
section
variable {R : Nat} {S : StatM} {st : St9} {mp : Mp8} {it : Nat} {seen : List Bytes} {w w' : World}
/-- How the asking of one rule's variables ends. -/
def Ev (vb : Nat) (w : World) (it : Int) (o : Er Scope) (e : Ending) (w' : World) : Prop := Fr (fun k => k = vb) w w' ∧ match o with
  | .ok v' => e = .returned (.tuple #[]) ∧ ∃ Z V M nv kv, w'.heap[vb]? = some (.cells #[ptr V] 90 (0, 0)) ∧ Scp Z V M nv kv v' w' ∧ (∀ k, Z k → w.heap.size ≤ k)
  | .error c => e = .panicked [fl c it]
def varsM (S : StatM) (k : Int) : Er Scope := wantM (decide (0 ≤ k) && decide (k < (S.rules.length : Int))) 1 >>= fun _ => match S.rules[k.toNat]? with
  | some t => partsM S.ctx t
  | none => .error 1
set_option maxRecDepth 100000 in
set_option maxHeartbeats 6400000 in
theorem vars1_any (h : Res R S st mp it seen w) (hp4 : ∀ p ∈ S.preds, p.kinds.length ≤ 4) (h16 : ∀ t ∈ S.rules, t.body.length ≤ 16) (k : Int) {kb sb vb : Nat} {y : Value} {a : Option Addr} {c : Nat} (hk : w.cell? ⟨kb, 0, none⟩ = some (.int .i64 k)) (hs : w.cell? ⟨sb, 6, none⟩ = some (.slice a S.rules.length c)) (hl : RR R 11 (cRule R) w S.rules (.slice a S.rules.length c)) (hv : w.heap[vb]? = some (.cells #[y] 90 (0, 0))) :
    Calls Tryz.prog 52 #[ptr R, ptr kb, ptr sb, ptr vb] w fun e w' => Ev vb w it (varsM S k) e w' := by
  have hll : S.rules.length ≤ 140737488351232 := by obtain ⟨_, _, _, _, h⟩ := hl.form; exact h
  have CW := hide (fun b c => want_any h.c9 b c)
  obtain ⟨o, ho⟩ : ∃ o, varsM S k = o := ⟨_, rfl⟩
  rw [ho]
  have HO := hide ho
  unfold varsM at HO
  have H := hide h
  have HP4 := hide hp4
  have HV := hide hv
  have H16 := hide h16
  have HL := hide hl
  clear h hp4 h16 ho hl hv
  by_cases h0 : 0 ≤ k
  case neg =>
    rw [decide_eq_false h0, Bool.false_and] at HO
    have h0' : k < 0 := by omega
    go_enter Tryz.func52, Tryz.ntmps52
    go_wp2_with fail
    refine (CW.out _ _).mono ?_
    intro e w2 hE
    rcases hE.no with ⟨c1, h3, rfl, hw⟩ | ⟨_, h3, rfl, hw⟩
    · subst w2
      refine on_panic rfl ?_
      rw [← ex_no HO.out h3]
      exact ⟨.refl _ _, rfl⟩
    · cases h3
  rw [decide_eq_true h0, Bool.true_and] at HO
  by_cases hlt : k < (S.rules.length : Int)
  case neg =>
    rw [decide_eq_false hlt] at HO
    have hd : decide (k < (S.rules.length : Int)) = false := decide_eq_false hlt
    go_enter Tryz.func52, Tryz.ntmps52
    go_wp2_with fail
    refine (CW.out _ _).mono ?_
    intro e w2 hE
    rcases hE.no with ⟨c1, h3, rfl, hw⟩ | ⟨_, h3, rfl, hw⟩
    · subst w2
      refine on_panic rfl ?_
      rw [← ex_no HO.out (want_f rfl)]
      have : c1 = 1 := want_err1 h3
      subst this
      exact ⟨.refl _ _, rfl⟩
    · exfalso; first | cases h3 | (rw [hd] at h3; cases h3)
  rw [decide_eq_true hlt] at HO
  obtain ⟨n, rfl⟩ : ∃ n : Nat, k = n := ⟨k.toNat, by omega⟩
  have hn : n < S.rules.length := by omega
  obtain ⟨x, hx⟩ : ∃ x, S.rules[n]? = some x := ⟨S.rules[n], List.getElem?_eq_getElem hn⟩
  have HO1 : Hid (partsM S.ctx x = o) := by
    have := ex_go HO.out (want_t rfl)
    rw [Int.toNat_natCast, hx] at this
    exact this
  obtain ⟨gg, oo, ba, bc, ka, kc, hga, hg, e0, e1, e2, e3, e4, e5, e6, e7, e8, e9, e10, hs1, hs2, hs3, hbs, hks⟩ := at_R HL.out hx
  cases hga
  have CP := hide (parts_any H.out HP4.out x hbs hs3 hks (H16.out x (List.mem_iff_getElem?.2 ⟨n, hx⟩)))
  unfold ruleV at CP
  unfold str at *
  clear hx hbs hks HO
  go_enter Tryz.func52, Tryz.ntmps52
  go_wp2_with fail
  refine (CW.out _ _).mono ?_
  intro e w2 hE
  rcases hE.no with ⟨c1, h3, rfl, hw⟩ | ⟨_, h3, rfl, hw⟩
  · exfalso
    first | cases h3 | (rw [decide_eq_true hlt] at h3; cases h3)
  subst w2
  clear hE h3
  go_wp2_with fail
  refine CP.out.mono ?_
  intro e w2 hE
  rcases hE.no with ⟨c1, h3, rfl, hf⟩ | ⟨v2, Z, V, M, nv, kv, h3, rfl, hs', hz, hf⟩
  · refine on_panic rfl ?_
    rw [← HO1.out, h3]
    exact ⟨.of_below hf, rfl⟩
  have hvb := (hf.block vb (loc_lt HV.out)).trans HV.out
  have q0 := cell_of_row w2 vb 0 _ _ _ hvb
  simp only [List.getElem?_toArray, List.getElem?_cons_zero] at q0
  have qf := frozen_of_row w2 vb 0 _ _ hvb
  have hlv := loc_lt HV.out
  have HA := hide (loc_set (i := 0) (v := ptr V) hvb)
  have HF := hide ((Fr.of_below (Z := fun k => k = vb) hf).trans (.setCell ⟨vb, 0, none⟩ (ptr V) rfl))
  have HS := hide (hs'.keep (w' := w2.setCell ⟨vb, 0, none⟩ (ptr V)) fun k hk _ => heap_setCell_other w2 ⟨vb, 0, none⟩ k _ (by have := hz k hk; show k ≠ vb; omega))
  have HZ := hide hz
  have HO2 : Hid (.ok v2 = o) := h3.symm.trans HO1.out
  clear hE h3 hs' hz hf CP CW hvb e0 e1 e2 e3 e4 e5 e6 e7 e8 e9 e10 hk hs HL HO1
  go_wp2_with fail
  go_end0
  rw [← HO2.out]
  exact ⟨HF.out, rfl, Z, V, M, nv, kv, HA.out, HS.out, HZ.out⟩
end
end Go.Proofs.YtfnobccminhjpaaGreat
