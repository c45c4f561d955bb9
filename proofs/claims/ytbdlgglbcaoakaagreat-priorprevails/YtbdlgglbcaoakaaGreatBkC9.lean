/- The page's Check: the mathematics of its order. -/
import Derived.Test.YtbdlgglbcaoakaaGreatBkI9
namespace Go.Proofs.YtbdlgglbcaoakaaGreat
open Go.RowKit Go.Shelf Go.Maps Go.WideMaps

theorem allM_memS {α : Type} {f : Nat → α → Er Unit} : ∀ (l : List α) (k : Nat), allM f k l = .ok () → ∀ a ∈ l, ∃ i, f i a = .ok () := by
  intro l
  induction l with
  | nil => intro k _ a ha; cases ha
  | cons x r ih =>
    intro k h a ha
    unfold allM at h
    obtain ⟨u, h1, h2⟩ := ex_ok h
    rcases List.mem_cons.1 ha with rfl | ha
    · exact ⟨k, h1⟩
    · exact ih _ h2 a ha
theorem want_ofS {b : Bool} {c : Int} {u : Unit} (h : wantM b c = .ok u) : b = true := by
  cases b with
  | true => rfl
  | false => cases h
/-- What is asked of the items of one sort. -/
def grp (S : StatM) : Nat → List (Er Unit)
  | 0 => S.kinds.mapIdx (kindM S.kinds)
  | 1 => S.members.mapIdx (memberM S.ctx)
  | 2 => S.preds.mapIdx (predM S.ctx)
  | 3 => S.classes.mapIdx (fun n l => classM S.ctx (S.classes.take n).flatten l)
  | 4 => S.sources.mapIdx (sourceM S.srcs)
  | 5 => S.rules.mapIdx (ruleM S.ctx S.srcs S.heads)
  | 6 => S.excepts.mapIdx (exceptM S.heads S.keys)
  | 7 => S.totals.mapIdx (totalM S.ctx S.sums)
  | _ => []
def lens8 (S : StatM) : List Nat := [S.kinds.length, S.members.length, S.preds.length, S.classes.length, S.sources.length, S.rules.length, S.excepts.length, S.totals.length]
def pre8 (S : StatM) : Nat → List (Er Unit)
  | 0 => []
  | k + 1 => pre8 S k ++ grp S k
theorem pre8_items (S : StatM) : pre8 S 8 = S.items := by
  unfold StatM.items
  simp only [pre8, grp, List.nil_append]
theorem grp_len (S : StatM) {k : Nat} (hk : k < 8) : (grp S k).length = (lens8 S).getD k 0 := by
  match k, hk with
  | 0, _ => simp [grp, lens8]
  | 1, _ => simp [grp, lens8]
  | 2, _ => simp [grp, lens8]
  | 3, _ => simp [grp, lens8]
  | 4, _ => simp [grp, lens8]
  | 5, _ => simp [grp, lens8]
  | 6, _ => simp [grp, lens8]
  | 7, _ => simp [grp, lens8]
theorem pre8_split (S : StatM) {k : Nat} (hk : k < 8) : ∃ q, S.items = (pre8 S k ++ grp S k) ++ q := by
  rw [← pre8_items]
  match k, hk with
  | 0, _ => exact ⟨grp S 1 ++ grp S 2 ++ grp S 3 ++ grp S 4 ++ grp S 5 ++ grp S 6 ++ grp S 7, by simp only [pre8, List.nil_append, List.append_assoc]⟩
  | 1, _ => exact ⟨grp S 2 ++ grp S 3 ++ grp S 4 ++ grp S 5 ++ grp S 6 ++ grp S 7, by simp only [pre8, List.nil_append, List.append_assoc]⟩
  | 2, _ => exact ⟨grp S 3 ++ grp S 4 ++ grp S 5 ++ grp S 6 ++ grp S 7, by simp only [pre8, List.nil_append, List.append_assoc]⟩
  | 3, _ => exact ⟨grp S 4 ++ grp S 5 ++ grp S 6 ++ grp S 7, by simp only [pre8, List.nil_append, List.append_assoc]⟩
  | 4, _ => exact ⟨grp S 5 ++ grp S 6 ++ grp S 7, by simp only [pre8, List.nil_append, List.append_assoc]⟩
  | 5, _ => exact ⟨grp S 6 ++ grp S 7, by simp only [pre8, List.nil_append, List.append_assoc]⟩
  | 6, _ => exact ⟨grp S 7, by simp only [pre8, List.nil_append, List.append_assoc]⟩
  | 7, _ => exact ⟨[], by simp only [pre8, List.nil_append, List.append_nil]⟩
theorem preds_okS {S : StatM} (h : AllOk (grp S 2)) : PredsOk S := by
  intro p hp
  obtain ⟨i, hi, rfl⟩ := List.getElem_of_mem hp
  have h1 : predM S.ctx i S.preds[i] = .ok () := h _ (List.mem_mapIdx.2 ⟨i, hi, rfl⟩)
  refine ⟨predM_four h1, fun k hk => ?_⟩
  unfold predM at h1
  obtain ⟨_, _, h1⟩ := ex_ok h1
  obtain ⟨_, _, h1⟩ := ex_ok h1
  obtain ⟨_, _, h1⟩ := ex_ok h1
  obtain ⟨_, h2, _⟩ := ex_ok h1
  obtain ⟨j, h2⟩ := allM_memS _ _ h2 k hk
  unfold findM at h2
  obtain ⟨_, h3, _⟩ := ex_ok h2
  obtain ⟨_, h4, _⟩ := ex_ok h3
  exact of_decide_eq_true (want_ofS h4)
theorem ritem_any {S : StatM} {st : St9} {w : World} (h : SR w.heap.size w S st) (hfit : S.fitsB = true) {k n : Nat} (hk : k < 8) (hn : n < (grp S k).length) (hok : AllOk (pre8 S k)) : ∃ o, (grp S k)[n]? = some o ∧ Nz o ∧ Calls Tryz.prog 21 #[st.agg, .int .i64 k, .int .i64 n] w fun e w' => e = .returned (.int .i64 (erc o)) ∧ Below w.heap.size w w' := by
  have hz : ∀ o, (grp S k)[n]? = some o → Nz o := by
    intro o ho
    obtain ⟨q, hq⟩ := pre8_split S hk
    refine nz_items S o ?_
    rw [hq]
    exact List.mem_append.2 (.inl (List.mem_append.2 (.inr (List.mem_of_getElem? ho))))
  match k, hk with
  | 0, _ =>
    have hl : n < S.kinds.length := by rw [grp_len S (by omega)] at hn; exact hn
    have he : S.kinds[n]? = some (S.kinds[n]) := List.getElem?_eq_getElem hl
    have hg : (grp S 0)[n]? = some (kindM S.kinds n S.kinds[n]) := by show (S.kinds.mapIdx (kindM S.kinds))[n]? = _; rw [List.getElem?_mapIdx, he]; rfl
    exact ⟨_, hg, hz _ hg, ritem0_any h hfit he⟩
  | 1, _ =>
    have hl : n < S.members.length := by rw [grp_len S (by omega)] at hn; exact hn
    have he : S.members[n]? = some (S.members[n]) := List.getElem?_eq_getElem hl
    have hg : (grp S 1)[n]? = some (memberM S.ctx n S.members[n]) := by show (S.members.mapIdx (memberM S.ctx))[n]? = _; rw [List.getElem?_mapIdx, he]; rfl
    exact ⟨_, hg, hz _ hg, ritem1_any h hfit he⟩
  | 2, _ =>
    have hl : n < S.preds.length := by rw [grp_len S (by omega)] at hn; exact hn
    have he : S.preds[n]? = some (S.preds[n]) := List.getElem?_eq_getElem hl
    have hg : (grp S 2)[n]? = some (predM S.ctx n S.preds[n]) := by show (S.preds.mapIdx (predM S.ctx))[n]? = _; rw [List.getElem?_mapIdx, he]; rfl
    exact ⟨_, hg, hz _ hg, ritem2_any h hfit he⟩
  | 3, _ =>
    have hl : n < S.classes.length := by rw [grp_len S (by omega)] at hn; exact hn
    have he : S.classes[n]? = some (S.classes[n]) := List.getElem?_eq_getElem hl
    have hg : (grp S 3)[n]? = some (classM S.ctx (S.classes.take n).flatten S.classes[n]) := by show (S.classes.mapIdx (fun n l => classM S.ctx (S.classes.take n).flatten l))[n]? = _; rw [List.getElem?_mapIdx, he]; rfl
    exact ⟨_, hg, hz _ hg, ritem3_any h hfit he⟩
  | 4, _ =>
    have hl : n < S.sources.length := by rw [grp_len S (by omega)] at hn; exact hn
    have he : S.sources[n]? = some (S.sources[n]) := List.getElem?_eq_getElem hl
    have hg : (grp S 4)[n]? = some (sourceM S.srcs n S.sources[n]) := by show (S.sources.mapIdx (sourceM S.srcs))[n]? = _; rw [List.getElem?_mapIdx, he]; rfl
    exact ⟨_, hg, hz _ hg, ritem4_any h hfit he⟩
  | 5, _ =>
    have hl : n < S.rules.length := by rw [grp_len S (by omega)] at hn; exact hn
    have he : S.rules[n]? = some (S.rules[n]) := List.getElem?_eq_getElem hl
    have hg : (grp S 5)[n]? = some (ruleM S.ctx S.srcs S.heads n S.rules[n]) := by show (S.rules.mapIdx (ruleM S.ctx S.srcs S.heads))[n]? = _; rw [List.getElem?_mapIdx, he]; rfl
    exact ⟨_, hg, hz _ hg, ritem5_any h hfit (preds_okS fun x hx => hok x (by simp only [pre8, List.nil_append, List.mem_append]; exact .inl (.inl (.inr hx)))) he⟩
  | 6, _ =>
    have hl : n < S.excepts.length := by rw [grp_len S (by omega)] at hn; exact hn
    have he : S.excepts[n]? = some (S.excepts[n]) := List.getElem?_eq_getElem hl
    have hg : (grp S 6)[n]? = some (exceptM S.heads S.keys n S.excepts[n]) := by show (S.excepts.mapIdx (exceptM S.heads S.keys))[n]? = _; rw [List.getElem?_mapIdx, he]; rfl
    exact ⟨_, hg, hz _ hg, ritem6_any h hfit he⟩
  | 7, _ =>
    have hl : n < S.totals.length := by rw [grp_len S (by omega)] at hn; exact hn
    have he : S.totals[n]? = some (S.totals[n]) := List.getElem?_eq_getElem hl
    have hg : (grp S 7)[n]? = some (totalM S.ctx S.sums n S.totals[n]) := by show (S.totals.mapIdx (totalM S.ctx S.sums))[n]? = _; rw [List.getElem?_mapIdx, he]; rfl
    exact ⟨_, hg, hz _ hg, ritem7_any h hfit he⟩
end Go.Proofs.YtbdlgglbcaoakaaGreat
/- The page's Check. -/
namespace Go.Proofs.YtbdlgglbcaoakaaGreat
open Go.RowKit Go.Shelf Go.Maps Go.WideMaps

theorem grp_cell {S : StatM} {Y : World} {q k : Nat} (hb : Y.heap[q]? = some (.cells #[.int .i64 (S.kinds.length : Nat), .int .i64 (S.members.length : Nat), .int .i64 (S.preds.length : Nat), .int .i64 (S.classes.length : Nat), .int .i64 (S.sources.length : Nat), .int .i64 (S.rules.length : Nat), .int .i64 (S.excepts.length : Nat), .int .i64 (S.totals.length : Nat)] 3 (0, 0))) (hk : k < 8) : Y.cell? ⟨q, k, none⟩ = some (.int .i64 (((grp S k).length : Nat) : Int)) := by
  rw [grp_len S hk, cell_of_row Y q k _ _ _ hb]
  match k, hk with
  | 0, _ => rfl
  | 1, _ => rfl
  | 2, _ => rfl
  | 3, _ => rfl
  | 4, _ => rfl
  | 5, _ => rfl
  | 6, _ => rfl
  | 7, _ => rfl
theorem pre8_le (S : StatM) (hfit : S.fitsB = true) {k n : Nat} (hk : k < 8) (hn : n ≤ (grp S k).length) : (pre8 S k).length + n ≤ 2000 := by
  obtain ⟨q, hq⟩ := pre8_split S hk
  have h1 : S.items.length ≤ 1552 := by
    obtain ⟨h1, h2, h3, h4, h5, h6, h7, h8⟩ := fitB hfit
    unfold StatM.items
    simp only [List.length_append, List.length_mapIdx]
    omega
  rw [hq] at h1
  simp only [List.length_append] at h1
  omega
section
variable {S : StatM} {st : St9} {w : World}
set_option maxRecDepth 100000 in
set_option maxHeartbeats 25600000 in
theorem rcheck_any (h : SR w.heap.size w S st) : Calls Tryz.prog 13 #[st.agg] w fun e w' => e = .returned (.tuple #[.int .i64 (checkM S).1, .int .i64 (checkM S).2]) ∧ Below w.heap.size w w' := by
  have H0 := hide h
  obtain ⟨tt, ht⟩ := h.title
  obtain ⟨a1, b1, f1, _, _⟩ := h.kinds.form
  obtain ⟨a2, b2, f2, _, _⟩ := h.members.form
  obtain ⟨a3, b3, f3, _, _⟩ := h.preds.form
  obtain ⟨a4, b4, f4, _, _⟩ := h.classes.form
  obtain ⟨a5, b5, f5, _, _⟩ := h.sources.form
  obtain ⟨a6, b6, f6, _, _⟩ := h.rules.form
  obtain ⟨a7, b7, f7, _, _⟩ := h.excepts.form
  obtain ⟨a8, b8, f8, _, _⟩ := h.totals.form
  obtain ⟨s0, s1, s2, s3, s4, s5, s6, s7, s8⟩ := st
  simp only at ht f1 f2 f3 f4 f5 f6 f7 f8
  subst ht f1 f2 f3 f4 f5 f6 f7 f8
  have hA : Below w.heap.size w (w.alloc (.cells #[.string tt, .slice a1 S.kinds.length b1, .slice a2 S.members.length b2, .slice a3 S.preds.length b3, .slice a4 S.classes.length b4, .slice a5 S.sources.length b5, .slice a6 S.rules.length b6, .slice a7 S.excepts.length b7, .slice a8 S.totals.length b8] 31)) := (Below.refl _ w).alloc (Nat.le_refl _) _
  have K0 : Hid (Lw w.heap.size S ⟨.string tt, .slice a1 S.kinds.length b1, .slice a2 S.members.length b2, .slice a3 S.preds.length b3, .slice a4 S.classes.length b4, .slice a5 S.sources.length b5, .slice a6 S.rules.length b6, .slice a7 S.excepts.length b7, .slice a8 S.totals.length b8⟩ w (w.alloc (.cells #[.string tt, .slice a1 S.kinds.length b1, .slice a2 S.members.length b2, .slice a3 S.preds.length b3, .slice a4 S.classes.length b4, .slice a5 S.sources.length b5, .slice a6 S.rules.length b6, .slice a7 S.excepts.length b7, .slice a8 S.totals.length b8] 31))) := hide ⟨hA, h.keep fun g hg => hA.block g hg, heap_alloc_new w _⟩
  obtain ⟨z, hz⟩ : ∃ z, checkM S = z := ⟨_, rfl⟩
  rw [hz]
  have HZ := hide hz
  unfold checkM at HZ
  obtain ⟨H, hH⟩ : ∃ H, H = w.heap.size := ⟨_, rfl⟩
  rw [← hH] at K0
  have HH := hide hH
  clear h hA hz
  unfold St9.agg at *
  simp only at *
  obtain ⟨c0, c1, c2, c3, c4, c5, c6, c7, c8, cf⟩ := K0.out.cells
  simp only at c0 c1 c2 c3 c4 c5 c6 c7 c8
  clear cf
  go_enter Tryz.func13, Tryz.ntmps13
  go_upto_region 1 with fail
  rw [← hH]
  generalize w.alloc (.cells #[.string tt, .slice a1 S.kinds.length b1, .slice a2 S.members.length b2, .slice a3 S.preds.length b3, .slice a4 S.classes.length b4, .slice a5 S.sources.length b5, .slice a6 S.rules.length b6, .slice a7 S.excepts.length b7, .slice a8 S.totals.length b8] 31) = w0 at *
  clear hH
  by_cases g0 : S.kinds.length ≤ 16
  case neg =>
    have hzc : (3, 0) = z := by
      have hf : S.fitsB = false := by
        cases hq : S.fitsB with
        | false => rfl
        | true => have := fitB hq; omega
      have := HZ.out
      rw [hf] at this
      exact this
    subst hzc
    have g0x : ((16 : Int) < (S.kinds.length : Int)) := by omega
    go_wp2_with fail
    simp [bodyPost, results, Tryz.results13, go_sem]
    rw [← HH.out]
    exact K0.out.low
  have g0x : ¬ ((16 : Int) < (S.kinds.length : Int)) := by omega
  by_cases g1 : S.members.length ≤ 64
  case neg =>
    have hzc : (3, 0) = z := by
      have hf : S.fitsB = false := by
        cases hq : S.fitsB with
        | false => rfl
        | true => have := fitB hq; omega
      have := HZ.out
      rw [hf] at this
      exact this
    subst hzc
    have g1x : ((64 : Int) < (S.members.length : Int)) := by omega
    go_wp2_with fail
    simp [bodyPost, results, Tryz.results13, go_sem]
    rw [← HH.out]
    exact K0.out.low
  have g1x : ¬ ((64 : Int) < (S.members.length : Int)) := by omega
  by_cases g2 : S.preds.length ≤ 256
  case neg =>
    have hzc : (3, 0) = z := by
      have hf : S.fitsB = false := by
        cases hq : S.fitsB with
        | false => rfl
        | true => have := fitB hq; omega
      have := HZ.out
      rw [hf] at this
      exact this
    subst hzc
    have g2x : ((256 : Int) < (S.preds.length : Int)) := by omega
    go_wp2_with fail
    simp [bodyPost, results, Tryz.results13, go_sem]
    rw [← HH.out]
    exact K0.out.low
  have g2x : ¬ ((256 : Int) < (S.preds.length : Int)) := by omega
  by_cases g3 : S.classes.length ≤ 64
  case neg =>
    have hzc : (3, 0) = z := by
      have hf : S.fitsB = false := by
        cases hq : S.fitsB with
        | false => rfl
        | true => have := fitB hq; omega
      have := HZ.out
      rw [hf] at this
      exact this
    subst hzc
    have g3x : ((64 : Int) < (S.classes.length : Int)) := by omega
    go_wp2_with fail
    simp [bodyPost, results, Tryz.results13, go_sem]
    rw [← HH.out]
    exact K0.out.low
  have g3x : ¬ ((64 : Int) < (S.classes.length : Int)) := by omega
  by_cases g4 : S.sources.length ≤ 64
  case neg =>
    have hzc : (3, 0) = z := by
      have hf : S.fitsB = false := by
        cases hq : S.fitsB with
        | false => rfl
        | true => have := fitB hq; omega
      have := HZ.out
      rw [hf] at this
      exact this
    subst hzc
    have g4x : ((64 : Int) < (S.sources.length : Int)) := by omega
    go_wp2_with fail
    simp [bodyPost, results, Tryz.results13, go_sem]
    rw [← HH.out]
    exact K0.out.low
  have g4x : ¬ ((64 : Int) < (S.sources.length : Int)) := by omega
  by_cases g5 : S.rules.length ≤ 512
  case neg =>
    have hzc : (3, 0) = z := by
      have hf : S.fitsB = false := by
        cases hq : S.fitsB with
        | false => rfl
        | true => have := fitB hq; omega
      have := HZ.out
      rw [hf] at this
      exact this
    subst hzc
    have g5x : ((512 : Int) < (S.rules.length : Int)) := by omega
    go_wp2_with fail
    simp [bodyPost, results, Tryz.results13, go_sem]
    rw [← HH.out]
    exact K0.out.low
  have g5x : ¬ ((512 : Int) < (S.rules.length : Int)) := by omega
  by_cases g6 : S.excepts.length ≤ 512
  case neg =>
    have hzc : (3, 0) = z := by
      have hf : S.fitsB = false := by
        cases hq : S.fitsB with
        | false => rfl
        | true => have := fitB hq; omega
      have := HZ.out
      rw [hf] at this
      exact this
    subst hzc
    have g6x : ((512 : Int) < (S.excepts.length : Int)) := by omega
    go_wp2_with fail
    simp [bodyPost, results, Tryz.results13, go_sem]
    rw [← HH.out]
    exact K0.out.low
  have g6x : ¬ ((512 : Int) < (S.excepts.length : Int)) := by omega
  by_cases g7 : S.totals.length ≤ 64
  case neg =>
    have hzc : (3, 0) = z := by
      have hf : S.fitsB = false := by
        cases hq : S.fitsB with
        | false => rfl
        | true => have := fitB hq; omega
      have := HZ.out
      rw [hf] at this
      exact this
    subst hzc
    have g7x : ((64 : Int) < (S.totals.length : Int)) := by omega
    go_wp2_with fail
    simp [bodyPost, results, Tryz.results13, go_sem]
    rw [← HH.out]
    exact K0.out.low
  have g7x : ¬ ((64 : Int) < (S.totals.length : Int)) := by omega
  have hfit : S.fitsB = true := by
    unfold StatM.fitsB
    rw [decide_eq_true g0, decide_eq_true g1, decide_eq_true g2, decide_eq_true g3, decide_eq_true g4, decide_eq_true g5, decide_eq_true g6, decide_eq_true g7]
    rfl
  have HZ1 : Hid (firstE 0 S.items = z) := by
    have := HZ.out
    rw [hfit] at this
    exact this
  go_upto_region 4 with fail
  have hA2 : Below w0.heap.size w0 (w0.alloc (.cells #[.int .i64 (S.kinds.length : Nat), .int .i64 (S.members.length : Nat), .int .i64 (S.preds.length : Nat), .int .i64 (S.classes.length : Nat), .int .i64 (S.sources.length : Nat), .int .i64 (S.rules.length : Nat), .int .i64 (S.excepts.length : Nat), .int .i64 (S.totals.length : Nat)] 3)) := (Below.refl _ w0).alloc (Nat.le_refl _) _
  have K2 := hide (K0.out.below hA2)
  have HBQ := hide (heap_alloc_new w0 (.cells #[.int .i64 (S.kinds.length : Nat), .int .i64 (S.members.length : Nat), .int .i64 (S.preds.length : Nat), .int .i64 (S.classes.length : Nat), .int .i64 (S.sources.length : Nat), .int .i64 (S.rules.length : Nat), .int .i64 (S.excepts.length : Nat), .int .i64 (S.totals.length : Nat)] 3))
  clear hA2 K0 c0 c1 c2 c3 c4 c5 c6 c7 c8 g0 g0x g1 g1x g2 g2x g3 g3x g4 g4x g5 g5x g6 g6x g7 g7x HZ
  generalize w0.alloc (.cells #[.int .i64 (S.kinds.length : Nat), .int .i64 (S.members.length : Nat), .int .i64 (S.preds.length : Nat), .int .i64 (S.classes.length : Nat), .int .i64 (S.sources.length : Nat), .int .i64 (S.rules.length : Nat), .int .i64 (S.excepts.length : Nat), .int .i64 (S.totals.length : Nat)] 3) = w2 at *
  generalize w0.heap.size = Q at *
  have LW : Hid (∀ Y, Below w2.heap.size w2 Y → Below w.heap.size w Y) := hide fun Y hY => by
    have := (K2.out.below hY).low
    rw [HH.out] at this
    exact this
  have HFIT := hide hfit
  clear hfit
  go_wp2_with fail
  go_loopw [5, 6] (fun a b wr => ∃ k : Nat, k ≤ 8 ∧ b = .int .i64 k ∧ a = .int .i64 ((pre8 S k).length : Nat) ∧ Hid (Below w2.heap.size w2 wr) ∧ Hid (AllOk (pre8 S k))) (fun _ b _ => 8 - (intOf b).toNat)
  case atStart => exact ⟨0, by omega, rfl, rfl, hide (Below.refl _ _), hide AllOk.nil⟩
  case round =>
    obtain ⟨k, hk, rfl, rfl, HK, HOK⟩ := hrel
    by_cases hk8 : k < 8
    case neg =>
      have hk' : k = 8 := by omega
      subst hk'
      have hzc : (0, (pre8 S 8).length) = z := by
        have := HZ1.out
        rw [← pre8_items, firstE_ok HOK.out, Nat.zero_add] at this
        exact this
      subst hzc
      clear hk8
      go_wp2_with fail
      simp [bodyPost, results, Tryz.results13, go_sem]
      exact LW.out _ HK.out
    have hk8' : (k : Int) < 8 := by omega
    obtain ⟨np, hnp⟩ : ∃ np, (pre8 S k).length = np := ⟨_, rfl⟩
    obtain ⟨m, hm⟩ : ∃ m, (grp S k).length = m := ⟨_, rfl⟩
    have HNP := hide hnp
    have HM := hide hm
    have HBD : Hid (∀ n, n ≤ m → np + n ≤ 2000) := hide fun n hn => by rw [← hnp]; exact pre8_le S HFIT.out hk8 (by rw [hm]; exact hn)
    rw [hnp]
    clear hnp hm
    go_upto_region 8 with fail
    go_wp2_with fail
    rename World => wk
    go_loopw [5, 7] (fun a b wr => ∃ n : Nat, n ≤ m ∧ b = .int .i64 n ∧ a = .int .i64 ((np + n : Nat) : Int) ∧ Hid (Below w2.heap.size w2 wr) ∧ Hid (AllOk ((grp S k).take n))) (fun _ b _ => m - (intOf b).toNat)
    case atStart => exact ⟨0, by omega, rfl, by simp, HK, hide (by rw [List.take_zero]; exact AllOk.nil)⟩
    case round =>
      clear HK
      obtain ⟨n, hn, rfl, rfl, HK, HTK⟩ := hrel
      have hbd := HBD.out n hn
      have cq := grp_cell (S := S) (Y := wr) (q := Q) ((HK.out.block _ (loc_lt HBQ.out)).trans HBQ.out) hk8
      rw [HM.out] at cq
      obtain ⟨c0, c1, c2, c3, c4, c5, c6, c7, c8, cf⟩ := (K2.out.below HK.out).cells
      simp only at c0 c1 c2 c3 c4 c5 c6 c7 c8
      clear cf
      by_cases hnm : n < m
      · have hnm' : (n : Int) < (m : Int) := by omega
        obtain ⟨o, ho, hnz, CI⟩ := ritem_any (K2.out.below HK.out).sr HFIT.out hk8 (by rw [HM.out]; exact hnm) HOK.out
        have CI2 := hide CI
        have HO := hide ho
        have HNZ := hide hnz
        unfold St9.agg at CI2
        simp only at CI2
        clear CI ho hnz
        go_upto_region 12 with (go_at_call 21; refine CI2.out.mono ?_; rintro _ w5 ⟨rfl, hb5⟩)
        have HK5 := hide (HK.out.trans (hb5.mono HK.out.size))
        generalize hec : erc o = ec at *
        clear hb5 CI2 cq c0 c1 c2 c3 c4 c5 c6 c7 c8
        cases o with
        | error c =>
          have hec1 : c = ec := hec
          subst hec1
          have hzc : (c, np + n) = z := by
            have := HZ1.out
            obtain ⟨q, hq⟩ := pre8_split S hk8
            rw [hq, firstE_bad ((Bad1.right HOK.out ⟨HTK.out, HO.out⟩).left) 0, Nat.zero_add, HNP.out] at this
            exact this
          subst hzc
          have hbc : (c == 0) = false := beq_eq_false_iff_ne.2 (HNZ.out c rfl)
          clear hec
          go_wp2_with fail
          simp [bodyPost, results, Tryz.results13, go_sem]
          exact LW.out _ HK5.out
        | ok u =>
          have hec1 : 0 = ec := hec
          subst hec1
          clear hec
          have HT2 := hide (HTK.out.snoc HO.out rfl)
          go_wp2_with fail
          go_roundw
          case rel => exact ⟨n + 1, by omega, by go_num, by go_num, HK5, HT2⟩
          case measure => simp [intOf]; omega
      · have hn' : n = m := by omega
        have HOK2 : Hid (AllOk (pre8 S (k + 1))) := by
          have h1 := HTK.out
          rw [hn', ← HM.out, List.take_length] at h1
          exact hide (HOK.out.app h1)
        have HLN : Hid ((pre8 S (k + 1)).length = np + n) := by
          show Hid ((pre8 S k ++ grp S k).length = np + n)
          rw [List.length_append, HNP.out, HM.out, hn']
          exact hide rfl
        have hnm' : ¬ (n : Int) < (m : Int) := by omega
        clear hn'
        go_wp2_with fail
        go_roundw
        case rel => exact ⟨k + 1, by omega, by go_num, by rw [HLN.out], HK, HOK2⟩
        case measure => simp [intOf]; omega
end
end Go.Proofs.YtbdlgglbcaoakaaGreat
