/- Which schema prevails, plainly; the judge in memory. -/
import Derived.Test.YtbdlgglbcaoakaaGreatIt8
import Derived.Maps.OwnSet
namespace Go.Proofs.YtbdlgglbcaoakaaGreat
open Go.RowKit Go.Shelf Go.Maps Go.WideMaps

/-- The ranks by the sources' names; the exceptions that are declared. -/
def rkD (l : List (Bytes × Int)) : DataW Unit := l.foldl (fun D p => D.put (.string p.1) (.lit (.int .i64 p.2))) (.map [])
def exD (l : List (Bytes × Bytes)) : DataW Unit := l.foldl (fun D p => D.put (.string (keyE p)) (.agg [])) (.map [])
theorem rkD_snoc {l : List (Bytes × Int)} {p : Bytes × Int} : rkD (l ++ [p]) = (rkD l).put (.string p.1) (.lit (.int .i64 p.2)) := by unfold rkD; rw [List.foldl_append]; rfl
theorem exD_snoc {l : List (Bytes × Bytes)} {p : Bytes × Bytes} : exD (l ++ [p]) = (exD l).put (.string (keyE p)) (.agg []) := by unfold exD; rw [List.foldl_append]; rfl
def rkV (l : List (Bytes × Int)) (s : Bytes) : Int := match (rkD l).atKey (.string s) (.lit (.int .i64 0)) with | .lit (.int _ c) => c | _ => 0
def exB (l : List (Bytes × Bytes)) (x : Bytes × Bytes) : Bool := Maps.has (exD l) (.string (keyE x))
/-- By what one prevails over another. -/
def wgM (ab ba : Bool) (ra rb da db : Int) : Int := if ab then 1 else if ba then 0 else if rb < ra then 2 else if ra = rb ∧ db < da then 3 else 0
def noLit : LitM := ⟨false, [], [], false, 0⟩
def noRule : RuleM := ⟨[], [], 0, 0, [], 0, noLit⟩
def StatM.weighM (S : StatM) (a b : Nat) : Int :=
  let x := S.rules.getD a noRule
  let y := S.rules.getD b noRule
  wgM (exB S.excepts (x.name, y.name)) (exB S.excepts (y.name, x.name)) (rkV S.sources x.source) (rkV S.sources y.source) x.day y.day
/-- A judge in memory. -/
structure Jd (J bR bE bA nR nE : Nat) (rv : Value) (src : List (Bytes × Int)) (exc : List (Bytes × Bytes)) (w : World) : Prop where
  bx : w.heap[J]? = some (.cells #[rv, .map (some bR), .map (some bE), .map (some bA)] 71 (0, 0))
  mR : w.ownsMap (H := Unit) Tryz.prog 9 (plainElem Tryz.prog 3) bR nR (rkD src)
  mE : w.ownsMap (H := Unit) Tryz.prog 41 unitElem bE nE (exD exc)
  mA : w.ownsMap (H := Unit) Tryz.prog 76 (plainElem Tryz.prog 77) bA 0 (.map [])
  ne : bR ≠ bE ∧ bR ≠ bA ∧ bE ≠ bA
section
variable {J bR bE bA nR nE : Nat} {rv : Value} {src : List (Bytes × Int)} {exc : List (Bytes × Bytes)} {w w' : World}
theorem Jd.keep (h : Jd J bR bE bA nR nE rv src exc w) (hk : ∀ k, (k = J ∨ k = bR ∨ k = bE ∨ k = bA) → w'.heap[k]? = w.heap[k]?) : Jd J bR bE bA nR nE rv src exc w' :=
  ⟨(hk _ (.inl rfl)).trans h.bx, map_keep h.mR (hk _ (.inr (.inl rfl))), map_keep h.mE (hk _ (.inr (.inr (.inl rfl)))), map_keep h.mA (hk _ (.inr (.inr (.inr rfl)))), h.ne⟩
theorem map_cells {P : Program} {k : TypeId} {R : Value → Option (DataW Unit × List MemPlace)} {b n g : Nat} {D : DataW Unit} {cs : Array Value} {T : Nat} {fr : Nat × Nat} (h : w.ownsMap P k R b n D) (hg : w.heap[g]? = some (.cells cs T fr)) : g ≠ b := by
  obtain ⟨es, c, h1, _⟩ := h
  intro e
  rw [e, h1] at hg
  cases hg
theorem Jd.low (h : Jd J bR bE bA nR nE rv src exc w) : J < w.heap.size ∧ bR < w.heap.size ∧ bE < w.heap.size ∧ bA < w.heap.size := by
  refine ⟨?_, h.mR.lt, h.mE.lt, h.mA.lt⟩
  apply Classical.byContradiction
  intro hn
  have := h.bx
  rw [Array.getElem?_eq_none (by omega)] at this
  cases this
theorem Jd.go (h : Jd J bR bE bA nR nE rv src exc w) (hb : Below w.heap.size w w') : Jd J bR bE bA nR nE rv src exc w' := by
  obtain ⟨l1, l2, l3, l4⟩ := h.low
  refine h.keep fun k hk => hb.block k ?_
  rcases hk with e | e | e | e <;> omega
theorem Jd.addR (h : Jd J bR bE bA nR nE rv src exc w) (hg : w.grownBy w' (some bR)) {p : Bytes × Int} (ho : w'.ownsMap (H := Unit) Tryz.prog 9 (plainElem Tryz.prog 3) bR (nR + 1) ((rkD src).put (.string p.1) (.lit (.int .i64 p.2)))) : Jd J bR bE bA (nR + 1) nE rv (src ++ [p]) exc w' := by
  obtain ⟨l1, l2, l3, l4⟩ := h.low
  refine ⟨(hg.block J l1 fun e => map_cells h.mR h.bx (by cases e; rfl)).trans h.bx, by rw [rkD_snoc]; exact ho, h.mE.kept hg fun e => h.ne.1 (by cases e; rfl), h.mA.kept hg fun e => h.ne.2.1 (by cases e; rfl), h.ne⟩
theorem Jd.addX (h : Jd J bR bE bA nR nE rv src exc w) (hg : w.grownBy w' (some bE)) {p : Bytes × Bytes} (ho : w'.ownsMap (H := Unit) Tryz.prog 41 unitElem bE (nE + 1) ((exD exc).put (.string (keyE p)) (.agg []))) : Jd J bR bE bA nR (nE + 1) rv src (exc ++ [p]) w' := by
  obtain ⟨l1, l2, l3, l4⟩ := h.low
  refine ⟨(hg.block J l1 fun e => map_cells h.mE h.bx (by cases e; rfl)).trans h.bx, h.mR.kept hg fun e => h.ne.1 (by cases e; rfl), by rw [exD_snoc]; exact ho, h.mA.kept hg fun e => h.ne.2.2 (by cases e; rfl), h.ne⟩
end
/-- A rank looked up. -/
theorem look_R {w : World} {b n : Nat} {l : List (Bytes × Int)} (hm : w.ownsMap (H := Unit) Tryz.prog 9 (plainElem Tryz.prog 3) b n (rkD l)) (s : Bytes) (hs : s.length ≤ maxLen) : (Instr.lookup 67 (.map (some b)) (.string ⟨s.toArray⟩) false).run Tryz.prog w = .ok (.int .i64 (rkV l s)) w := by
  obtain ⟨c, hrun, hat, _⟩ := hm.lookup_int law Tryz.underlying67 Tryz.underlying3 (Tryz.zeroValue3 _) (key_mk hs)
  have : rkV l s = c := by unfold rkV; rw [hat]
  rw [this]
  exact hrun
theorem zeroU (w : World) : (zeroValue 74).run Tryz.prog w = .ok (.agg #[]) w := by kernel_rfl
/-- An exception looked up. -/
theorem look_X {w : World} {b n : Nat} {l : List (Bytes × Bytes)} (hm : w.ownsMap (H := Unit) Tryz.prog 41 unitElem b n (exD l)) (x : Bytes × Bytes) (h1 : x.1.length ≤ maxLen) (h2 : x.2.length ≤ maxLen) : (Instr.lookup 68 (.map (some b)) (.agg #[str x.1, str x.2]) true).run Tryz.prog w = .ok (.tuple #[.agg #[], .bool (exB l x)]) w := by
  obtain ⟨v, ps, hrun, hv⟩ := hm.look_ok lawE Tryz.underlying68 (zeroU w) (zd := .agg []) (zp := []) unitElem_mk (keyE_mk h1 h2)
  obtain ⟨rfl, _⟩ := unitElem_inv hv
  exact hrun
end Go.Proofs.YtbdlgglbcaoakaaGreat
