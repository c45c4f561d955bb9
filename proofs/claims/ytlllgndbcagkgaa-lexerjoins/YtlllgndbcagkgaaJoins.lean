/-
  LexerJoins (P4.2), at every input: for any tokens the call returns true (Join and Text answer what the page says, the tokens stay, the page's examples are so), and the argument reads afterwards as it read before. No condition.
-/
import Derived.Test.YtlllgndbcagkgaaRows
import Derived.Test.YtlllgndbcagkgaaJoinsWalk
import Derived.WalkKit
import Derived.ProofKit
import Derived.OpenShut
import Derived.ChangeOld
import Derived.SizedLaws
import Derived.Deep.Strs
import Derived.Deep.Slices
namespace Go.Proofs.Ytlllgndbcagkgaa
open Go.ChangeShapes Go.WideShapes Go.ChangeAt Go.RowKit Go.Deep

theorem joins_own : ownKnob Try.prog.godebug = none := by kernel_rfl
theorem joins_laid : laidOutB Try.prog = true := by kernel_rfl
theorem bytes47 : Try.prog.bytesOf 47 = 32 := by kernel_rfl
theorem cells47 : Try.prog.cellsOf 47 = 3 := by kernel_rfl
theorem cells45 : Try.prog.cellsOf 45 = 1 := by kernel_rfl
theorem cells9 : Try.prog.cellsOf 9 = 1 := by kernel_rfl
theorem cells3 : Try.prog.cellsOf 3 = 1 := by kernel_rfl

/-- A token's data. -/
def ofD {H : Type} : DataW H → ATok
  | .agg [.lit (.int _ k), .lit (.string l), .lit (.int _ p)] => ⟨k, ⟨l.toArray⟩, p⟩
  | _ => ⟨0, ⟨#[]⟩, 0⟩

theorem mem_weightsAll {H : Type} {P : Program} {e : TypeId} : ∀ {ds : List (DataW H)} {d : DataW H} {n : Nat}, d ∈ ds → n ∈ d.weights P e → n ∈ DataW.weightsAll P e ds := by
  intro ds
  induction ds with
  | nil => intro d n h; simp at h
  | cons x r ih =>
    intro d n h hn
    simp only [DataW.weightsAll, List.mem_append]
    rcases List.mem_cons.1 h with e1 | e1
    · subst e1; exact .inl hn
    · exact .inr (ih e1 hn)

/-- A slice of tokens among the arguments. -/
theorem arg_tokens {H : Type} {enc : TypeId × Value → H} {W : World} {base : Nat} {ts : List TypeId} {ds : List (DataW H)} {j : Nat} {v : Value} {d : DataW H} {p : List MemPlace}
    (hv : Value.okWide Try.prog W .any base 22 v) (h : DataW.Trod enc Try.prog W 0 (fun _ => true) true 22 v d p) (hsz : (DataW.weightsEach Try.prog ts ds).all (· ≤ reachBytes) = true) (ht : ts[j]? = some 22) (hd : ds[j]? = some d) :
    ∃ a cap A, v = .slice a A.length cap ∧ A.length ≤ 4398046510976 ∧ (∀ t ∈ A, t.tx.size ≤ 140737488351232) ∧ RowA W a A := by
  obtain ⟨a, len, cap, rfl⟩ := okWide_slice Try.underlying22 hv
  obtain ⟨fuel, hf⟩ := h
  rcases open_slice Try.underlying22 hf with ⟨hcs, _⟩ | ⟨x, l, c, m, n, D, Pl, hcs, _, hl, hm, hmm, hx, hel⟩
  · simp [Value.cells] at hcs
    obtain ⟨rfl, rfl, rfl⟩ := hcs
    exact ⟨none, 0, [], rfl, by simp, by simp, fun j t hj => by simp at hj⟩
  · simp [Value.cells] at hcs
    obtain ⟨rfl, rfl, rfl⟩ := hcs
    simp only [Prod.mk.injEq] at hx
    obtain ⟨hx1, _⟩ := hx
    have hm2 : m = cap := by simpa using hmm
    have hs := sized_slice hsz ht (by rw [hd, hx1]) Try.underlying22
    rw [bytes47] at hs
    simp only [List.length_map, List.length_range, reachBytes] at hs
    -- each element
    have each : ∀ i, i < len → ∃ k s q, D i = .agg [.lit (.int .i64 k), .lit (.string s.data.toList), .lit (.int .i64 q)] ∧ (∀ t, t < 3 → W.cell? ((x.add (i * 3)).add t) = ([Value.int .i64 k, .string s, .int .i64 q] : List Value)[t]?) := by
      intro i hi
      obtain ⟨cs', h1, h2⟩ := hel i (by omega)
      rw [cells47] at h1
      obtain ⟨_, hlen, hcell⟩ := World.cells?_some h1
      obtain ⟨y0, y1, y2, n', e0, _, t0, t1, t2⟩ := trod_struct3 Try.underlying47 h2
      match cs', hlen with
      | [u0, u1, u2], _ =>
        simp only [cells45, cells9, cells3, List.drop_zero, List.drop_succ_cons, List.take_succ_cons, List.take_zero] at t0 t1 t2
        obtain ⟨k, hk1, hk2, _⟩ := DataW.trod_int Try.underlying45 t0
        obtain ⟨s, hs1, hs2, _⟩ := DataW.trod_string Try.underlying9 t1
        obtain ⟨q, hq1, hq2, _⟩ := DataW.trod_int Try.underlying3 t2
        simp only [List.cons.injEq, and_true] at hk1 hs1 hq1
        subst hk1
        subst hs1
        subst hq1
        refine ⟨k, s, q, ?_, hcell⟩
        have := (Prod.mk.injEq _ _ _ _ ▸ e0).1
        rw [this, hk2, hs2, hq2]
    refine ⟨some x, cap, (List.range len).map fun i => ofD (D i), by simp, by simp; omega, ?_, ?_⟩
    · intro t htm
      obtain ⟨i, hi, rfl⟩ := List.mem_map.1 htm
      have hi' : i < len := by simpa using hi
      obtain ⟨k, s, q, hD, _⟩ := each i hi'
      have hw : s.data.toList.length ∈ DataW.weightsEach Try.prog ts ds := by
        refine DataW.weights_mem_each ht hd _ ?_
        rw [hx1]
        simp only [DataW.weights, Try.underlying22, List.mem_cons, List.mem_append]
        refine .inr (.inl (mem_weightsAll (d := D i) (List.mem_map.2 ⟨i, hi, rfl⟩) ?_))
        rw [hD]
        simp [DataW.weights, Try.underlying47, DataW.weightsEach]
      have := List.all_eq_true.1 hsz _ hw
      rw [hD]
      simp only [reachBytes] at this
      have h3 := of_decide_eq_true this
      rw [Array.length_toList] at h3
      show (⟨s.data.toList.toArray⟩ : ByteArray).size ≤ _
      have e4 : (⟨s.data.toList.toArray⟩ : ByteArray) = s := by simp
      rw [e4]
      exact h3
    · intro i t hi
      rw [List.getElem?_map] at hi
      obtain ⟨i', h1, rfl⟩ := Option.map_eq_some_iff.1 hi
      have hi' : i < len := by
        have := (List.getElem?_eq_some_iff.1 h1).1
        simpa using this
      have e1 : i' = i := by
        have := (List.getElem?_eq_some_iff.1 h1).2
        simpa using this.symm
      subst e1
      obtain ⟨k, s, q, hD, hc⟩ := each i' hi'
      have c0 := hc 0 (by omega)
      have c1 := hc 1 (by omega)
      have c2 := hc 2 (by omega)
      obtain ⟨b, off, spot⟩ := x
      have hspot : spot = none := by
        obtain ⟨_, _, _, _, hc0⟩ := each 0 (by omega)
        have := World.cell?_spot (hc0 0 (by omega))
        simpa [Addr.add] using this
      subst hspot
      rw [Addr.add_lit, Addr.add_lit] at c0 c1 c2
      refine ⟨b, off, rfl, ?_, ?_, ?_⟩
      · rw [hD]; simpa [ofD] using c0
      · rw [hD]; simpa [ofD] using c1
      · rw [hD]; simpa [ofD] using c2

set_option maxRecDepth 100000 in
theorem joins_lifted (os : Os) (started : os.Started) (H : Type) (enc : TypeId × Value → H) :
    ReturnsInHanded {} Try.checked os 4 .any (Rows.lexerJoinsSpec.pre6 enc Try.prog Try.f4 Rows.lexerJoinsRow.domain false) (Rows.lexerJoinsSpec.post enc Try.prog Try.f4 false true false false) := by
  refine returnsInHanded_of_change_sized (C := Try.checked) joins_own started (by kernel_rfl) Try.func4
    (ChangeSpec.witness6 (enc := enc) (C := Try.checked) false ⟨#[], #[.slice none 0 0], []⟩ 8 (by kernel_rfl) (by kernel_rfl) (by kernel_rfl) (by kernel_rfl)) ?_
  intro W base args ds gs before hval0 hW _ hsz0 _
  have hsz : (DataW.weightsEach Try.prog (Try.f4.params.toList ++ Rows.lexerJoinsSpec.plain.varTypes Try.prog) (ds ++ gs)).all (· ≤ reachBytes) = true := hsz0
  have hval : ∀ (j : Nat) t v, Try.f4.params[j]? = some t → args[j]? = some v → Value.okWide Try.prog W .any base t v := hval0
  have hW' := hW
  obtain ⟨p, q, hA0, hV, rfl, _, _⟩ := hW
  have hA : DataW.TrodAll enc Try.prog W 0 (fun _ => true) true Try.f4.params.toList args.toList ds p := hA0
  rw [Try.params4] at hA hval hsz
  obtain ⟨v0, vs0, d0, ds0, p0, q0, hargs, rfl, rfl, h0, r0⟩ := trodAll_cons hA
  obtain ⟨rfl, rfl, rfl⟩ := trodAll_nil r0
  obtain rfl : args = #[v0] := by cases args; simp_all
  obtain ⟨rfl, rfl⟩ := trodVars_none hV
  have k0 := h0
  have lt0 : ∀ x ∈ p0, x.block < W.heap.size := by obtain ⟨m, hm⟩ := k0; exact DataW.trod_lt m _ _ _ hm
  obtain ⟨a, cap, A, rfl, hl, hts, hr⟩ := arg_tokens (hval 0 22 v0 rfl rfl) h0 hsz (j := 0) rfl rfl
  clear hA0 hval0
  refine (joins_walk a cap A W hr hl hts A.length rfl).mono fun e W' ⟨he, bel⟩ => ?_
  subst he
  exact ⟨_, rfl, _, _, _, [], _, [], hW', trodAll_mk1 (shut_bool Try.underlying4 _), (trodAll_cons_mk (Below.trod joins_laid (by kernel_rfl) (of_decide_eq_true (by kernel_rfl)) k0 bel lt0) trodAll_mk0), rfl, bel.frame _, fun h => by cases h⟩

theorem joins_over : Rows.lexerJoinsRow.holds Try.pinned (OpenSpec.ofChange Rows.lexerJoinsSpec) :=
  OpenClaim.holds_of_wide 4 Try.f4 rfl rfl rfl rfl rfl rfl rfl ⟨rfl, rfl, rfl, rfl, rfl⟩ rfl rfl rfl rfl rfl (by kernel_rfl) Try.func4 (by kernel_rfl)
    (of_decide_eq_true (by kernel_rfl)) (by unfold Func.isWrapper; first | (rw [if_pos (by decide +kernel)]; kernel_rfl) | (rw [if_neg (by decide +kernel)]; exact ⟨rfl, rfl⟩))
    (fun os started H enc _ => joins_lifted os started H enc)

/-- LexerJoins holds. -/
theorem lexerJoins_holds : Rows.LexerJoinsSaid := joins_over
#print axioms lexerJoins_holds
end Go.Proofs.Ytlllgndbcagkgaa
