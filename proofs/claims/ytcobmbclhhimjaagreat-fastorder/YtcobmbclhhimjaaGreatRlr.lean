/- A region that draws its order and ends in a call that writes, within a round. -/
import Derived.Test.YtcobmbclhhimjaaGreatFsC
namespace Go.Proofs.YtcobmbclhhimjaaGreat.Fa
open Go.RowKit Go.Shelf

def noDefer (L : List Oper) : Bool := L.all fun o => match o.op with
  | .defer _ => false
  | _ => true
theorem oper_in {P : Program} {n l : Nat} {o : Oper} {a : Act} {w : World} {K : Act → World → Prop} {Q : Exit → Act → World → Prop} (hd : ∀ c, o.op ≠ .defer c) (h : o.wp P a w K Q) : o.wpIn (Fence.wide.inRound l) n P a w K Q := by
  unfold Oper.wp at h
  unfold Oper.wpIn
  refine ⟨fun f _ => trivial, ?_⟩
  rw [Oper.semAt_eq _ _ _ hd]
  generalize (execOp a.eval o).run P w = r at *
  cases r with
  | ok x w' =>
    cases x
    case value v => exact h
    case skip => exact h
    case defer d => exact h
    case enter f args => exact ⟨fun h => (by cases h), CallsIn.inRound l (callsIn_wide.2 h)⟩
    case row row args =>
      refine ⟨fun h => (by cases h), fun c cs _ => ?_⟩
      obtain ⟨v, w2, r, s⟩ := h c cs
      exact ⟨v, w2, r, stepsIn_wide.2 s⟩
    all_goals exact h.elim
  | halt x w' => cases x <;> exact h
theorem any_in {P : Program} {n l : Nat} {ops : Array Oper} {Q : Exit → Act → World → Prop} (hd : ∀ (i : Nat) o, ops[i]? = some o → ∀ c, o.op ≠ .defer c) (hQ : ¬ LetsOut Q) : ∀ (fuel : Nat) (listed : Array Bool) (a : Act) (w : World), wpAny P .any ops Q fuel listed a w → wpAnyIn (Fence.wide.inRound l) n P .any ops Q fuel listed a w
  | 0, _, _, _, h => h
  | fuel + 1, listed, a, w, h => by
    refine ⟨h.1, fun i hi => ?_⟩
    have h2 := h.2 i hi
    unfold wpOp at h2
    unfold wpOpIn
    cases ho : ops[i]? with
    | none =>
      rw [ho] at h2
      exact any_in hd hQ fuel _ _ _ h2
    | some o =>
      rw [ho] at h2
      simp only at h2 ⊢
      split
      · rename_i hw
        rw [if_pos hw] at h2
        rcases h2 with h2 | h2
        · exact Oper.wpIn_mono (fun a w hk => any_in hd hQ fuel _ a w hk) (oper_in (hd i o ho) h2)
        · exact absurd h2.2 hQ
      · rename_i hw
        rw [if_neg hw] at h2
        exact ⟨fun f _ => trivial, any_in hd hQ fuel _ _ _ h2⟩
/-- A drawn region by its last operation, within a round. -/
theorem region_last_round {P : Program} {n l id : Nat} {Q : Exit → Act → World → Prop} {a : Act} {w : World} {x : Oper} {L : List Oper} (hQ : ¬ LetsOut Q) (hd : noDefer (x :: L) = true) (hm : P.follows .mixedOrders = true) (hp : plainB (x :: L) = true) (hc : coverB .any (x :: L).toArray = true) (hk : backB .any (x :: L).toArray = true)
    (hB : Region.lexB .any ((x :: L).dropLast ++ [hush ((x :: L).getLast (List.cons_ne_nil _ _))]).toArray = true)
    (h : wpQuiet P ((x :: L).dropLast ++ [hush ((x :: L).getLast (List.cons_ne_nil _ _))]).toArray (fun w' => ∃ n, w' = w.drewN n) (fun a' => ∀ w', (∃ n, w' = w.drewN n) → wpList P #[(x :: L).getLast (List.cons_ne_nil _ _)] Q [(x :: L).getLast (List.cons_ne_nil _ _)] a' w') (x :: L).dropLast a) : (Code.region id (x :: L).toArray true).wpIn (Fence.wide.inRound l) n P Q a w := by
  have e := List.dropLast_concat_getLast (List.cons_ne_nil x L)
  refine wpIn_region_any hm (any_in (fun i o hi c e => ?_) hQ _ _ _ _ ?_)
  · have hi' : (x :: L)[i]? = some o := by simpa using hi
    have := List.all_eq_true.1 hd o (List.mem_of_getElem? hi')
    rw [e] at this
    cases this
  · generalize hl : (x :: L).dropLast = ll at *
    generalize ho : (x :: L).getLast (List.cons_ne_nil _ _) = o at *
    rw [← e] at hp hc hk ⊢
    have hB2 := hB
    simp only [Region.lexB, Bool.and_eq_true] at hB2
    have hq : wpQuiet P (ll ++ [hush o]).toArray (fun w' => ∃ n, w' = w.drewN n) (fun a' => ∀ w', (∃ n, w' = w.drewN n) → wpList P #[o] Q [o] a' w') (ll ++ [hush o]) a := by
      have key : ∀ (k : List Oper) (a : Act), wpQuiet P (ll ++ [hush o]).toArray (fun w' => ∃ n, w' = w.drewN n) (fun a' => ∀ w', (∃ n, w' = w.drewN n) → wpList P #[o] Q [o] a' w') k a → wpQuiet P (ll ++ [hush o]).toArray (fun w' => ∃ n, w' = w.drewN n) (fun a' => ∀ w', (∃ n, w' = w.drewN n) → wpList P #[o] Q [o] a' w') (k ++ [hush o]) a := by
        intro k
        induction k with
        | nil =>
          intro a hq
          have hg : o.guard = none := plain_last hp
          show wpQuiet P _ _ _ (hush o :: []) a
          unfold wpQuiet
          rw [if_pos (wanted_none (show (hush o).guard = none from hg))]
          exact ⟨undef, fun _ _ => ⟨rfl, rfl⟩, hq⟩
        | cons x k ihk =>
          intro a hq
          show wpQuiet P _ _ _ (x :: (k ++ [hush o])) a
          unfold wpQuiet at hq ⊢
          by_cases hw : Region.wanted x (yielded (ll ++ [hush o]).toArray a.tmps) = true
          · rw [if_pos hw] at hq ⊢
            exact Oper.quiet_mono (fun a' h' => ihk a' h') hq
          · rw [if_neg hw] at hq ⊢
            exact ihk _ hq
      exact key ll a h
    have hQ2 := wpAnyQ_lex (P := P) (C := fun w' => ∃ n, w' = w.drewN n) (md := .any) hB2.1 (ll ++ [hush o]) 0 (Array.replicate (ll ++ [hush o]).toArray.size false) a (by simp) (by simpa using hB2.2) hq
    have hsz : (ll ++ [o]).toArray.size = ll.length + 1 := by simp
    have := wpAny_last (Q := Q) hp hc hk (ll.length + 1) (Array.replicate (ll.length + 1) false) a { w with drawn := w.drawn + 1 } (C := fun w' => ∃ n, w' = w.drewN n) ⟨1, rfl⟩ (by simp) (fun j x hx hl => by
      exfalso
      by_cases hj : j < ll.length + 1
      · simp [hj] at hl
      · simp [hj] at hl) (by simp) (by simpa using hQ2)
    rw [hsz]
    exact this
end Go.Proofs.YtcobmbclhhimjaaGreat.Fa
