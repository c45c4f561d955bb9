/- The other half: where an order leads down, each knot has one member. No Go in sight. -/
import Derived.Test.YthifoamnmhlghaaNvC
namespace Go.Proofs.Ythifoamnmhlghaa.Fa
open Go.RowKit

section
variable {next : List (List Int)} {N : Nat} {rk : Int → Nat}
def Down (next : List (List Int)) (N : Nat) (rk : Int → Nat) : Prop := ∀ p, Inn N p → ∀ o ∈ row next p, Inn N o ∧ rk o < rk p
theorem Down.nx (h : Down next N rk) : ∀ p, Inn N p → p ∉ row next p ∧ ∀ o ∈ row next p, Inn N o := fun p hp =>
  ⟨fun hm => Nat.lt_irrefl _ (h p hp p hm).2, fun o ho => (h p hp o ho).1⟩
def One (s : Wk) : Prop := ∀ k ∈ s.knots, k.length ≤ 1
theorem others_one (vis : Int → Wk → Wk) (p : Int) (O : List Int) (f : Nat) (hO : ∀ x ∈ O, rk p < rk x)
    (hv : ∀ o s, Iv next N s → Inn N o → cm s o = 0 → un s ≤ f → (∀ x ∈ s.opn, rk o < rk x) → One s → Iv next N (vis o s) ∧ Fm N s (vis o s) ∧ cm (vis o s) o ≠ 0 ∧ (vis o s).opn = s.opn ∧ One (vis o s)) :
    ∀ (l : List Int) (s : Wk), Iv next N s → s.opn = O ++ [p] → bk s p = cm s p → One s → un s ≤ f → (∀ o ∈ l, Inn N o ∧ rk o < rk p) → (othersM vis p l s).opn = O ++ [p] ∧ bk (othersM vis p l s) p = cm (othersM vis p l s) p ∧ One (othersM vis p l s)
  | [], s, _, ho, hb, h1, _, _ => ⟨ho, hb, h1⟩
  | o :: l, s, hi, ho, hb, h1, hu, hl => by
    obtain ⟨oi, ok⟩ := hl o (by simp)
    have hpo : p ∈ s.opn := by rw [ho]; simp
    have hpi := hi.op p hpo
    have hall : ∀ x ∈ s.opn, rk o < rk x := fun x hx => by
      rw [ho] at hx
      rcases List.mem_append.1 hx with h2 | h2
      · exact Nat.lt_trans ok (hO x h2)
      · have e : x = p := by simpa using h2
        rw [e]; exact ok
    obtain ⟨s1, hs1⟩ : ∃ s1, (if s.came.getD o.toNat 0 = 0 then vis o s else s) = s1 := ⟨_, rfl⟩
    have key : Iv next N s1 ∧ Fm N s s1 ∧ cm s1 o ≠ 0 ∧ s1.opn = s.opn ∧ One s1 := by
      rw [← hs1]
      by_cases hc : s.came.getD o.toNat 0 = 0
      · rw [if_pos hc]; exact hv o s hi oi hc hu hall h1
      · rw [if_neg hc]; exact ⟨hi, Fm.refl _ _, hc, rfl, h1⟩
    obtain ⟨k1, k2, k3, k4, k5⟩ := key
    have hsh : s1.shut.getD o.toNat false = true := by
      cases e : sh s1 o with
      | true => exact e
      | false =>
        have := k1.vis o oi k3 e
        rw [k4] at this
        exact absurd (hall o this) (Nat.lt_irrefl _)
    have e : othersM vis p (o :: l) s = othersM vis p l s1 := by
      rw [othersM, hs1]
      unfold lowerM
      rw [if_pos hsh]
    rw [e]
    obtain ⟨a, b⟩ := k2.same p hpi.1 hpi.2.1
    exact others_one vis p O f hO hv l s1 k1 (k4.trans ho) (by rw [a, b]; exact hb) k5 (Nat.le_trans k2.un hu) fun x hx => hl x (by simp [hx])
theorem visit_one (hd : Down next N rk) : ∀ (f : Nat) (p : Int) (s : Wk), Iv next N s → Inn N p → cm s p = 0 → un s ≤ f → (∀ x ∈ s.opn, rk p < rk x) → One s → (visitM next f p s).opn = s.opn ∧ One (visitM next f p s)
  | 0, p, s, h, hp, h0, hu, _, _ => by
    exfalso
    have := (come_iv h hp h0).2.1
    omega
  | f + 1, p, s, h, hp, h0, hu, ho, h1 => by
    obtain ⟨c1, c2, c3, c4, c5⟩ := come_iv h hp h0
    have hbp : bk (comeM p s) p = cm (comeM p s) p := by
      rw [c3]
      show (s.back.set p.toNat (s.clock + 1)).getD p.toNat 0 = _
      rw [getD_set (by rw [h.lb]; exact inn_lt hp), if_pos rfl]
    obtain ⟨r1, r2, r3⟩ := others_one (visitM next f) p s.opn f ho (fun o s' a b c d e g => by
      obtain ⟨x, y, z, -⟩ := visit_iv hd.nx f o s' a b c d
      obtain ⟨u, v⟩ := visit_one hd f o s' a b c d e g
      exact ⟨x, y, z, u, v⟩) (row next p) (comeM p s) c1 rfl hbp h1 (by omega) (fun o hx => hd p hp o hx)
    have ev : visitM next (f + 1) p s = endM p (othersM (visitM next f) p (row next p) (comeM p s)) := rfl
    rw [ev]
    unfold endM
    rw [if_pos (show (othersM (visitM next f) p (row next p) (comeM p s)).back.getD p.toNat 0 = (othersM (visitM next f) p (row next p) (comeM p s)).came.getD p.toNat 0 from r2)]
    have hrev : popM p (othersM (visitM next f) p (row next p) (comeM p s)).opn.reverse = ([p], s.opn.reverse) := by
      rw [r1, List.reverse_append]
      exact pop_at (R := []) (by simp)
    refine ⟨by show (popM p _).2.reverse = _; rw [hrev]; simp, fun k hk => ?_⟩
    have hk2 : k ∈ (othersM (visitM next f) p (row next p) (comeM p s)).knots ++ [[p]] := by
      have : k ∈ (othersM (visitM next f) p (row next p) (comeM p s)).knots ++ [(popM p (othersM (visitM next f) p (row next p) (comeM p s)).opn.reverse).1] := hk
      rw [hrev] at this
      exact this
    rcases List.mem_append.1 hk2 with h2 | h2
    · exact r3 k h2
    · have e : k = [p] := by simpa using h2
      rw [e]; simp
theorem each_one (hd : Down next N rk) (f : Nat) (hf : N ≤ f) : ∀ (k i : Nat) (s : Wk), i + k = N → Iv next N s → s.opn = [] → One s → One (eachM next f k i s)
  | 0, _, _, _, _, _, h1 => h1
  | k + 1, i, s, hi, h, ho, h1 => by
    have hp : Inn N (i : Int) := ⟨by omega, by omega⟩
    have hun : un s ≤ f := by
      unfold un
      have := List.length_filter_le (fun z => decide (z = 0)) s.came
      rw [h.lc] at this
      omega
    by_cases hc : s.came.getD i 0 = 0
    · have hc' : cm s (i : Int) = 0 := by unfold cm; rw [Int.toNat_natCast]; exact hc
      obtain ⟨a, -, -, d⟩ := visit_iv hd.nx f i s h hp hc' hun
      obtain ⟨-, v⟩ := visit_one hd f i s h hp hc' hun (fun x hx => by rw [ho] at hx; cases hx) h1
      rw [eachM, if_pos hc]
      exact each_one hd f hf k (i + 1) _ (by omega) a (d ho) v
    · rw [eachM, if_neg hc]
      exact each_one hd f hf k (i + 1) s (by omega) h ho h1
/-- Where an order leads down, no knot has two members. -/
theorem knots_one (hd : Down next next.length rk) : ∀ k ∈ knotsM next, k.length ≤ 1 :=
  each_one hd next.length (Nat.le_refl _) next.length 0 (startM next.length) (by omega) start_iv rfl fun k hk => by simp [startM] at hk
theorem fold_one : ∀ {ks : List (List Int)} {low : Int}, (∀ k ∈ ks, k.length ≤ 1) → ks.foldl lowM low = low
  | [], _, _ => rfl
  | k :: ks, low, h => by
    rw [List.foldl_cons]
    have h1 := h k (by simp)
    have : lowM low k = low := by unfold lowM; rw [if_neg (by omega)]
    rw [this]
    exact fold_one fun k' hk => h k' (by simp [hk])
end
/-- A theory whose rules beat along an order has no circle. -/
theorem circle_none {T : Th} {rk : Int → Nat} (hd : Down T.beats T.beats.length rk) : circleM T = (0, 0) := by
  unfold circleM lowestM
  rw [fold_one (knots_one hd), if_neg (by omega)]
end Go.Proofs.Ythifoamnmhlghaa.Fa
