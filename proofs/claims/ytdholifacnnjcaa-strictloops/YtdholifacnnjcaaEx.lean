/- The page's example: plainly, and in memory; SameInts, num. -/
import Derived.Test.YtdholifacnnjcaaLpw
namespace Go.Proofs.Ytdholifacnnjcaa
open Go.RowKit

theorem RR.blk {α : Type} {N k : Nat} {c : World → α → List Value → Prop} {w : World} {l : List α} {g T cap : Nat} {vs : List Value} (hg : Fx g T vs w) (hN : g < N) (hcap : l.length ≤ cap) (hlim : l.length ≤ 140737488351232)
    (hc : ∀ i x, l[i]? = some x → ∃ xs, xs.length = k ∧ (∀ j u, xs[j]? = some u → vs[i * k + j]? = some u) ∧ c w x xs) : RR N k c w l (.slice (some ⟨g, 0, none⟩) l.length cap) := by
  refine ⟨_, cap, rfl, hcap, hlim, fun i x hi => ?_⟩
  obtain ⟨xs, h1, h2, h3⟩ := hc i x hi
  exact ⟨g, 0, xs, rfl, hN, h1, fun j u hu => by rw [Nat.zero_add]; exact hg.get (h2 j u hu), h3⟩
theorem RR.none {α : Type} {N k : Nat} {c : World → α → List Value → Prop} {w : World} : RR N k c w [] (.slice .none 0 0) := ⟨_, _, rfl, Nat.le_refl _, Nat.zero_le _, fun i x hi => by simp at hi⟩
theorem one_at {vs : List Value} {i : Nat} {x : Value} (h : vs[i]? = some x) : ∀ j u, [x][j]? = some u → vs[i * 1 + j]? = some u := by
  intro j u hu
  match j, hu with
  | 0, hu => simp at hu; subst hu; simpa using h
theorem Ints.blk {N g T : Nat} {w : World} {l : List Int} (hg : Fx g T (ints l) w) (hN : g < N) (hlim : l.length ≤ 140737488351232) : Ints N w l (.slice (some ⟨g, 0, none⟩) l.length l.length) :=
  RR.blk hg hN (Nat.le_refl _) hlim fun i x hi => ⟨[.int .i64 x], rfl, one_at (by unfold ints; rw [List.getElem?_map, hi]; rfl), rfl⟩
theorem Lists.blk {N g T : Nat} {w : World} {l : List (List Int)} {vs : List Value} (hg : Fx g T vs w) (hN : g < N) (hlim : l.length ≤ 140737488351232) (hc : ∀ (i : Nat) x, l[i]? = some x → ∃ v, vs[i]? = some v ∧ Ints N w x v) : Lists N w l (.slice (some ⟨g, 0, none⟩) l.length l.length) :=
  RR.blk hg hN (Nat.le_refl _) hlim fun i x hi => by
    obtain ⟨v, h1, h2⟩ := hc i x hi
    exact ⟨[v], rfl, one_at h1, v, rfl, h2⟩
set_option maxRecDepth 100000 in
set_option maxHeartbeats 3200000 in
theorem sameInts_yes {l : List Int} {a b : Option Addr} {c d : Nat} {w : World} (ha : At1 w a (ints l)) (hb : At1 w b (ints l)) (hl : l.length ≤ 140737488351232) :
    Calls Try.prog 16 #[.slice a l.length c, .slice b l.length d] w fun e w' => e = .returned (.bool true) ∧ Below w.heap.size w w' := by
  have HA := hide ha
  have HB := hide hb
  clear ha hb
  go_enter Try.func16, Try.ntmps16
  go_wp2_with fail
  go_loopw [5] (fun x wr => ∃ k q : Nat, k ≤ l.length ∧ x = .int .i64 k ∧ wr = w.drewN q) (fun x _ => l.length - (intOf x).toNat)
  case atStart => exact ⟨0, 0, by omega, rfl, rfl⟩
  case round =>
    obtain ⟨k, q, hk, rfl, rfl⟩ := hrel
    by_cases hlt : k < l.length
    · obtain ⟨x, hx⟩ := get_at hlt
      obtain ⟨ga, oa, rfl, a0⟩ := HA.out.get hx
      obtain ⟨gb, ob, rfl, b0⟩ := HB.out.get hx
      clear hx
      go_wp2_with fail
      go_quiet (fail)
      go_wp2_with fail
      go_roundw
      case rel => exact ⟨k + 1, _, by omega, by go_num, rfl⟩
      case measure => simp [intOf]; omega
    · go_wp2_with fail
      go_ret
      exact ⟨rfl, below_drewN w q⟩
theorem num_still (w : World) (e : Int) : Calls Try.prog 15 #[.int .i64 e] w fun r w' => r = .returned (.int .i64 e) ∧ w' = w := by
  go_enter Try.func15, Try.ntmps15
  go_wp2_with fail
  go_ret
  exact ⟨rfl, rfl⟩
def exT : Th := ⟨4, [[], [], [], []], [⟨1, 1, [0]⟩, ⟨1, 2, [1]⟩, ⟨1, 3, [3]⟩], [[], [], []]⟩
theorem ex_f0 : faultM exT [0] = 0 := by decide +kernel
theorem ex_f1 : faultM exT [] = 0 := by decide +kernel
theorem ex_pd3 {F : List Int} (hF : (3 : Int) ∉ F) : ¬ PD exT F 3 := by
  have key : ∀ q, PD exT F q → q ≠ 3 := by
    intro q hq
    induction hq with
    | fact h => intro e; subst e; exact hF h
    | rule hr hk hb ih =>
      rename_i r
      have : r = ⟨1, 1, [0]⟩ ∨ r = ⟨1, 2, [1]⟩ ∨ r = ⟨1, 3, [3]⟩ := by simpa [exT] using hr
      rcases this with rfl | rfl | rfl
      · decide
      · decide
      · exact absurd rfl (ih 3 (by simp))
  exact fun h => key 3 h rfl
theorem ex_md3 {F : List Int} : ¬ MD exT F 3 := by
  have key : ∀ q, MD exT F q → q ≠ 3 := by
    intro q hq
    induction hq with
    | mk f h1 h2 h3 ih =>
      intro e
      subst e
      have hb := h2 ⟨1, 3, [3]⟩ (by simp [exT]) rfl rfl
      have hi := ih ⟨1, 3, [3]⟩ (by simp [exT]) rfl rfl
      exact hi (by simpa using hb)
  exact fun h => key 3 h rfl
theorem ex_sg0 : sgM exT [0] = [1, 1, 1, 0] := by
  have p0 : PD exT [0] ((0 : Nat) : Int) := .fact (by simp)
  have p1 : PD exT [0] ((1 : Nat) : Int) := PD.rule (r := ⟨1, 1, [0]⟩) (by simp [exT]) rfl (by intro x hx; simp at hx; rw [hx]; exact p0)
  have p2 : PD exT [0] ((2 : Nat) : Int) := PD.rule (r := ⟨1, 2, [1]⟩) (by simp [exT]) rfl (by intro x hx; simp at hx; rw [hx]; exact p1)
  have n3 : ¬ PD exT [0] ((3 : Nat) : Int) := ex_pd3 (by simp)
  have m3 : ¬ MD exT [0] ((3 : Nat) : Int) := ex_md3
  unfold sgM
  show List.map _ [0, 1, 2, 3] = _
  simp only [List.map_cons, List.map_nil]
  rw [if_pos p0, if_pos p1, if_pos p2, if_neg n3, if_neg m3]
theorem ex_sg1 : sgM exT [] = [2, 2, 2, 0] := by
  have m0 : MD exT [] ((0 : Nat) : Int) := MD.of (by simp) (fun r hr hk he => by
    have : r = ⟨1, 1, [0]⟩ ∨ r = ⟨1, 2, [1]⟩ ∨ r = ⟨1, 3, [3]⟩ := by simpa [exT] using hr
    rcases this with rfl | rfl | rfl <;> simp at he)
  have m1 : MD exT [] ((1 : Nat) : Int) := MD.of (by simp) (fun r hr hk he => by
    have : r = ⟨1, 1, [0]⟩ ∨ r = ⟨1, 2, [1]⟩ ∨ r = ⟨1, 3, [3]⟩ := by simpa [exT] using hr
    rcases this with rfl | rfl | rfl
    · exact ⟨0, by simp, m0⟩
    · simp at he
    · simp at he)
  have m2 : MD exT [] ((2 : Nat) : Int) := MD.of (by simp) (fun r hr hk he => by
    have : r = ⟨1, 1, [0]⟩ ∨ r = ⟨1, 2, [1]⟩ ∨ r = ⟨1, 3, [3]⟩ := by simpa [exT] using hr
    rcases this with rfl | rfl | rfl
    · simp at he
    · exact ⟨1, by simp, m1⟩
    · simp at he)
  have n0 : ¬ PD exT [] ((0 : Nat) : Int) := fun h => pd_md h m0
  have n1 : ¬ PD exT [] ((1 : Nat) : Int) := fun h => pd_md h m1
  have n2 : ¬ PD exT [] ((2 : Nat) : Int) := fun h => pd_md h m2
  have n3 : ¬ PD exT [] ((3 : Nat) : Int) := ex_pd3 (by simp)
  have m3 : ¬ MD exT [] ((3 : Nat) : Int) := ex_md3
  unfold sgM
  show List.map _ [0, 1, 2, 3] = _
  simp only [List.map_cons, List.map_nil]
  rw [if_neg n0, if_pos m0, if_neg n1, if_pos m1, if_neg n2, if_pos m2, if_neg n3, if_neg m3]
theorem ex_sel0 : selM (sgM exT [0]) 1 = [0, 1, 2] := by rw [ex_sg0]; decide +kernel
theorem ex_sel1 : selM (sgM exT []) 2 = [0, 1, 2] := by rw [ex_sg1]; decide +kernel
theorem ex_nx : nxM [2, 2, 2, 0] exT 3 = 3 := by decide +kernel
theorem ex_loop {P : List Int} {q : Int} {seen : List Bool} (h : Lq (sgM exT []) exT exT.lits.toNat 3 P q seen) (hq : q ∈ P) : P ++ [q] = [3, 3] := by
  rw [ex_sg1] at h
  cases P with
  | nil => cases hq
  | cons a P =>
    have ha : a = 3 := by have := h.hd; simpa using this
    subst ha
    cases P with
    | nil =>
      have := h.ch 0 3 q (by simp) (by simp)
      rw [ex_nx] at this
      rw [this]
      rfl
    | cons b P =>
      have := h.ch 0 3 b (by simp) (by simp)
      rw [ex_nx] at this
      subst this
      have := h.nd
      simp at this
section
variable {w : World} {fa ra ba ea : Option Addr} {ec : Nat}
abbrev exV (fa ra ba : Option Addr) : Value := .agg #[.int .i64 4, .slice fa 4 4, .slice ra 3 3, .slice ba 3 3]
theorem ex_plus (h : TA w.heap.size w exT fa 4 ra 3 ba 3) (hF : Ints w.heap.size w [0] (.slice ea 1 ec)) :
    Calls Try.prog 8 #[.agg #[.int .i64 4, .slice fa 4 4, .slice ra 3 3, .slice ba 3 3], .slice ea 1 ec] w fun e w' => ∃ xa xc, e = .returned (.tuple #[.slice xa 3 xc, .int .i64 0]) ∧ At1 w' xa (ints [0, 1, 2]) ∧ Below w.heap.size w w' := by
  refine Calls.mono (plus_any (T := exT) (F := [0]) h hF) ?_
  rintro e w' ⟨(⟨h0, rfl⟩ | ⟨h0, xa, xc, rfl, ho⟩), hw⟩
  · exact absurd ex_f0 h0
  · rw [ex_sel0] at ho ⊢
    exact ⟨xa, xc, rfl, owns_at1 ho, hw⟩
theorem ex_minus (h : TA w.heap.size w exT fa 4 ra 3 ba 3) :
    Calls Try.prog 9 #[.agg #[.int .i64 4, .slice fa 4 4, .slice ra 3 3, .slice ba 3 3], .slice none 0 0] w fun e w' => ∃ xa xc, e = .returned (.tuple #[.slice xa 3 xc, .int .i64 0]) ∧ At1 w' xa (ints [0, 1, 2]) ∧ Below w.heap.size w w' := by
  refine Calls.mono (minus_any (T := exT) (F := []) h RR.none) ?_
  rintro e w' ⟨(⟨h0, rfl⟩ | ⟨h0, xa, xc, rfl, ho⟩), hw⟩
  · exact absurd ex_f1 h0
  · rw [ex_sel1] at ho ⊢
    exact ⟨xa, xc, rfl, owns_at1 ho, hw⟩
theorem ex_three (h : TA w.heap.size w exT fa 4 ra 3 ba 3) :
    Calls Try.prog 13 #[.agg #[.int .i64 4, .slice fa 4 4, .slice ra 3 3, .slice ba 3 3], .slice none 0 0, .int .i64 3] w fun e w' => ∃ xa xc, e = .returned (.tuple #[.slice xa 2 xc, .int .i64 0]) ∧ At1 w' xa (ints [3, 3]) ∧ Below w.heap.size w w' := by
  refine Calls.mono (loop_any (T := exT) (F := []) (lit := 3) h RR.none) ?_
  rintro e w' ⟨(⟨h0, rfl⟩ | ⟨h0, h1, rfl⟩ | ⟨h0, h1, h2, rfl⟩ | ⟨h0, h1, h2, P, q, seen, xa, xc, rfl, hlq, hq, ho⟩), hw⟩
  · exact absurd ex_f1 h0
  · exact absurd (by decide) h1
  · exact absurd (by rw [ex_sg1]; rfl) h2
  · rw [ex_loop hlq hq] at ho ⊢
    exact ⟨xa, xc, rfl, owns_at1 ho, hw⟩
end
end Go.Proofs.Ytdholifacnnjcaa
