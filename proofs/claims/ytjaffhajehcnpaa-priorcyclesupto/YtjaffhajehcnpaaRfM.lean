/- The page's order, plainly; edge. -/
import Derived.Test.YtjaffhajehcnpaaPln
namespace Go.Proofs.Ytjaffhajehcnpaa
open Go.RowKit

def edB (next : List (List Int)) (i : Nat) (b : Int) : Bool := decide (b ∈ next.getD i [])
def eN (next : List (List Int)) (a k : Nat) : Nat := if edB next a (k : Int) then 1 else 0
theorem eN_ed {next : List (List Int)} {a k : Nat} (hk : k < next.length) : eN next a k = 0 ↔ ¬ Ed next a k := by
  unfold eN edB Ed
  by_cases h : (k : Int) ∈ next.getD a []
  · simp only [h, decide_true, if_true, and_true]; omega
  · rw [decide_eq_false h]
    exact ⟨fun _ he => h he.2, fun _ => rfl⟩
theorem eN_le {next : List (List Int)} {a k : Nat} : eN next a k ≤ 1 := by unfold eN; split <;> omega
def cntE (next : List (List Int)) (out : List Nat) (k : Nat) : Nat := ((List.range next.length).map fun a => if a ∈ out then 0 else eN next a k).sum
theorem cntE_snoc {next : List (List Int)} {out : List Nat} {p k : Nat} (hp : p < next.length) (ho : p ∉ out) : cntE next out k = cntE next (out ++ [p]) k + eN next p k := by
  unfold cntE
  refine sum_swap (p := p) (by simpa using hp) List.nodup_range (fun a _ ha => ?_) ?_
  · simp [ha]
  · simp [ho]
theorem free_E {next : List (List Int)} {out : List Nat} {k : Nat} : Free next out k ↔ k < next.length ∧ k ∉ out ∧ cntE next out k = 0 := by
  unfold Free cntE
  rw [sum_zero]
  constructor
  · rintro ⟨h1, h2, h3⟩
    refine ⟨h1, h2, fun a ha => ?_⟩
    by_cases ho : a ∈ out
    · rw [if_pos ho]
    · rw [if_neg ho, eN_ed h1]
      exact fun he => ho (h3 a he)
  · rintro ⟨h1, h2, h3⟩
    refine ⟨h1, h2, fun a he => ?_⟩
    apply Classical.byContradiction
    intro ho
    have := h3 a (by simpa using he.lt)
    rw [if_neg ho, eN_ed h1] at this
    exact this he
/-- While the edges are counted. -/
def OvI (next : List (List Int)) (i j : Nat) (O : List Int) : Prop := O.length = next.length ∧ ∀ k, k < next.length → O.getD k 0 = ((((List.range i).map fun a => eN next a k).sum + if k < j then eN next i k else 0 : Nat) : Int)
theorem sum_le_len {f : Nat → Nat} (h : ∀ a, f a ≤ 1) : ∀ l : List Nat, (l.map f).sum ≤ l.length
  | [] => by simp
  | x :: r => by rw [List.map_cons, List.sum_cons, List.length_cons]; have := h x; have := sum_le_len h r; omega
section
variable {next : List (List Int)} {i j : Nat} {O : List Int}
theorem OvI.start : OvI next 0 0 (List.replicate next.length 0) := ⟨by simp, fun k hk => by simp [List.getD, hk]⟩
theorem OvI.skip (h : OvI next i j O) (he : eN next i j = 0) : OvI next i (j + 1) O := by
  refine ⟨h.1, fun k hk => ?_⟩
  rw [h.2 k hk]
  by_cases e : k = j
  · subst e; rw [if_neg (by omega), if_pos (by omega), he]
  · by_cases h2 : k < j
    · rw [if_pos h2, if_pos (by omega)]
    · rw [if_neg h2, if_neg (by omega)]
theorem OvI.more (h : OvI next i j O) (hj : j < next.length) (he : eN next i j = 1) : OvI next i (j + 1) (O.set j (O.getD j 0 + 1)) := by
  refine ⟨by rw [List.length_set]; exact h.1, fun k hk => ?_⟩
  rw [set_get (by rw [h.1]; exact hj)]
  by_cases e : k = j
  · subst e; rw [if_pos rfl, h.2 k hk, if_neg (by omega), if_pos (by omega), he]; omega
  · rw [if_neg e, h.2 k hk]
    by_cases h2 : k < j
    · rw [if_pos h2, if_pos (by omega)]
    · rw [if_neg h2, if_neg (by omega)]
theorem OvI.row (h : OvI next i next.length O) : OvI next (i + 1) 0 O := by
  refine ⟨h.1, fun k hk => ?_⟩
  rw [h.2 k hk, if_pos hk, if_neg (by omega), List.range_succ, List.map_append, List.sum_append]
  simp
theorem OvI.bound (h : OvI next i j O) {k : Nat} (hk : k < next.length) : 0 ≤ O.getD k 0 ∧ O.getD k 0 ≤ i + 1 := by
  rw [h.2 k hk]
  have h1 := sum_le_len (f := fun a => eN next a k) (fun a => eN_le) (List.range i)
  rw [List.length_range] at h1
  have h2 := eN_le (next := next) (a := i) (k := k)
  split <;> omega
end
/-- What is kept while the page's order is made. -/
structure Ri (next : List (List Int)) (out : List Nat) (O : List Int) (G : List Bool) : Prop where
  lo : O.length = next.length
  lg : G.length = next.length
  kh : Kahn next out
  ca : ∀ k, k < next.length → O.getD k 0 = ((cntE next out k : Nat) : Int)
  go : ∀ k, k < next.length → (G.getD k false = true ↔ k ∈ out)
section
variable {next : List (List Int)} {out : List Nat} {O : List Int} {G : List Bool}
theorem Ri.start (h : OvI next next.length 0 O) : Ri next [] O (List.replicate next.length false) := by
  refine ⟨h.1, by simp, kahn_nil, fun k hk => ?_, fun k hk => by simp [List.getD, hk]⟩
  rw [h.2 k hk, if_neg (by omega)]
  unfold cntE
  simp
theorem Ri.free (h : Ri next out O G) {k : Nat} (hk : k < next.length) : Free next out k ↔ G.getD k false = false ∧ O.getD k 0 = 0 := by
  rw [free_E, h.ca k hk]
  have := h.go k hk
  cases hg : G.getD k false with
  | true =>
    have := this.1 hg
    simp [this]
  | false =>
    have hno : k ∉ out := fun hm => by have := this.2 hm; rw [hg] at this; cases this
    simp [hk, hno]
theorem Ri.none (h : Ri next out O G) (ha : ∀ j, j < next.length → G.getD j false = true ∨ 0 < O.getD j 0) : KMax next out := fun k hf => by
  have := (h.free hf.1).1 hf
  rcases ha k hf.1 with h1 | h1
  · rw [this.1] at h1; cases h1
  · omega
theorem Ri.take (h : Ri next out O G) {p : Nat} (hp : p < next.length) (ha : ∀ j, j < p → G.getD j false = true ∨ 0 < O.getD j 0) (hg : G.getD p false = false) (ho : ¬ 0 < O.getD p 0) : Kahn next (out ++ [p]) ∧ p ∉ out := by
  have h0 : O.getD p 0 = 0 := by have := h.ca p hp; omega
  have hf := (h.free hp).2 ⟨hg, h0⟩
  refine ⟨kahn_snoc h.kh hf fun i hi => ?_, hf.2.1⟩
  apply Classical.byContradiction
  intro hn
  have h1 := (h.free hi.1).1 hi
  rcases ha i (by omega) with h2 | h2
  · rw [h1.1] at h2; cases h2
  · omega
end
/-- While what one names is counted down. -/
def DnO (next : List (List Int)) (out : List Nat) (p j : Nat) (O : List Int) : Prop := O.length = next.length ∧ ∀ k, k < next.length → O.getD k 0 = ((cntE next (out ++ [p]) k + if k < j then 0 else eN next p k : Nat) : Int)
section
variable {next : List (List Int)} {out : List Nat} {p j : Nat} {O : List Int} {G : List Bool}
theorem DnO.start (h : Ri next out O G) (hp : p < next.length) (ho : p ∉ out) : DnO next out p 0 O := ⟨h.lo, fun k hk => by rw [h.ca k hk, cntE_snoc hp ho, if_neg (by omega)]⟩
theorem DnO.skip (h : DnO next out p j O) (he : eN next p j = 0) : DnO next out p (j + 1) O := by
  refine ⟨h.1, fun k hk => ?_⟩
  rw [h.2 k hk]
  by_cases e : k = j
  · subst e; rw [if_neg (by omega), if_pos (by omega), he]
  · by_cases h2 : k < j
    · rw [if_pos h2, if_pos (by omega)]
    · rw [if_neg h2, if_neg (by omega)]
theorem DnO.less (h : DnO next out p j O) (hj : j < next.length) (he : eN next p j = 1) : DnO next out p (j + 1) (O.set j (O.getD j 0 - 1)) := by
  refine ⟨by rw [List.length_set]; exact h.1, fun k hk => ?_⟩
  rw [set_get (by rw [h.1]; exact hj)]
  by_cases e : k = j
  · subst e; rw [if_pos rfl, h.2 k hk, if_neg (by omega), if_pos (by omega), he]; omega
  · rw [if_neg e, h.2 k hk]
    by_cases h2 : k < j
    · rw [if_pos h2, if_pos (by omega)]
    · rw [if_neg h2, if_neg (by omega)]
theorem cntE_le {k : Nat} : cntE next out k ≤ next.length := by
  have := sum_le_len (f := fun a => if a ∈ out then 0 else eN next a k) (fun a => by split; omega; exact eN_le) (List.range next.length)
  rw [List.length_range] at this
  exact this
theorem DnO.bound (h : DnO next out p j O) {k : Nat} (hk : k < next.length) : 0 ≤ O.getD k 0 ∧ O.getD k 0 ≤ next.length + 1 := by
  rw [h.2 k hk]
  have h1 := cntE_le (next := next) (out := out ++ [p]) (k := k)
  have h2 := eN_le (next := next) (a := p) (k := k)
  split <;> omega
theorem DnO.done {O' : List Int} (h : DnO next out p next.length O) (hr : Ri next out O' G) (hkn : Kahn next (out ++ [p])) (hp : p < next.length) : Ri next (out ++ [p]) O (G.set p true) := by
  refine ⟨h.1, by rw [List.length_set]; exact hr.lg, hkn, fun k hk => by rw [h.2 k hk, if_pos hk]; simp, fun k hk => ?_⟩
  have hs : (G.set p true).getD k false = if k = p then true else G.getD k false := by
    by_cases e : k = p
    · subst e; rw [if_pos rfl]; simp [List.getD, show k < G.length by rw [hr.lg]; exact hp]
    · rw [if_neg e]; simp [List.getD, List.getElem?_set_ne (fun h => e h.symm)]
  rw [hs, List.mem_append]
  by_cases e : k = p
  · rw [if_pos e]; simp [e]
  · rw [if_neg e, hr.go k hk]; simp [e]
end
theorem full_max {next : List (List Int)} {out : List Nat} (h : Kahn next out) (hl : out.length = next.length) : KMax next out := fun _ hf => hf.2.1 (all_in (kahn_nd h) (kahn_lt h) hl hf.1)
theorem plain_free {next : List (List Int)} {out : List Nat} {k : Nat} : Free (plainM next) out k ↔ Free next out k := by
  unfold Free
  rw [plain_len]
  simp only [plain_ed]
theorem plain_kahn {next : List (List Int)} {out : List Nat} : Kahn (plainM next) out ↔ Kahn next out := by
  unfold Kahn
  simp only [plain_free]
theorem plain_kmax {next : List (List Int)} {out : List Nat} : KMax (plainM next) out ↔ KMax next out := by
  unfold KMax
  simp only [plain_free]
theorem plain_cyc {next : List (List Int)} {l : List Nat} (h : IsCyc next l) : IsCyc (plainM next) l := ⟨h.ne, h.nd, by rw [plain_len]; exact h.lt, fun i a b ha hb => plain_ed.2 (h.ed i a b ha hb)⟩
set_option maxRecDepth 100000 in
set_option maxHeartbeats 3200000 in
theorem edge_any {N : Nat} {w : World} {next : List (List Int)} {a : Option Addr} {n c i : Nat} (h : Lists N w next (.slice a n c)) (hi : i < n) (hn : next.length = n) (b : Int) :
    Calls Try.prog 19 #[.slice a n c, .int .i64 i, .int .i64 b] w fun e w' => e = .returned (.bool (edB next i b)) ∧ w' = w := by
  obtain ⟨r, hr⟩ := get_at (l := next) (i := i) (by rw [hn]; exact hi)
  obtain ⟨g1, o1, a2, c2, rfl, hg1, hc1, hrc, hrl, hI⟩ := at_L h hr
  have HE : Hid (edB next i b = decide (b ∈ r)) := hide (by unfold edB; rw [List.getD_eq_getElem?_getD, hr]; rfl)
  have HI := hide hI.at1
  have hn1 := h.lim
  rw [hn] at hn1
  clear hr hI h hn
  go_enter Try.func19, Try.ntmps19
  go_wp2_with fail
  go_loop [7] (fun x => ∃ k : Nat, k ≤ r.length ∧ x = .int .i64 k ∧ Hid (b ∉ r.take k)) (fun x => r.length - (intOf x).toNat)
  case atStart => exact ⟨0, by omega, rfl, hide (by simp)⟩
  case round =>
    obtain ⟨k, hk, rfl, HK⟩ := hrel
    by_cases hlt : k < r.length
    · obtain ⟨g, o, rfl, kc⟩ := HI.out.int hlt
      by_cases he : r.getD k 0 = b
      · have HP : Hid (true = edB next i b) := hide (by rw [HE.out]; exact (decide_eq_true (take_hit hlt he)).symm)
        rw [he] at kc
        clear he HK
        go_wp2_with fail
        go_ret
        exact ⟨ret_bool HP.out, rfl⟩
      · have HP := hide (take_step hlt HK.out he)
        generalize r.getD k 0 = x at kc he
        have hbb : (x == b) = false := beq_eq_false_iff_ne.2 he
        clear he HK
        go_wp2_with fail
        go_round
        case rel => exact ⟨k + 1, by omega, by go_num, HP⟩
        case measure => simp [intOf]; omega
    · have HP : Hid (false = edB next i b) := hide (by
        have := HK.out
        rw [List.take_of_length_le (by omega)] at this
        rw [HE.out]; exact (decide_eq_false this).symm)
      go_wp2_with fail
      go_ret
      exact ⟨ret_bool HP.out, rfl⟩
end Go.Proofs.Ytjaffhajehcnpaa
