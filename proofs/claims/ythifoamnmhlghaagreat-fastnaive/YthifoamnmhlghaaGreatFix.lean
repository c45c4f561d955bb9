/- Rows of a fixed length that are written. -/
import Derived.Test.YthifoamnmhlghaaGreatFault1
namespace Go.Proofs.YthifoamnmhlghaaGreat
open Go.RowKit

theorem made_one (z : Value) (n : Nat) : madeCells #[z] n = Array.replicate n z := by
  apply Array.ext
  · simp [madeCells]
  · intro i h1 h2
    simp [madeCells, Nat.mod_one]
theorem wpList_make_fix {P : Program} (w : World) {ops : Array Oper} {rest : List Oper} {o : Oper} {a : Act} {Q : Exit → Act → World → Prop}
    (hg : o.guard = none) (l c : Operand) (t : TypeId) (hop : o.op = Op.makeSlice t l c) (e : TypeId) (i : TypeInfo) (z : Value) (h1 : P.underlying t = some (.slice e)) (h2 : P.info? e = some i) (h3 : i.zero = some z) (h4 : i.size = 1) (h5 : z.cells = #[z])
    (L C : Int) (n : Nat) (hl : a.eval l = .int .i64 L) (hc : a.eval c = .int .i64 C) (hL : L = (n : Int)) (hC : C = (n : Int)) (b2 : i.bytes * n ≤ 281474976710656) (b3 : n ≤ maxLen)
    (hK : wpList P ops Q rest (a.put o.dst (.slice (some ⟨w.heap.size, 0, none⟩) n n)) (w.alloc (.cells (Array.replicate n z) e))) :
    wpList P ops Q (o :: rest) a w := by
  refine wpList_plain hg fun K hK' => ?_
  have hb' : (i.bytes : Int) * (n : Int) ≤ 281474976710656 := by
    have h : ((i.bytes * n : Nat) : Int) ≤ 281474976710656 := by omega
    rwa [Int.natCast_mul] at h
  have h63' : (n : Int) ≤ 9223372036854775807 := by
    have h := b3
    simp [maxLen] at h
    omega
  have hrun := run_make (P := P) w t e i z h1 h2 h3 .i64 .i64 n n (by omega) (Int.le_refl _) hb' h63'
  rw [h4, Nat.mul_one, h5, made_one] at hrun
  subst hL
  subst hC
  unfold Oper.wp
  simp [execOp, hop, hl, hc, hrun, Result.andThen]
  exact hK' _ _ hK
def Fx (g T : Nat) (vs : List Value) (w : World) : Prop := w.heap[g]? = some (.cells vs.toArray T (0, 0))
section
variable {g T i : Nat} {vs : List Value} {w w' : World} {v : Value}
theorem Fx.get (h : Fx g T vs w) (hi : vs[i]? = some v) : w.cell? ⟨g, i, none⟩ = some v := by
  rw [cell_of_row w g i _ _ _ h]
  simpa using hi
theorem Fx.frz (h : Fx g T vs w) (i : Nat) : w.frozen? ⟨g, i, none⟩ = false := frozen_of_row w g i _ _ h
theorem Fx.set (h : Fx g T vs w) (i : Nat) (v : Value) : Fx g T (vs.set i v) (w.setCell ⟨g, i, none⟩ v) := by
  unfold Fx
  rw [loc_set h, List.setIfInBounds_toArray]
theorem Fx.keep (h : Fx g T vs w) (hb : w'.heap[g]? = w.heap[g]?) : Fx g T vs w' := hb.trans h
theorem Fx.lt (h : Fx g T vs w) : g < w.heap.size := loc_lt h
end
theorem ints_set {l : List Int} {i : Nat} {z : Int} : (ints l).set i (.int .i64 z) = ints (l.set i z) := by unfold ints; rw [List.map_set]
theorem bools_set {l : List Bool} {i : Nat} {z : Bool} : (bools l).set i (.bool z) = bools (l.set i z) := by unfold bools; rw [List.map_set]
theorem ints_rep {n : Nat} : Array.replicate n (.int .i64 0) = (ints (List.replicate n 0)).toArray := by unfold ints; simp
theorem bools_rep {n : Nat} : Array.replicate n (.bool false) = (bools (List.replicate n false)).toArray := by unfold bools; simp
theorem other_set {w : World} {g i k : Nat} {v : Value} (h : k ≠ g) : (w.setCell ⟨g, i, none⟩ v).heap[k]? = w.heap[k]? := heap_setCell_other w ⟨g, i, none⟩ k v h

/-! Counting rules. -/
def upM (C : List Int) (z : Int) : List Int := C.set z.toNat (C.getD z.toNat 0 + 1)
def cntL (n : Nat) (rs : List RuleM) : List Int := rs.foldl (fun C r => upM C r.head) (List.replicate n 0)
theorem cntL_snoc {n : Nat} {rs : List RuleM} {k : Nat} {x : RuleM} (h : rs[k]? = some x) : cntL n (rs.take (k + 1)) = upM (cntL n (rs.take k)) x.head := by
  unfold cntL
  rw [take_snoc h, List.foldl_append]
  rfl
theorem up_len {C : List Int} {z : Int} : (upM C z).length = C.length := by unfold upM; simp
theorem cntF_len : ∀ {rs : List RuleM} {C : List Int}, (rs.foldl (fun C r => upM C r.head) C).length = C.length
  | [], C => rfl
  | r :: rs, C => by rw [List.foldl_cons, cntF_len, up_len]
theorem cntL_len {n : Nat} {rs : List RuleM} : (cntL n rs).length = n := by unfold cntL; rw [cntF_len]; simp
theorem cntF_at {z : Nat} : ∀ {rs : List RuleM} {C : List Int}, z < C.length → (∀ r ∈ rs, 0 ≤ r.head) → (rs.foldl (fun C r => upM C r.head) C).getD z 0 = C.getD z 0 + ((rs.filter fun r => decide (r.head = (z : Int))).length : Nat)
  | [], C, _, _ => by simp
  | r :: rs, C, hz, h => by
    rw [List.foldl_cons, cntF_at (by rw [up_len]; exact hz) fun r hr => h r (by simp [hr]), List.filter_cons]
    have hr := h r (by simp)
    unfold upM
    by_cases e : r.head = (z : Int)
    · have e2 : r.head.toNat = z := by omega
      rw [if_pos (by simpa using e), e2]
      have : (C.set z (C.getD z 0 + 1)).getD z 0 = C.getD z 0 + 1 := by simp [List.getD, hz]
      rw [this, List.length_cons]
      omega
    · have e2 : r.head.toNat ≠ z := by omega
      rw [if_neg (by simpa using e)]
      have : (C.set r.head.toNat (C.getD r.head.toNat 0 + 1)).getD z 0 = C.getD z 0 := by simp [List.getD, List.getElem?_set_ne e2]
      rw [this]
theorem cntL_at {T : Th} {n z : Nat} (hz : z < n) (h : ∀ r ∈ T.rules, 0 ≤ r.head) : (cntL n T.rules).getD z 0 = (cntM T z : Nat) := by
  unfold cntL
  rw [cntF_at (by simpa using hz) h]
  have : (List.replicate n (0 : Int)).getD z 0 = 0 := by simp [List.getD, hz]
  rw [this]
  unfold cntM
  omega
theorem cntL_le {n z : Nat} {rs : List RuleM} (hz : z < n) (h : ∀ r ∈ rs, 0 ≤ r.head) : 0 ≤ (cntL n rs).getD z 0 ∧ (cntL n rs).getD z 0 ≤ rs.length := by
  unfold cntL
  rw [cntF_at (by simpa using hz) h]
  have : (List.replicate n (0 : Int)).getD z 0 = 0 := by simp [List.getD, hz]
  rw [this]
  have := List.length_filter_le (fun r : RuleM => decide (r.head = (z : Int))) rs
  omega
theorem cntM_le {T : Th} {z : Int} : cntM T z ≤ T.rules.length := List.length_filter_le _ _
theorem pairsRow_le {T : Th} {i : Nat} (hr : T.rules.length ≤ 4096) : ∀ {l : List Int}, pairsRow T i l ≤ l.length * 16777216
  | [] => by simp [pairsRow]
  | f :: r => by
    have h1 : cntM T i ≤ 4096 := Nat.le_trans cntM_le hr
    have h2 : cntM T f ≤ 4096 := Nat.le_trans cntM_le hr
    have := Nat.mul_le_mul h1 h2
    have := pairsRow_le hr (i := i) (l := r)
    unfold pairsRow
    simp only [List.length_cons]
    omega
theorem pairsFrom_le {T : Th} (hr : T.rules.length ≤ 4096) : ∀ {F : List (List Int)} {i : Nat}, (∀ l ∈ F, l.length ≤ 64) → pairsFrom T i F ≤ F.length * 1073741824
  | [], i, _ => by simp [pairsFrom]
  | l :: F, i, h => by
    have h1 := h l (by simp)
    have := pairsRow_le hr (i := i) (l := l)
    have := pairsFrom_le hr (F := F) (i := i + 1) fun l hl => h l (by simp [hl])
    unfold pairsFrom
    simp only [List.length_cons]
    omega
end Go.Proofs.YthifoamnmhlghaaGreat
