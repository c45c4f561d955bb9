import Derived.Test.YtbpphlmakmeoaaaGreatDoorLinesAll
import Derived.Laws.StructEq
set_option maxRecDepth 100000
set_option maxHeartbeats 3200000
namespace Go.Proofs.YtbpphlmakmeoaaaGreatDoor.Sy
open Go.RowKit
section
variable {α : Type}
theorem fK {l l' : List α} {k : Nat} {t : α} (h : l[k]? = some t) (h' : l'[k]? = some t) (ht : l.take k = l'.take k) : l.take (k + 1) = l'.take (k + 1) := by
 rw [List.take_add_one, List.take_add_one, h, h', ht]
variable [DecidableEq α]
theorem fU {l l' : List α} {k : Nat} {t t' : α} (h : l[k]? = some t) (h' : l'[k]? = some t') (hn : ¬ t = t') : decide (l = l') = false := by
 refine decide_eq_false ?_
 rintro rfl
 rw [h] at h'
 cases h'
 exact hn rfl
theorem fT {l l' : List α} (h : ¬ l.length = l'.length) : decide (l = l') = false := decide_eq_false fun e => h (by rw [e])
theorem fR {l l' : List α} {k : Nat} (hl : l.length = l'.length) (hk : l.length ≤ k) (h : l.take k = l'.take k) : decide (l = l') = true := by
 refine decide_eq_true ?_
 rw [List.take_of_length_le hk, List.take_of_length_le (by omega)] at h
 exact h
end
theorem eh {a b : Bool} (h : a = b) : Ending.returned (.bool a) = .returned (.bool b) := by rw [h]
theorem kF (W : World) (x0 : ee) (x1 : ee) (y0 : ee) (y1 : ee) : (binOp .neq 124 (.agg #[.string ⟨x0.toArray⟩, .string ⟨x1.toArray⟩]) (.agg #[.string ⟨y0.toArray⟩, .string ⟨y1.toArray⟩])).run Tryz.prog W = .ok (.bool (!decide ((x0, x1) = (y0, y1)))) W := by
 rw [run_neq_struct, run_equalIn_agg _ _ _ _ _ (by kernel_rfl) (by kernel_rfl)]
 simp [Op.eqFields, go_sem]
 by_cases h0 : x0 = y0 <;> by_cases h1 : x1 = y1 <;> simp [h0, h1]
theorem jW (W : World) (x y : Operand) (xs ys : Array Value) : (eqGuard .neq 124 x y (.agg xs) (.agg ys)).run Tryz.prog W = .ok () W := run_eqGuard_agg W _ _ _ _ _ _ (by kernel_rfl)
theorem kE (W : World) (x0 : ee) (x1 : Int) (y0 : ee) (y1 : Int) : (binOp .neq 131 (.agg #[.string ⟨x0.toArray⟩, .int .i64 x1]) (.agg #[.string ⟨y0.toArray⟩, .int .i64 y1])).run Tryz.prog W = .ok (.bool (!decide ((x0, x1) = (y0, y1)))) W := by
 rw [run_neq_struct, run_equalIn_agg _ _ _ _ _ (by kernel_rfl) (by kernel_rfl)]
 simp [Op.eqFields, go_sem]
 by_cases h0 : x0 = y0 <;> by_cases h1 : x1 = y1 <;> simp [h0, h1]
theorem jT (W : World) (x y : Operand) (xs ys : Array Value) : (eqGuard .neq 131 x y (.agg xs) (.agg ys)).run Tryz.prog W = .ok () W := run_eqGuard_agg W _ _ _ _ _ _ (by kernel_rfl)
theorem kI (W : World) (x0 : ee) (x1 : ee) (y0 : ee) (y1 : ee) : (binOp .neq 133 (.agg #[.string ⟨x0.toArray⟩, .string ⟨x1.toArray⟩]) (.agg #[.string ⟨y0.toArray⟩, .string ⟨y1.toArray⟩])).run Tryz.prog W = .ok (.bool (!decide ((x0, x1) = (y0, y1)))) W := by
 rw [run_neq_struct, run_equalIn_agg _ _ _ _ _ (by kernel_rfl) (by kernel_rfl)]
 simp [Op.eqFields, go_sem]
 by_cases h0 : x0 = y0 <;> by_cases h1 : x1 = y1 <;> simp [h0, h1]
theorem jU (W : World) (x y : Operand) (xs ys : Array Value) : (eqGuard .neq 133 x y (.agg xs) (.agg ys)).run Tryz.prog W = .ok () W := run_eqGuard_agg W _ _ _ _ _ _ (by kernel_rfl)
theorem jP (l l2 : List ee) (va vb : Value) (w : World) (ha : Rows Any 9 1 cS w l va) (hb : Rows Any 9 1 cS w l2 vb) (hl : l.length ≤ 1000000000) (_hl2 : l2.length ≤ 1000000000) :
    Calls Tryz.prog 90 #[va, vb] w fun e w' => e = .returned (.bool (decide (l = l2))) ∧ Below w.heap.size w w' := by
 have HA := ec ha
 have HB := ec hb
 obtain ⟨aa, ca, rfl⟩ := ed ha
 obtain ⟨ab, cb, rfl⟩ := ed hb
 clear ha hb
 by_cases hlen : l.length = l2.length
 · rw [← hlen] at HB ⊢
   have Ab := ec hlen
   clear hlen
   go_enter Tryz.func90, Tryz.ntmps90
   go_wp2_with fail
   go_loopw [13] (fun x wr => ∃ k q : Nat, k ≤ l.length ∧ x = .int .i64 k ∧ wr = w.drewN q ∧ Hid (l.take k = l2.take k)) (fun x _ => l.length - (intOf x).toNat)
   case atStart => exact ⟨0, 0, by omega, rfl, rfl, ec rfl⟩
   case round =>
    obtain ⟨k, q, hk, rfl, rfl, HE⟩ := hrel
    by_cases hlt : k < l.length
    · obtain ⟨t, ht⟩ : ∃ t, l[k]? = some t := ⟨l[k], by simp [hlt]⟩
      obtain ⟨t2, Aa⟩ : ∃ t, l2[k]? = some t := ⟨l2[k]'(by have := Ab.out; omega), by simp⟩
      obtain ⟨ga, xa, ya, e1, _, h1, h2⟩ := HA.out.at ht
      obtain ⟨gb, xb, yb, e2, _, h3, h4⟩ := HB.out.at Aa
      simp only [Value.slice.injEq] at e1 e2
      obtain ⟨rfl, _, rfl⟩ := e1
      obtain ⟨rfl, _, rfl⟩ := e2
      unfold cS at h1 h3
      subst h1
      subst h3
      have a0 : w.cell? ⟨ga, k, none⟩ = some (.string ⟨(t).toArray⟩) := by have := h2 0 _ rfl; simpa using this
      have b0 : w.cell? ⟨gb, k, none⟩ = some (.string ⟨(t2).toArray⟩) := by have := h4 0 _ rfl; simpa using this
      clear h2 h4
      by_cases htt : t = t2
      · subst htt
        have HS := ec (fK ht Aa HE.out)
        clear ht Aa HE
        go_wp2_with fail
        go_quiet (fail)
        go_wp2_with fail
        go_roundw
        case rel => exact ⟨k + 1, _, by omega, by go_num, rfl, HS⟩
        case measure => simp [intOf]; omega
      · have HN := ec (fU ht Aa htt)
        have Ac : (t == t2) = false := beq_eq_false_iff_ne.2 htt
        clear ht Aa HE
        go_wp2_with fail
        go_quiet (fail)
        go_wp2_with fail
        go_ret
        exact ⟨eh HN.out.symm, Below.trans (eJ w q) (Below.mono (eJ _ _) (Nat.le_refl _))⟩
    · have HS := ec (fR Ab.out (by omega) HE.out)
      go_wp2_with fail
      go_ret
      exact ⟨eh HS.out.symm, eJ w q⟩
 · have HN := ec (fT hlen)
   go_enter Tryz.func90, Tryz.ntmps90
   go_wp2_with fail
   go_ret
   exact ⟨eh HN.out.symm, Below.refl _ w⟩
theorem wu (l l2 : List Int) (va vb : Value) (w : World) (ha : Rows Any 45 1 cI w l va) (hb : Rows Any 45 1 cI w l2 vb) (hl : l.length ≤ 1000000000) (_hl2 : l2.length ≤ 1000000000) :
    Calls Tryz.prog 154 #[va, vb] w fun e w' => e = .returned (.bool (decide (l = l2))) ∧ Below w.heap.size w w' := by
 have HA := ec ha
 have HB := ec hb
 obtain ⟨aa, ca, rfl⟩ := ed ha
 obtain ⟨ab, cb, rfl⟩ := ed hb
 clear ha hb
 by_cases hlen : l.length = l2.length
 · rw [← hlen] at HB ⊢
   have Ab := ec hlen
   clear hlen
   go_enter Tryz.func154, Tryz.ntmps154
   go_wp2_with fail
   go_loopw [13] (fun x wr => ∃ k q : Nat, k ≤ l.length ∧ x = .int .i64 k ∧ wr = w.drewN q ∧ Hid (l.take k = l2.take k)) (fun x _ => l.length - (intOf x).toNat)
   case atStart => exact ⟨0, 0, by omega, rfl, rfl, ec rfl⟩
   case round =>
    obtain ⟨k, q, hk, rfl, rfl, HE⟩ := hrel
    by_cases hlt : k < l.length
    · obtain ⟨t, ht⟩ : ∃ t, l[k]? = some t := ⟨l[k], by simp [hlt]⟩
      obtain ⟨t2, Aa⟩ : ∃ t, l2[k]? = some t := ⟨l2[k]'(by have := Ab.out; omega), by simp⟩
      obtain ⟨ga, xa, ya, e1, _, h1, h2⟩ := HA.out.at ht
      obtain ⟨gb, xb, yb, e2, _, h3, h4⟩ := HB.out.at Aa
      simp only [Value.slice.injEq] at e1 e2
      obtain ⟨rfl, _, rfl⟩ := e1
      obtain ⟨rfl, _, rfl⟩ := e2
      unfold cI at h1 h3
      subst h1
      subst h3
      have a0 : w.cell? ⟨ga, k, none⟩ = some (.int .i64 (t)) := by have := h2 0 _ rfl; simpa using this
      have b0 : w.cell? ⟨gb, k, none⟩ = some (.int .i64 (t2)) := by have := h4 0 _ rfl; simpa using this
      clear h2 h4
      by_cases htt : t = t2
      · subst htt
        have HS := ec (fK ht Aa HE.out)
        clear ht Aa HE
        go_wp2_with fail
        go_quiet (fail)
        go_wp2_with fail
        go_roundw
        case rel => exact ⟨k + 1, _, by omega, by go_num, rfl, HS⟩
        case measure => simp [intOf]; omega
      · have HN := ec (fU ht Aa htt)
        have Ac : (t == t2) = false := beq_eq_false_iff_ne.2 htt
        clear ht Aa HE
        go_wp2_with fail
        go_quiet (fail)
        go_wp2_with fail
        go_ret
        exact ⟨eh HN.out.symm, Below.trans (eJ w q) (Below.mono (eJ _ _) (Nat.le_refl _))⟩
    · have HS := ec (fR Ab.out (by omega) HE.out)
      go_wp2_with fail
      go_ret
      exact ⟨eh HS.out.symm, eJ w q⟩
 · have HN := ec (fT hlen)
   go_enter Tryz.func154, Tryz.ntmps154
   go_wp2_with fail
   go_ret
   exact ⟨eh HN.out.symm, Below.refl _ w⟩
theorem vP (l l2 : List (ee × ee)) (va vb : Value) (w : World) (ha : Rows Any 124 2 cM w l va) (hb : Rows Any 124 2 cM w l2 vb) (hl : l.length ≤ 1000000000) (_hl2 : l2.length ≤ 1000000000) :
    Calls Tryz.prog 91 #[va, vb] w fun e w' => e = .returned (.bool (decide (l = l2))) ∧ Below w.heap.size w w' := by
 have HA := ec ha
 have HB := ec hb
 obtain ⟨aa, ca, rfl⟩ := ed ha
 obtain ⟨ab, cb, rfl⟩ := ed hb
 clear ha hb
 by_cases hlen : l.length = l2.length
 · rw [← hlen] at HB ⊢
   have Ab := ec hlen
   clear hlen
   go_enter Tryz.func91, Tryz.ntmps91
   go_wp2_with fail
   go_loopw [13] (fun x wr => ∃ k q : Nat, k ≤ l.length ∧ x = .int .i64 k ∧ wr = w.drewN q ∧ Hid (l.take k = l2.take k)) (fun x _ => l.length - (intOf x).toNat)
   case atStart => exact ⟨0, 0, by omega, rfl, rfl, ec rfl⟩
   case round =>
    obtain ⟨k, q, hk, rfl, rfl, HE⟩ := hrel
    by_cases hlt : k < l.length
    · obtain ⟨t, ht⟩ : ∃ t, l[k]? = some t := ⟨l[k], by simp [hlt]⟩
      obtain ⟨t2, Aa⟩ : ∃ t, l2[k]? = some t := ⟨l2[k]'(by have := Ab.out; omega), by simp⟩
      obtain ⟨ga, xa, ya, e1, _, h1, h2⟩ := HA.out.at ht
      obtain ⟨gb, xb, yb, e2, _, h3, h4⟩ := HB.out.at Aa
      simp only [Value.slice.injEq] at e1 e2
      obtain ⟨rfl, _, rfl⟩ := e1
      obtain ⟨rfl, _, rfl⟩ := e2
      unfold cM at h1 h3
      subst h1
      subst h3
      have a0 : w.cell? ⟨ga, k * 2, none⟩ = some (.string ⟨(t.1).toArray⟩) := by have := h2 0 _ rfl; simpa using this
      have b0 : w.cell? ⟨gb, k * 2, none⟩ = some (.string ⟨(t2.1).toArray⟩) := by have := h4 0 _ rfl; simpa using this
      have a1 : w.cell? ⟨ga, k * 2 + 1, none⟩ = some (.string ⟨(t.2).toArray⟩) := by have := h2 1 _ rfl; simpa using this
      have b1 : w.cell? ⟨gb, k * 2 + 1, none⟩ = some (.string ⟨(t2.2).toArray⟩) := by have := h4 1 _ rfl; simpa using this
      clear h2 h4
      by_cases htt : t = t2
      · subst htt
        have HS := ec (fK ht Aa HE.out)
        have hq : ∀ W, (binOp .neq 124 (.agg #[.string ⟨(t.1).toArray⟩, .string ⟨(t.2).toArray⟩]) (.agg #[.string ⟨(t.1).toArray⟩, .string ⟨(t.2).toArray⟩])).run Tryz.prog W = .ok (.bool false) W := fun W => (kF W _ _ _ _).trans (by simp)
        have Ac := jW
        clear ht Aa HE
        go_wp2_with fail
        go_quiet (fail)
        go_wp2_with fail
        go_roundw
        case rel => exact ⟨k + 1, _, by omega, by go_num, rfl, HS⟩
        case measure => simp [intOf]; omega
      · have HN := ec (fU ht Aa htt)
        have hq : ∀ W, (binOp .neq 124 (.agg #[.string ⟨(t.1).toArray⟩, .string ⟨(t.2).toArray⟩]) (.agg #[.string ⟨(t2.1).toArray⟩, .string ⟨(t2.2).toArray⟩])).run Tryz.prog W = .ok (.bool true) W := fun W => (kF W _ _ _ _).trans (by rw [decide_eq_false htt]; rfl)
        have Ac := jW
        clear ht Aa HE
        go_wp2_with fail
        go_quiet (fail)
        go_wp2_with fail
        go_ret
        exact ⟨eh HN.out.symm, Below.trans (eJ w q) (Below.mono (eJ _ _) (Nat.le_refl _))⟩
    · have HS := ec (fR Ab.out (by omega) HE.out)
      go_wp2_with fail
      go_ret
      exact ⟨eh HS.out.symm, eJ w q⟩
 · have HN := ec (fT hlen)
   go_enter Tryz.func91, Tryz.ntmps91
   go_wp2_with fail
   go_ret
   exact ⟨eh HN.out.symm, Below.refl _ w⟩
theorem vq (l l2 : List (ee × Int)) (va vb : Value) (w : World) (ha : Rows Any 131 2 i8 w l va) (hb : Rows Any 131 2 i8 w l2 vb) (hl : l.length ≤ 1000000000) (_hl2 : l2.length ≤ 1000000000) :
    Calls Tryz.prog 95 #[va, vb] w fun e w' => e = .returned (.bool (decide (l = l2))) ∧ Below w.heap.size w w' := by
 have HA := ec ha
 have HB := ec hb
 obtain ⟨aa, ca, rfl⟩ := ed ha
 obtain ⟨ab, cb, rfl⟩ := ed hb
 clear ha hb
 by_cases hlen : l.length = l2.length
 · rw [← hlen] at HB ⊢
   have Ab := ec hlen
   clear hlen
   go_enter Tryz.func95, Tryz.ntmps95
   go_wp2_with fail
   go_loopw [13] (fun x wr => ∃ k q : Nat, k ≤ l.length ∧ x = .int .i64 k ∧ wr = w.drewN q ∧ Hid (l.take k = l2.take k)) (fun x _ => l.length - (intOf x).toNat)
   case atStart => exact ⟨0, 0, by omega, rfl, rfl, ec rfl⟩
   case round =>
    obtain ⟨k, q, hk, rfl, rfl, HE⟩ := hrel
    by_cases hlt : k < l.length
    · obtain ⟨t, ht⟩ : ∃ t, l[k]? = some t := ⟨l[k], by simp [hlt]⟩
      obtain ⟨t2, Aa⟩ : ∃ t, l2[k]? = some t := ⟨l2[k]'(by have := Ab.out; omega), by simp⟩
      obtain ⟨ga, xa, ya, e1, _, h1, h2⟩ := HA.out.at ht
      obtain ⟨gb, xb, yb, e2, _, h3, h4⟩ := HB.out.at Aa
      simp only [Value.slice.injEq] at e1 e2
      obtain ⟨rfl, _, rfl⟩ := e1
      obtain ⟨rfl, _, rfl⟩ := e2
      unfold i8 at h1 h3
      subst h1
      subst h3
      have a0 : w.cell? ⟨ga, k * 2, none⟩ = some (.string ⟨(t.1).toArray⟩) := by have := h2 0 _ rfl; simpa using this
      have b0 : w.cell? ⟨gb, k * 2, none⟩ = some (.string ⟨(t2.1).toArray⟩) := by have := h4 0 _ rfl; simpa using this
      have a1 : w.cell? ⟨ga, k * 2 + 1, none⟩ = some (.int .i64 (t.2)) := by have := h2 1 _ rfl; simpa using this
      have b1 : w.cell? ⟨gb, k * 2 + 1, none⟩ = some (.int .i64 (t2.2)) := by have := h4 1 _ rfl; simpa using this
      clear h2 h4
      by_cases htt : t = t2
      · subst htt
        have HS := ec (fK ht Aa HE.out)
        have hq : ∀ W, (binOp .neq 131 (.agg #[.string ⟨(t.1).toArray⟩, .int .i64 (t.2)]) (.agg #[.string ⟨(t.1).toArray⟩, .int .i64 (t.2)])).run Tryz.prog W = .ok (.bool false) W := fun W => (kE W _ _ _ _).trans (by simp)
        have Ac := jT
        clear ht Aa HE
        go_wp2_with fail
        go_quiet (fail)
        go_wp2_with fail
        go_roundw
        case rel => exact ⟨k + 1, _, by omega, by go_num, rfl, HS⟩
        case measure => simp [intOf]; omega
      · have HN := ec (fU ht Aa htt)
        have hq : ∀ W, (binOp .neq 131 (.agg #[.string ⟨(t.1).toArray⟩, .int .i64 (t.2)]) (.agg #[.string ⟨(t2.1).toArray⟩, .int .i64 (t2.2)])).run Tryz.prog W = .ok (.bool true) W := fun W => (kE W _ _ _ _).trans (by rw [decide_eq_false htt]; rfl)
        have Ac := jT
        clear ht Aa HE
        go_wp2_with fail
        go_quiet (fail)
        go_wp2_with fail
        go_ret
        exact ⟨eh HN.out.symm, Below.trans (eJ w q) (Below.mono (eJ _ _) (Nat.le_refl _))⟩
    · have HS := ec (fR Ab.out (by omega) HE.out)
      go_wp2_with fail
      go_ret
      exact ⟨eh HS.out.symm, eJ w q⟩
 · have HN := ec (fT hlen)
   go_enter Tryz.func95, Tryz.ntmps95
   go_wp2_with fail
   go_ret
   exact ⟨eh HN.out.symm, Below.refl _ w⟩
theorem vE (l l2 : List (ee × ee)) (va vb : Value) (w : World) (ha : Rows Any 133 2 cM w l va) (hb : Rows Any 133 2 cM w l2 vb) (hl : l.length ≤ 1000000000) (_hl2 : l2.length ≤ 1000000000) :
    Calls Tryz.prog 98 #[va, vb] w fun e w' => e = .returned (.bool (decide (l = l2))) ∧ Below w.heap.size w w' := by
 have HA := ec ha
 have HB := ec hb
 obtain ⟨aa, ca, rfl⟩ := ed ha
 obtain ⟨ab, cb, rfl⟩ := ed hb
 clear ha hb
 by_cases hlen : l.length = l2.length
 · rw [← hlen] at HB ⊢
   have Ab := ec hlen
   clear hlen
   go_enter Tryz.func98, Tryz.ntmps98
   go_wp2_with fail
   go_loopw [13] (fun x wr => ∃ k q : Nat, k ≤ l.length ∧ x = .int .i64 k ∧ wr = w.drewN q ∧ Hid (l.take k = l2.take k)) (fun x _ => l.length - (intOf x).toNat)
   case atStart => exact ⟨0, 0, by omega, rfl, rfl, ec rfl⟩
   case round =>
    obtain ⟨k, q, hk, rfl, rfl, HE⟩ := hrel
    by_cases hlt : k < l.length
    · obtain ⟨t, ht⟩ : ∃ t, l[k]? = some t := ⟨l[k], by simp [hlt]⟩
      obtain ⟨t2, Aa⟩ : ∃ t, l2[k]? = some t := ⟨l2[k]'(by have := Ab.out; omega), by simp⟩
      obtain ⟨ga, xa, ya, e1, _, h1, h2⟩ := HA.out.at ht
      obtain ⟨gb, xb, yb, e2, _, h3, h4⟩ := HB.out.at Aa
      simp only [Value.slice.injEq] at e1 e2
      obtain ⟨rfl, _, rfl⟩ := e1
      obtain ⟨rfl, _, rfl⟩ := e2
      unfold cM at h1 h3
      subst h1
      subst h3
      have a0 : w.cell? ⟨ga, k * 2, none⟩ = some (.string ⟨(t.1).toArray⟩) := by have := h2 0 _ rfl; simpa using this
      have b0 : w.cell? ⟨gb, k * 2, none⟩ = some (.string ⟨(t2.1).toArray⟩) := by have := h4 0 _ rfl; simpa using this
      have a1 : w.cell? ⟨ga, k * 2 + 1, none⟩ = some (.string ⟨(t.2).toArray⟩) := by have := h2 1 _ rfl; simpa using this
      have b1 : w.cell? ⟨gb, k * 2 + 1, none⟩ = some (.string ⟨(t2.2).toArray⟩) := by have := h4 1 _ rfl; simpa using this
      clear h2 h4
      by_cases htt : t = t2
      · subst htt
        have HS := ec (fK ht Aa HE.out)
        have hq : ∀ W, (binOp .neq 133 (.agg #[.string ⟨(t.1).toArray⟩, .string ⟨(t.2).toArray⟩]) (.agg #[.string ⟨(t.1).toArray⟩, .string ⟨(t.2).toArray⟩])).run Tryz.prog W = .ok (.bool false) W := fun W => (kI W _ _ _ _).trans (by simp)
        have Ac := jU
        clear ht Aa HE
        go_wp2_with fail
        go_quiet (fail)
        go_wp2_with fail
        go_roundw
        case rel => exact ⟨k + 1, _, by omega, by go_num, rfl, HS⟩
        case measure => simp [intOf]; omega
      · have HN := ec (fU ht Aa htt)
        have hq : ∀ W, (binOp .neq 133 (.agg #[.string ⟨(t.1).toArray⟩, .string ⟨(t.2).toArray⟩]) (.agg #[.string ⟨(t2.1).toArray⟩, .string ⟨(t2.2).toArray⟩])).run Tryz.prog W = .ok (.bool true) W := fun W => (kI W _ _ _ _).trans (by rw [decide_eq_false htt]; rfl)
        have Ac := jU
        clear ht Aa HE
        go_wp2_with fail
        go_quiet (fail)
        go_wp2_with fail
        go_ret
        exact ⟨eh HN.out.symm, Below.trans (eJ w q) (Below.mono (eJ _ _) (Nat.le_refl _))⟩
    · have HS := ec (fR Ab.out (by omega) HE.out)
      go_wp2_with fail
      go_ret
      exact ⟨eh HS.out.symm, eJ w q⟩
 · have HN := ec (fT hlen)
   go_enter Tryz.func98, Tryz.ntmps98
   go_wp2_with fail
   go_ret
   exact ⟨eh HN.out.symm, Below.refl _ w⟩
end Go.Proofs.YtbpphlmakmeoaaaGreatDoor.Sy
namespace Go.Proofs.YtbpphlmakmeoaaaGreatDoor.Sy
open Go.RowKit
theorem lq {w : World} {o0 o1 : Obj} : Below w.heap.size w ((w.alloc o0).alloc o1) := ((Below.refl _ _).alloc (Nat.le_refl _) _).alloc (by simp) _
theorem jd (w : World) (o0 o1 : Obj) : ((w.alloc o0).alloc o1).heap[w.heap.size]? = some o0 ∧ ((w.alloc o0).alloc o1).heap[w.heap.size + 1]? = some o1 ∧ Grows w ((w.alloc o0).alloc o1) := ⟨(gL w o0 o1).1, (gL w o0 o1).2, lq⟩
theorem B9 (coef1 coef2 : Int) (pred1 pred2 : ee) (args1 args2 : List ee) (value1 value2 : Int) (vargs1 vargs2 : Value) (w : World) (largs1 : Strs Any w args1 vargs1) (largs2 : Strs Any w args2 vargs2) (hargs1 : args1.length ≤ 1000000000) (hargs2 : args2.length ≤ 1000000000) :
    Calls Tryz.prog 263 #[.agg #[.int .i64 (coef1), .string ⟨(pred1).toArray⟩, vargs1, .int .i64 (value1)], .agg #[.int .i64 (coef2), .string ⟨(pred2).toArray⟩, vargs2, .int .i64 (value2)]] w fun e w' => e = .returned (.bool (decide ((⟨coef1, pred1, args1, value1⟩ : ft) = ⟨coef2, pred2, args2, value2⟩))) ∧ Below w.heap.size w w' := by
 obtain ⟨Aa, Ac, rfl⟩ := ed largs1
 have Hargs1 := ec largs1
 clear largs1
 obtain ⟨Ab, Ad, rfl⟩ := ed largs2
 have Hargs2 := ec largs2
 clear largs2
 obtain ⟨hn, hm, hg⟩ := jd w (.cells #[.int .i64 (coef1), .string ⟨(pred1).toArray⟩, .slice Aa args1.length Ac, .int .i64 (value1)] 192) (.cells #[.int .i64 (coef2), .string ⟨(pred2).toArray⟩, .slice Ab args2.length Ad, .int .i64 (value2)] 192)
 have N0 := ec hn
 have N1 := ec hm
 have G0 := ec hg
 clear hn hm hg
 go_enter Tryz.func263, Tryz.ntmps263
 by_cases h0 : coef1 = coef2
 rotate_left 1
 · have Ae : (coef1 == coef2) = false := beq_eq_false_iff_ne.2 h0
   go_wp2_with fail
   go_ret
   exact ⟨eh (decide_eq_false fun e => h0 (by injection e)).symm, G0.out⟩
 subst h0
 by_cases h1 : pred1 = pred2
 rotate_left 1
 · have Ae : (pred1 == pred2) = false := beq_eq_false_iff_ne.2 h1
   go_wp2_with fail
   go_ret
   exact ⟨eh (decide_eq_false fun e => h1 (by injection e)).symm, G0.out⟩
 subst h1
 have C := ec (jP args1 args2 _ _ _ (Strs.keep (T := ei) Hargs1.out (eM G0.out.keeps) (by decide)) (Strs.keep (T := ei) Hargs2.out (eM G0.out.keeps) (by decide)) hargs1 hargs2)
 go_wp2_with fail
 refine C.out.mono ?_
 rintro _ w2 ⟨rfl, hb⟩
 have P2 := eK hb N0
 have Q2 := eK hb N1
 obtain ⟨Ai, Ao, An, Ak, Aj⟩ := fy P2.out
 obtain ⟨Al, Ah, Am, Af, Ag⟩ := fy Q2.out
 have G3 := ec (Grows.trans G0.out hb)
 clear hb C
 by_cases h2 : args1 = args2
 rotate_left 1
 · rw [decide_eq_false h2]
   go_wp2_with fail
   go_ret
   exact ⟨eh (decide_eq_false fun e => h2 (by injection e)).symm, G3.out⟩
 subst h2
 rw [show decide (args1 = args1) = true from decide_eq_true rfl]
 by_cases h3 : value1 = value2
 rotate_left 1
 · have Ae : (value1 == value2) = false := beq_eq_false_iff_ne.2 h3
   go_wp2_with fail
   go_ret
   exact ⟨eh (decide_eq_false fun e => h3 (by injection e)).symm, G3.out⟩
 subst h3
 go_wp2_with fail
 go_ret
 exact ⟨by first | rfl | exact eh (decide_eq_true rfl).symm, G3.out⟩
theorem sI (l l2 : List ft) (va vb : Value) (w : World) (ha : Rows Any 192 4 (cTerm Any) w l va) (hb : Rows Any 192 4 (cTerm Any) w l2 vb) (hl : l.length ≤ 1000000000) (_hl2 : l2.length ≤ 1000000000) (hi : ∀ t ∈ l, t.args.length ≤ 1000000000) (hi2 : ∀ t ∈ l2, t.args.length ≤ 1000000000) :
    Calls Tryz.prog 262 #[va, vb, .func (.func 263) #[] #[]] w fun e w' => e = .returned (.bool (decide (l = l2))) ∧ Below w.heap.size w w' := by
 have HA := ec ha
 have HB := ec hb
 have HI := ec hi
 have An := ec hi2
 obtain ⟨aa, ca, rfl⟩ := ed ha
 obtain ⟨ab, cb, rfl⟩ := ed hb
 clear ha hb hi hi2
 by_cases hlen : l.length = l2.length
 · rw [← hlen] at HB ⊢
   have Am := ec hlen
   clear hlen
   go_enter Tryz.func262, Tryz.ntmps262
   go_wp2_with fail
   go_loopw [17] (fun x wr => ∃ k : Nat, k ≤ l.length ∧ x = .int .i64 k ∧ Hid (Below w.heap.size w wr) ∧ Hid (l.take k = l2.take k)) (fun x _ => l.length - (intOf x).toNat)
   case atStart => exact ⟨0, by omega, rfl, ec (Below.refl _ _), ec rfl⟩
   case round =>
    obtain ⟨k, hk, rfl, HW, HE⟩ := hrel
    by_cases hlt : k < l.length
    · obtain ⟨t, ht⟩ : ∃ t, l[k]? = some t := ⟨l[k], by simp [hlt]⟩
      obtain ⟨t2, Ac⟩ : ∃ t, l2[k]? = some t := ⟨l2[k]'(by have := Am.out; omega), by simp⟩
      have Al := HI.out t (List.mem_of_getElem? ht)
      have hi2 := An.out t2 (List.mem_of_getElem? Ac)
      have Ai := eM (Keeps.of_below HW.out)
      have Ak : Kp [192] Any w wr := Kp.of_keeps (Keeps.of_below HW.out) (by decide) (by decide)
      obtain ⟨ga, xa, ya, e1, _, h1, h2⟩ := (HA.out.keep Ak (by decide) (fun _ _ h => h.keep (T := ei) Ai (by decide))).at ht
      obtain ⟨gb, xb, yb, e2, _, h3, h4⟩ := (HB.out.keep Ak (by decide) (fun _ _ h => h.keep (T := ei) Ai (by decide))).at Ac
      simp only [Value.slice.injEq] at e1 e2
      obtain ⟨rfl, -, rfl⟩ := e1
      obtain ⟨rfl, -, rfl⟩ := e2
      obtain ⟨s0, rfl, Ad⟩ := h1
      obtain ⟨r0, rfl, Ae⟩ := h3
      obtain ⟨Aa, Ab, rfl⟩ := ed Ad
      obtain ⟨Ag, Ah, rfl⟩ := ed Ae
      have a0 : wr.cell? ⟨ga, k * 4, none⟩ = some (.int .i64 (t.coef)) := by have := h2 0 _ rfl; simpa using this
      have b0 : wr.cell? ⟨gb, k * 4, none⟩ = some (.int .i64 (t2.coef)) := by have := h4 0 _ rfl; simpa using this
      have a1 : wr.cell? ⟨ga, k * 4 + 1, none⟩ = some (.string ⟨(t.pred).toArray⟩) := by have := h2 1 _ rfl; simpa using this
      have b1 : wr.cell? ⟨gb, k * 4 + 1, none⟩ = some (.string ⟨(t2.pred).toArray⟩) := by have := h4 1 _ rfl; simpa using this
      have a2 : wr.cell? ⟨ga, k * 4 + 2, none⟩ = some (.slice Aa (t.args).length Ab) := by have := h2 2 _ rfl; simpa using this
      have b2 : wr.cell? ⟨gb, k * 4 + 2, none⟩ = some (.slice Ag (t2.args).length Ah) := by have := h4 2 _ rfl; simpa using this
      have a3 : wr.cell? ⟨ga, k * 4 + 3, none⟩ = some (.int .i64 (t.value)) := by have := h2 3 _ rfl; simpa using this
      have b3 : wr.cell? ⟨gb, k * 4 + 3, none⟩ = some (.int .i64 (t2.value)) := by have := h4 3 _ rfl; simpa using this
      have e0 : (wr.alloc (.cells #[.int .i64 (t.coef), .string ⟨(t.pred).toArray⟩, .slice Aa (t.args).length Ab, .int .i64 (t.value)] 192)).cell? ⟨gb, k * 4, none⟩ = some (.int .i64 (t2.coef)) := Grows.cell (Grows.alloc _ _) b0
      have e1 : (wr.alloc (.cells #[.int .i64 (t.coef), .string ⟨(t.pred).toArray⟩, .slice Aa (t.args).length Ab, .int .i64 (t.value)] 192)).cell? ⟨gb, k * 4 + 1, none⟩ = some (.string ⟨(t2.pred).toArray⟩) := Grows.cell (Grows.alloc _ _) b1
      have e2 : (wr.alloc (.cells #[.int .i64 (t.coef), .string ⟨(t.pred).toArray⟩, .slice Aa (t.args).length Ab, .int .i64 (t.value)] 192)).cell? ⟨gb, k * 4 + 2, none⟩ = some (.slice Ag (t2.args).length Ah) := Grows.cell (Grows.alloc _ _) b2
      have e3 : (wr.alloc (.cells #[.int .i64 (t.coef), .string ⟨(t.pred).toArray⟩, .slice Aa (t.args).length Ab, .int .i64 (t.value)] 192)).cell? ⟨gb, k * 4 + 3, none⟩ = some (.int .i64 (t2.value)) := Grows.cell (Grows.alloc _ _) b3
      have gq : Grows wr ((wr.alloc (.cells #[.int .i64 (t.coef), .string ⟨(t.pred).toArray⟩, .slice Aa (t.args).length Ab, .int .i64 (t.value)] 192)).alloc (.cells #[.int .i64 (t2.coef), .string ⟨(t2.pred).toArray⟩, .slice Ag (t2.args).length Ah, .int .i64 (t2.value)] 192)) := lq
      have Ad := Strs.keep (T := ei) Ad (eM gq.keeps) (by decide)
      have Ae := Strs.keep (T := ei) Ae (eM gq.keeps) (by decide)
      have C := ec (B9 t.coef t2.coef t.pred t2.pred t.args t2.args t.value t2.value _ _ ((wr.alloc (.cells #[.int .i64 (t.coef), .string ⟨(t.pred).toArray⟩, .slice Aa (t.args).length Ab, .int .i64 (t.value)] 192)).alloc (.cells #[.int .i64 (t2.coef), .string ⟨(t2.pred).toArray⟩, .slice Ag (t2.args).length Ah, .int .i64 (t2.value)] 192)) Ad Ae Al hi2)
      have GQ := ec (Below.trans HW.out (Below.mono gq HW.out.size))
      clear h2 h4 gq Ai Ak Al hi2 Ad Ae
      by_cases htt : t = t2
      · have HS := ec (fK ht (htt ▸ Ac) HE.out)
        have Af : decide (t = t2) = true := decide_eq_true htt
        change Hid (Calls _ _ _ _ fun e w' => e = .returned (.bool (decide (t = t2))) ∧ _) at C
        rw [Af] at C
        clear ht Ac HE htt Af
        go_wp2_with fail
        refine C.out.mono ?_
        rintro _ w2 ⟨rfl, hb⟩
        have Aj := ec (Below.trans GQ.out (Below.mono hb GQ.out.size))
        clear hb C
        go_wp2_with fail
        go_roundw
        case rel => exact ⟨k + 1, by omega, by go_num, Aj, HS⟩
        case measure => simp [intOf]; omega
      · have HN := ec (fU ht Ac htt)
        have Af : decide (t = t2) = false := decide_eq_false htt
        change Hid (Calls _ _ _ _ fun e w' => e = .returned (.bool (decide (t = t2))) ∧ _) at C
        rw [Af] at C
        clear ht Ac HE htt Af
        go_wp2_with fail
        refine C.out.mono ?_
        rintro _ w2 ⟨rfl, hb⟩
        have Aj := ec (Below.trans GQ.out (Below.mono hb GQ.out.size))
        clear hb C
        go_wp2_with fail
        go_ret
        exact ⟨eh HN.out.symm, Aj.out⟩
    · have HS := ec (fR Am.out (by omega) HE.out)
      go_wp2_with fail
      go_ret
      exact ⟨eh HS.out.symm, HW.out⟩
 · have HN := ec (fT hlen)
   go_enter Tryz.func262, Tryz.ntmps262
   go_wp2_with fail
   go_ret
   exact ⟨eh HN.out.symm, Below.refl _ w⟩
theorem vY (neg1 neg2 : Bool) (pred1 pred2 : ee) (args1 args2 : List ee) (has1 has2 : Bool) (value1 value2 : Int) (vargs1 vargs2 : Value) (w : World) (largs1 : Strs Any w args1 vargs1) (largs2 : Strs Any w args2 vargs2) (hargs1 : args1.length ≤ 1000000000) (hargs2 : args2.length ≤ 1000000000) :
    Calls Tryz.prog 157 #[.agg #[.bool (neg1), .string ⟨(pred1).toArray⟩, vargs1, .bool (has1), .int .i64 (value1)], .agg #[.bool (neg2), .string ⟨(pred2).toArray⟩, vargs2, .bool (has2), .int .i64 (value2)]] w fun e w' => e = .returned (.bool (decide ((⟨neg1, pred1, args1, has1, value1⟩ : jQ) = ⟨neg2, pred2, args2, has2, value2⟩))) ∧ Below w.heap.size w w' := by
 obtain ⟨Aa, Ac, rfl⟩ := ed largs1
 have Hargs1 := ec largs1
 clear largs1
 obtain ⟨Ab, Ad, rfl⟩ := ed largs2
 have Hargs2 := ec largs2
 clear largs2
 obtain ⟨hn, hm, hg⟩ := jd w (.cells #[.bool (neg1), .string ⟨(pred1).toArray⟩, .slice Aa args1.length Ac, .bool (has1), .int .i64 (value1)] 47) (.cells #[.bool (neg2), .string ⟨(pred2).toArray⟩, .slice Ab args2.length Ad, .bool (has2), .int .i64 (value2)] 47)
 have N0 := ec hn
 have N1 := ec hm
 have G0 := ec hg
 clear hn hm hg
 go_enter Tryz.func157, Tryz.ntmps157
 by_cases h0 : neg1 = neg2
 rotate_left 1
 · have Ae : (neg1 == neg2) = false := beq_eq_false_iff_ne.2 h0
   go_wp2_with fail
   go_ret
   exact ⟨eh (decide_eq_false fun e => h0 (by injection e)).symm, G0.out⟩
 subst h0
 by_cases h1 : pred1 = pred2
 rotate_left 1
 · have Ae : (pred1 == pred2) = false := beq_eq_false_iff_ne.2 h1
   go_wp2_with fail
   go_ret
   exact ⟨eh (decide_eq_false fun e => h1 (by injection e)).symm, G0.out⟩
 subst h1
 have C := ec (jP args1 args2 _ _ _ (Strs.keep (T := ei) Hargs1.out (eM G0.out.keeps) (by decide)) (Strs.keep (T := ei) Hargs2.out (eM G0.out.keeps) (by decide)) hargs1 hargs2)
 go_wp2_with fail
 refine C.out.mono ?_
 rintro _ w2 ⟨rfl, hb⟩
 have P2 := eK hb N0
 have Q2 := eK hb N1
 obtain ⟨Aj, Aq, Ap, An, Ak, Af⟩ := gN P2.out
 obtain ⟨Am, Ai, Ao, Ag, Ah, Al⟩ := gN Q2.out
 have G3 := ec (Grows.trans G0.out hb)
 clear hb C
 by_cases h2 : args1 = args2
 rotate_left 1
 · rw [decide_eq_false h2]
   go_wp2_with fail
   go_ret
   exact ⟨eh (decide_eq_false fun e => h2 (by injection e)).symm, G3.out⟩
 subst h2
 rw [show decide (args1 = args1) = true from decide_eq_true rfl]
 by_cases h3 : has1 = has2
 rotate_left 1
 · have Ae : (has1 == has2) = false := beq_eq_false_iff_ne.2 h3
   go_wp2_with fail
   go_ret
   exact ⟨eh (decide_eq_false fun e => h3 (by injection e)).symm, G3.out⟩
 subst h3
 by_cases h4 : value1 = value2
 rotate_left 1
 · have Ae : (value1 == value2) = false := beq_eq_false_iff_ne.2 h4
   go_wp2_with fail
   go_ret
   exact ⟨eh (decide_eq_false fun e => h4 (by injection e)).symm, G3.out⟩
 subst h4
 go_wp2_with fail
 go_ret
 exact ⟨by first | rfl | exact eh (decide_eq_true rfl).symm, G3.out⟩
theorem zp (left1 left2 : List ft) (op1 op2 : Int) (right1 right2 : List ft) (vleft1 vleft2 : Value) (vright1 vright2 : Value) (w : World) (lleft1 : Terms Any w left1 vleft1) (lleft2 : Terms Any w left2 vleft2) (lright1 : Terms Any w right1 vright1) (lright2 : Terms Any w right2 vright2) (hleft1 : (left1.length ≤ 1000000000 ∧ ∀ t ∈ left1, t.args.length ≤ 1000000000)) (hleft2 : (left2.length ≤ 1000000000 ∧ ∀ t ∈ left2, t.args.length ≤ 1000000000)) (hright1 : (right1.length ≤ 1000000000 ∧ ∀ t ∈ right1, t.args.length ≤ 1000000000)) (hright2 : (right2.length ≤ 1000000000 ∧ ∀ t ∈ right2, t.args.length ≤ 1000000000)) :
    Calls Tryz.prog 212 #[.agg #[vleft1, .int .i64 (op1), vright1], .agg #[vleft2, .int .i64 (op2), vright2]] w fun e w' => e = .returned (.bool (decide ((⟨left1, op1, right1⟩ : jf) = ⟨left2, op2, right2⟩))) ∧ Below w.heap.size w w' := by
 obtain ⟨Af, Ag, rfl⟩ := ed lleft1
 have Hleft1 := ec lleft1
 clear lleft1
 obtain ⟨Ah, Ae, rfl⟩ := ed lleft2
 have Hleft2 := ec lleft2
 clear lleft2
 obtain ⟨Ab, Aa, rfl⟩ := ed lright1
 have Hright1 := ec lright1
 clear lright1
 obtain ⟨Ad, Ac, rfl⟩ := ed lright2
 have Hright2 := ec lright2
 clear lright2
 obtain ⟨hn, hm, hg⟩ := jd w (.cells #[.slice Af left1.length Ag, .int .i64 (op1), .slice Ab right1.length Aa] 53) (.cells #[.slice Ah left2.length Ae, .int .i64 (op2), .slice Ad right2.length Ac] 53)
 have N0 := ec hn
 have N1 := ec hm
 have G0 := ec hg
 clear hn hm hg
 go_enter Tryz.func212, Tryz.ntmps212
 have C := ec (sI left1 left2 _ _ _ (Terms.keep (T := ei) Hleft1.out (eM G0.out.keeps) (by decide) (by decide)) (Terms.keep (T := ei) Hleft2.out (eM G0.out.keeps) (by decide) (by decide)) hleft1.1 hleft2.1 hleft1.2 hleft2.2)
 go_wp2_with fail
 refine C.out.mono ?_
 rintro _ w0 ⟨rfl, hb⟩
 have P0 := eK hb N0
 have Q0 := eK hb N1
 obtain ⟨Al, Av, Ao, An⟩ := fj P0.out
 obtain ⟨Aj, Am, As, Ak⟩ := fj Q0.out
 have G1 := ec (Grows.trans G0.out hb)
 clear hb C
 by_cases h0 : left1 = left2
 rotate_left 1
 · rw [decide_eq_false h0]
   go_wp2_with fail
   go_ret
   exact ⟨eh (decide_eq_false fun e => h0 (by injection e)).symm, G1.out⟩
 subst h0
 rw [show decide (left1 = left1) = true from decide_eq_true rfl]
 by_cases h1 : op1 = op2
 rotate_left 1
 · have Ay : (op1 == op2) = false := beq_eq_false_iff_ne.2 h1
   go_wp2_with fail
   go_ret
   exact ⟨eh (decide_eq_false fun e => h1 (by injection e)).symm, G1.out⟩
 subst h1
 have C := ec (sI right1 right2 _ _ _ (Terms.keep (T := ei) Hright1.out (eM G1.out.keeps) (by decide) (by decide)) (Terms.keep (T := ei) Hright2.out (eM G1.out.keeps) (by decide) (by decide)) hright1.1 hright2.1 hright1.2 hright2.2)
 go_wp2_with fail
 refine C.out.mono ?_
 rintro _ w2 ⟨rfl, hb⟩
 have P2 := eK hb P0
 have Q2 := eK hb Q0
 obtain ⟨Aw, Ax, Ap, At⟩ := fj P2.out
 obtain ⟨Aq, Ar, Au, Ai⟩ := fj Q2.out
 have G3 := ec (Grows.trans G1.out hb)
 clear hb C
 by_cases h2 : right1 = right2
 rotate_left 1
 · rw [decide_eq_false h2]
   go_wp2_with fail
   go_ret
   exact ⟨eh (decide_eq_false fun e => h2 (by injection e)).symm, G3.out⟩
 subst h2
 rw [show decide (right1 = right1) = true from decide_eq_true rfl]
 go_wp2_with fail
 go_ret
 exact ⟨by first | rfl | exact eh (decide_eq_true rfl).symm, G3.out⟩
theorem zY (name1 name2 : ee) (sort1 sort2 : Int) (kinds1 kinds2 : List ee) (values1 values2 : List Int) (vkinds1 vkinds2 : Value) (vvalues1 vvalues2 : Value) (w : World) (lkinds1 : Strs Any w kinds1 vkinds1) (lkinds2 : Strs Any w kinds2 vkinds2) (lvalues1 : Moneys Any w values1 vvalues1) (lvalues2 : Moneys Any w values2 vvalues2) (hkinds1 : kinds1.length ≤ 1000000000) (hkinds2 : kinds2.length ≤ 1000000000) (hvalues1 : values1.length ≤ 1000000000) (hvalues2 : values2.length ≤ 1000000000) :
    Calls Tryz.prog 93 #[.agg #[.string ⟨(name1).toArray⟩, .int .i64 (sort1), vkinds1, vvalues1], .agg #[.string ⟨(name2).toArray⟩, .int .i64 (sort2), vkinds2, vvalues2]] w fun e w' => e = .returned (.bool (decide ((⟨name1, sort1, kinds1, values1⟩ : fZ) = ⟨name2, sort2, kinds2, values2⟩))) ∧ Below w.heap.size w w' := by
 obtain ⟨Af, Ag, rfl⟩ := ed lkinds1
 have Hkinds1 := ec lkinds1
 clear lkinds1
 obtain ⟨Ah, Ae, rfl⟩ := ed lkinds2
 have Hkinds2 := ec lkinds2
 clear lkinds2
 obtain ⟨Ac, Ab, rfl⟩ := ed lvalues1
 have Hvalues1 := ec lvalues1
 clear lvalues1
 obtain ⟨Aa, Ad, rfl⟩ := ed lvalues2
 have Hvalues2 := ec lvalues2
 clear lvalues2
 obtain ⟨hn, hm, hg⟩ := jd w (.cells #[.string ⟨(name1).toArray⟩, .int .i64 (sort1), .slice Af kinds1.length Ag, .slice Ac values1.length Ab] 128) (.cells #[.string ⟨(name2).toArray⟩, .int .i64 (sort2), .slice Ah kinds2.length Ae, .slice Aa values2.length Ad] 128)
 have N0 := ec hn
 have N1 := ec hm
 have G0 := ec hg
 clear hn hm hg
 go_enter Tryz.func93, Tryz.ntmps93
 by_cases h0 : name1 = name2
 rotate_left 1
 · have Ai : (name1 == name2) = false := beq_eq_false_iff_ne.2 h0
   go_wp2_with fail
   go_ret
   exact ⟨eh (decide_eq_false fun e => h0 (by injection e)).symm, G0.out⟩
 subst h0
 by_cases h1 : sort1 = sort2
 rotate_left 1
 · have Ai : (sort1 == sort2) = false := beq_eq_false_iff_ne.2 h1
   go_wp2_with fail
   go_ret
   exact ⟨eh (decide_eq_false fun e => h1 (by injection e)).symm, G0.out⟩
 subst h1
 have C := ec (jP kinds1 kinds2 _ _ _ (Strs.keep (T := ei) Hkinds1.out (eM G0.out.keeps) (by decide)) (Strs.keep (T := ei) Hkinds2.out (eM G0.out.keeps) (by decide)) hkinds1 hkinds2)
 go_wp2_with fail
 refine C.out.mono ?_
 rintro _ w2 ⟨rfl, hb⟩
 have P2 := eK hb N0
 have Q2 := eK hb N1
 obtain ⟨AA, AC, At, Aw, Am⟩ := fy P2.out
 obtain ⟨AB, Au, Ax, Ak, Az⟩ := fy Q2.out
 have G3 := ec (Grows.trans G0.out hb)
 clear hb C
 by_cases h2 : kinds1 = kinds2
 rotate_left 1
 · rw [decide_eq_false h2]
   go_wp2_with fail
   go_ret
   exact ⟨eh (decide_eq_false fun e => h2 (by injection e)).symm, G3.out⟩
 subst h2
 rw [show decide (kinds1 = kinds1) = true from decide_eq_true rfl]
 have C := ec (wu values1 values2 _ _ _ (Moneys.keep (T := ei) Hvalues1.out (eM G3.out.keeps) (by decide)) (Moneys.keep (T := ei) Hvalues2.out (eM G3.out.keeps) (by decide)) hvalues1 hvalues2)
 go_wp2_with fail
 refine C.out.mono ?_
 rintro _ w3 ⟨rfl, hb⟩
 have P3 := eK hb P2
 have Q3 := eK hb Q2
 obtain ⟨Ao, Av, Ap, Ay, Al⟩ := fy P3.out
 obtain ⟨An, Ar, As, Aq, Aj⟩ := fy Q3.out
 have G4 := ec (Grows.trans G3.out hb)
 clear hb C
 by_cases h3 : values1 = values2
 rotate_left 1
 · rw [decide_eq_false h3]
   go_wp2_with fail
   go_ret
   exact ⟨eh (decide_eq_false fun e => h3 (by injection e)).symm, G4.out⟩
 subst h3
 rw [show decide (values1 = values1) = true from decide_eq_true rfl]
 go_wp2_with fail
 go_ret
 exact ⟨by first | rfl | exact eh (decide_eq_true rfl).symm, G4.out⟩
theorem ye (l l2 : List fZ) (va vb : Value) (w : World) (ha : Rows Any 128 4 (cPred Any) w l va) (hb : Rows Any 128 4 (cPred Any) w l2 vb) (hl : l.length ≤ 1000000000) (_hl2 : l2.length ≤ 1000000000) (hi : ∀ t ∈ l, t.kinds.length ≤ 1000000000 ∧ t.values.length ≤ 1000000000) (hi2 : ∀ t ∈ l2, t.kinds.length ≤ 1000000000 ∧ t.values.length ≤ 1000000000) :
    Calls Tryz.prog 92 #[va, vb, .func (.func 93) #[] #[]] w fun e w' => e = .returned (.bool (decide (l = l2))) ∧ Below w.heap.size w w' := by
 have HA := ec ha
 have HB := ec hb
 have HI := ec hi
 have At := ec hi2
 obtain ⟨aa, ca, rfl⟩ := ed ha
 obtain ⟨ab, cb, rfl⟩ := ed hb
 clear ha hb hi hi2
 by_cases hlen : l.length = l2.length
 · rw [← hlen] at HB ⊢
   have As := ec hlen
   clear hlen
   go_enter Tryz.func92, Tryz.ntmps92
   go_wp2_with fail
   go_loopw [17] (fun x wr => ∃ k : Nat, k ≤ l.length ∧ x = .int .i64 k ∧ Hid (Below w.heap.size w wr) ∧ Hid (l.take k = l2.take k)) (fun x _ => l.length - (intOf x).toNat)
   case atStart => exact ⟨0, by omega, rfl, ec (Below.refl _ _), ec rfl⟩
   case round =>
    obtain ⟨k, hk, rfl, HW, HE⟩ := hrel
    by_cases hlt : k < l.length
    · obtain ⟨t, ht⟩ : ∃ t, l[k]? = some t := ⟨l[k], by simp [hlt]⟩
      obtain ⟨t2, Ae⟩ : ∃ t, l2[k]? = some t := ⟨l2[k]'(by have := As.out; omega), by simp⟩
      have Ap := HI.out t (List.mem_of_getElem? ht)
      have hi2 := At.out t2 (List.mem_of_getElem? Ae)
      have Ao := eM (Keeps.of_below HW.out)
      have Aq : Kp [128] Any w wr := Kp.of_keeps (Keeps.of_below HW.out) (by decide) (by decide)
      obtain ⟨ga, xa, ya, e1, _, h1, h2⟩ := (HA.out.keep Aq (by decide) (fun _ _ h => h.keep Ao)).at ht
      obtain ⟨gb, xb, yb, e2, _, h3, h4⟩ := (HB.out.keep Aq (by decide) (fun _ _ h => h.keep Ao)).at Ae
      simp only [Value.slice.injEq] at e1 e2
      obtain ⟨rfl, -, rfl⟩ := e1
      obtain ⟨rfl, -, rfl⟩ := e2
      obtain ⟨s0, s1, rfl, Af, Ai⟩ := h1
      obtain ⟨r0, r1, rfl, Ag, Ah⟩ := h3
      obtain ⟨Ac, Aa, rfl⟩ := ed Af
      obtain ⟨Al, Am, rfl⟩ := ed Ag
      obtain ⟨Ad, Ab, rfl⟩ := ed Ai
      obtain ⟨Ak, An, rfl⟩ := ed Ah
      have a0 : wr.cell? ⟨ga, k * 4, none⟩ = some (.string ⟨(t.name).toArray⟩) := by have := h2 0 _ rfl; simpa using this
      have b0 : wr.cell? ⟨gb, k * 4, none⟩ = some (.string ⟨(t2.name).toArray⟩) := by have := h4 0 _ rfl; simpa using this
      have a1 : wr.cell? ⟨ga, k * 4 + 1, none⟩ = some (.int .i64 (t.sort)) := by have := h2 1 _ rfl; simpa using this
      have b1 : wr.cell? ⟨gb, k * 4 + 1, none⟩ = some (.int .i64 (t2.sort)) := by have := h4 1 _ rfl; simpa using this
      have a2 : wr.cell? ⟨ga, k * 4 + 2, none⟩ = some (.slice Ac (t.kinds).length Aa) := by have := h2 2 _ rfl; simpa using this
      have b2 : wr.cell? ⟨gb, k * 4 + 2, none⟩ = some (.slice Al (t2.kinds).length Am) := by have := h4 2 _ rfl; simpa using this
      have a3 : wr.cell? ⟨ga, k * 4 + 3, none⟩ = some (.slice Ad (t.values).length Ab) := by have := h2 3 _ rfl; simpa using this
      have b3 : wr.cell? ⟨gb, k * 4 + 3, none⟩ = some (.slice Ak (t2.values).length An) := by have := h4 3 _ rfl; simpa using this
      have e0 : (wr.alloc (.cells #[.string ⟨(t.name).toArray⟩, .int .i64 (t.sort), .slice Ac (t.kinds).length Aa, .slice Ad (t.values).length Ab] 128)).cell? ⟨gb, k * 4, none⟩ = some (.string ⟨(t2.name).toArray⟩) := Grows.cell (Grows.alloc _ _) b0
      have e1 : (wr.alloc (.cells #[.string ⟨(t.name).toArray⟩, .int .i64 (t.sort), .slice Ac (t.kinds).length Aa, .slice Ad (t.values).length Ab] 128)).cell? ⟨gb, k * 4 + 1, none⟩ = some (.int .i64 (t2.sort)) := Grows.cell (Grows.alloc _ _) b1
      have e2 : (wr.alloc (.cells #[.string ⟨(t.name).toArray⟩, .int .i64 (t.sort), .slice Ac (t.kinds).length Aa, .slice Ad (t.values).length Ab] 128)).cell? ⟨gb, k * 4 + 2, none⟩ = some (.slice Al (t2.kinds).length Am) := Grows.cell (Grows.alloc _ _) b2
      have e3 : (wr.alloc (.cells #[.string ⟨(t.name).toArray⟩, .int .i64 (t.sort), .slice Ac (t.kinds).length Aa, .slice Ad (t.values).length Ab] 128)).cell? ⟨gb, k * 4 + 3, none⟩ = some (.slice Ak (t2.values).length An) := Grows.cell (Grows.alloc _ _) b3
      have gq : Grows wr ((wr.alloc (.cells #[.string ⟨(t.name).toArray⟩, .int .i64 (t.sort), .slice Ac (t.kinds).length Aa, .slice Ad (t.values).length Ab] 128)).alloc (.cells #[.string ⟨(t2.name).toArray⟩, .int .i64 (t2.sort), .slice Al (t2.kinds).length Am, .slice Ak (t2.values).length An] 128)) := lq
      have Af := Strs.keep (T := ei) Af (eM gq.keeps) (by decide)
      have Ag := Strs.keep (T := ei) Ag (eM gq.keeps) (by decide)
      have Ai := Moneys.keep (T := ei) Ai (eM gq.keeps) (by decide)
      have Ah := Moneys.keep (T := ei) Ah (eM gq.keeps) (by decide)
      have C := ec (zY t.name t2.name t.sort t2.sort t.kinds t2.kinds t.values t2.values _ _ _ _ ((wr.alloc (.cells #[.string ⟨(t.name).toArray⟩, .int .i64 (t.sort), .slice Ac (t.kinds).length Aa, .slice Ad (t.values).length Ab] 128)).alloc (.cells #[.string ⟨(t2.name).toArray⟩, .int .i64 (t2.sort), .slice Al (t2.kinds).length Am, .slice Ak (t2.values).length An] 128)) Af Ag Ai Ah Ap.1 hi2.1 Ap.2 hi2.2)
      have GQ := ec (Below.trans HW.out (Below.mono gq HW.out.size))
      clear h2 h4 gq Ao Aq Ap hi2 Af Ag Ai Ah
      by_cases htt : t = t2
      · have HS := ec (fK ht (htt ▸ Ae) HE.out)
        have Aj : decide (t = t2) = true := decide_eq_true htt
        change Hid (Calls _ _ _ _ fun e w' => e = .returned (.bool (decide (t = t2))) ∧ _) at C
        rw [Aj] at C
        clear ht Ae HE htt Aj
        go_wp2_with fail
        refine C.out.mono ?_
        rintro _ w2 ⟨rfl, hb⟩
        have Ar := ec (Below.trans GQ.out (Below.mono hb GQ.out.size))
        clear hb C
        go_wp2_with fail
        go_roundw
        case rel => exact ⟨k + 1, by omega, by go_num, Ar, HS⟩
        case measure => simp [intOf]; omega
      · have HN := ec (fU ht Ae htt)
        have Aj : decide (t = t2) = false := decide_eq_false htt
        change Hid (Calls _ _ _ _ fun e w' => e = .returned (.bool (decide (t = t2))) ∧ _) at C
        rw [Aj] at C
        clear ht Ae HE htt Aj
        go_wp2_with fail
        refine C.out.mono ?_
        rintro _ w2 ⟨rfl, hb⟩
        have Ar := ec (Below.trans GQ.out (Below.mono hb GQ.out.size))
        clear hb C
        go_wp2_with fail
        go_ret
        exact ⟨eh HN.out.symm, Ar.out⟩
    · have HS := ec (fR As.out (by omega) HE.out)
      go_wp2_with fail
      go_ret
      exact ⟨eh HS.out.symm, HW.out⟩
 · have HN := ec (fT hlen)
   go_enter Tryz.func92, Tryz.ntmps92
   go_wp2_with fail
   go_ret
   exact ⟨eh HN.out.symm, Below.refl _ w⟩
theorem yF (name1 name2 : ee) (kind1 kind2 : ee) (preds1 preds2 : List ee) (has1 has2 : Bool) (cap1 cap2 : Int) (vpreds1 vpreds2 : Value) (w : World) (lpreds1 : Strs Any w preds1 vpreds1) (lpreds2 : Strs Any w preds2 vpreds2) (hpreds1 : preds1.length ≤ 1000000000) (hpreds2 : preds2.length ≤ 1000000000) :
    Calls Tryz.prog 100 #[.agg #[.string ⟨(name1).toArray⟩, .string ⟨(kind1).toArray⟩, vpreds1, .bool (has1), .int .i64 (cap1)], .agg #[.string ⟨(name2).toArray⟩, .string ⟨(kind2).toArray⟩, vpreds2, .bool (has2), .int .i64 (cap2)]] w fun e w' => e = .returned (.bool (decide ((⟨name1, kind1, preds1, has1, cap1⟩ : gx) = ⟨name2, kind2, preds2, has2, cap2⟩))) ∧ Below w.heap.size w w' := by
 obtain ⟨Aa, Ab, rfl⟩ := ed lpreds1
 have Hpreds1 := ec lpreds1
 clear lpreds1
 obtain ⟨Ac, Ad, rfl⟩ := ed lpreds2
 have Hpreds2 := ec lpreds2
 clear lpreds2
 obtain ⟨hn, hm, hg⟩ := jd w (.cells #[.string ⟨(name1).toArray⟩, .string ⟨(kind1).toArray⟩, .slice Aa preds1.length Ab, .bool (has1), .int .i64 (cap1)] 135) (.cells #[.string ⟨(name2).toArray⟩, .string ⟨(kind2).toArray⟩, .slice Ac preds2.length Ad, .bool (has2), .int .i64 (cap2)] 135)
 have N0 := ec hn
 have N1 := ec hm
 have G0 := ec hg
 clear hn hm hg
 go_enter Tryz.func100, Tryz.ntmps100
 by_cases h0 : name1 = name2
 rotate_left 1
 · have Ae : (name1 == name2) = false := beq_eq_false_iff_ne.2 h0
   go_wp2_with fail
   go_ret
   exact ⟨eh (decide_eq_false fun e => h0 (by injection e)).symm, G0.out⟩
 subst h0
 by_cases h1 : kind1 = kind2
 rotate_left 1
 · have Ae : (kind1 == kind2) = false := beq_eq_false_iff_ne.2 h1
   go_wp2_with fail
   go_ret
   exact ⟨eh (decide_eq_false fun e => h1 (by injection e)).symm, G0.out⟩
 subst h1
 have C := ec (jP preds1 preds2 _ _ _ (Strs.keep (T := ei) Hpreds1.out (eM G0.out.keeps) (by decide)) (Strs.keep (T := ei) Hpreds2.out (eM G0.out.keeps) (by decide)) hpreds1 hpreds2)
 go_wp2_with fail
 refine C.out.mono ?_
 rintro _ w2 ⟨rfl, hb⟩
 have P2 := eK hb N0
 have Q2 := eK hb N1
 obtain ⟨Aj, Aq, Ap, An, Ak, Af⟩ := gN P2.out
 obtain ⟨Am, Ai, Ao, Ag, Ah, Al⟩ := gN Q2.out
 have G3 := ec (Grows.trans G0.out hb)
 clear hb C
 by_cases h2 : preds1 = preds2
 rotate_left 1
 · rw [decide_eq_false h2]
   go_wp2_with fail
   go_ret
   exact ⟨eh (decide_eq_false fun e => h2 (by injection e)).symm, G3.out⟩
 subst h2
 rw [show decide (preds1 = preds1) = true from decide_eq_true rfl]
 by_cases h3 : has1 = has2
 rotate_left 1
 · have Ae : (has1 == has2) = false := beq_eq_false_iff_ne.2 h3
   go_wp2_with fail
   go_ret
   exact ⟨eh (decide_eq_false fun e => h3 (by injection e)).symm, G3.out⟩
 subst h3
 by_cases h4 : cap1 = cap2
 rotate_left 1
 · have Ae : (cap1 == cap2) = false := beq_eq_false_iff_ne.2 h4
   go_wp2_with fail
   go_ret
   exact ⟨eh (decide_eq_false fun e => h4 (by injection e)).symm, G3.out⟩
 subst h4
 go_wp2_with fail
 go_ret
 exact ⟨by first | rfl | exact eh (decide_eq_true rfl).symm, G3.out⟩
theorem wF (l l2 : List gx) (va vb : Value) (w : World) (ha : Rows Any 135 5 (cTotal Any) w l va) (hb : Rows Any 135 5 (cTotal Any) w l2 vb) (hl : l.length ≤ 1000000000) (_hl2 : l2.length ≤ 1000000000) (hi : ∀ t ∈ l, t.preds.length ≤ 1000000000) (hi2 : ∀ t ∈ l2, t.preds.length ≤ 1000000000) :
    Calls Tryz.prog 99 #[va, vb, .func (.func 100) #[] #[]] w fun e w' => e = .returned (.bool (decide (l = l2))) ∧ Below w.heap.size w w' := by
 have HA := ec ha
 have HB := ec hb
 have HI := ec hi
 have An := ec hi2
 obtain ⟨aa, ca, rfl⟩ := ed ha
 obtain ⟨ab, cb, rfl⟩ := ed hb
 clear ha hb hi hi2
 by_cases hlen : l.length = l2.length
 · rw [← hlen] at HB ⊢
   have Am := ec hlen
   clear hlen
   go_enter Tryz.func99, Tryz.ntmps99
   go_wp2_with fail
   go_loopw [17] (fun x wr => ∃ k : Nat, k ≤ l.length ∧ x = .int .i64 k ∧ Hid (Below w.heap.size w wr) ∧ Hid (l.take k = l2.take k)) (fun x _ => l.length - (intOf x).toNat)
   case atStart => exact ⟨0, by omega, rfl, ec (Below.refl _ _), ec rfl⟩
   case round =>
    obtain ⟨k, hk, rfl, HW, HE⟩ := hrel
    by_cases hlt : k < l.length
    · obtain ⟨t, ht⟩ : ∃ t, l[k]? = some t := ⟨l[k], by simp [hlt]⟩
      obtain ⟨t2, Ac⟩ : ∃ t, l2[k]? = some t := ⟨l2[k]'(by have := Am.out; omega), by simp⟩
      have Al := HI.out t (List.mem_of_getElem? ht)
      have hi2 := An.out t2 (List.mem_of_getElem? Ac)
      have Ai := eM (Keeps.of_below HW.out)
      have Ak : Kp [135] Any w wr := Kp.of_keeps (Keeps.of_below HW.out) (by decide) (by decide)
      obtain ⟨ga, xa, ya, e1, _, h1, h2⟩ := (HA.out.keep Ak (by decide) (fun _ _ h => h.keep Ai)).at ht
      obtain ⟨gb, xb, yb, e2, _, h3, h4⟩ := (HB.out.keep Ak (by decide) (fun _ _ h => h.keep Ai)).at Ac
      simp only [Value.slice.injEq] at e1 e2
      obtain ⟨rfl, -, rfl⟩ := e1
      obtain ⟨rfl, -, rfl⟩ := e2
      obtain ⟨s0, rfl, Ad⟩ := h1
      obtain ⟨r0, rfl, Ae⟩ := h3
      obtain ⟨Aa, Ab, rfl⟩ := ed Ad
      obtain ⟨Ag, Ah, rfl⟩ := ed Ae
      have a0 : wr.cell? ⟨ga, k * 5, none⟩ = some (.string ⟨(t.name).toArray⟩) := by have := h2 0 _ rfl; simpa using this
      have b0 : wr.cell? ⟨gb, k * 5, none⟩ = some (.string ⟨(t2.name).toArray⟩) := by have := h4 0 _ rfl; simpa using this
      have a1 : wr.cell? ⟨ga, k * 5 + 1, none⟩ = some (.string ⟨(t.kind).toArray⟩) := by have := h2 1 _ rfl; simpa using this
      have b1 : wr.cell? ⟨gb, k * 5 + 1, none⟩ = some (.string ⟨(t2.kind).toArray⟩) := by have := h4 1 _ rfl; simpa using this
      have a2 : wr.cell? ⟨ga, k * 5 + 2, none⟩ = some (.slice Aa (t.preds).length Ab) := by have := h2 2 _ rfl; simpa using this
      have b2 : wr.cell? ⟨gb, k * 5 + 2, none⟩ = some (.slice Ag (t2.preds).length Ah) := by have := h4 2 _ rfl; simpa using this
      have a3 : wr.cell? ⟨ga, k * 5 + 3, none⟩ = some (.bool (t.hasCap)) := by have := h2 3 _ rfl; simpa using this
      have b3 : wr.cell? ⟨gb, k * 5 + 3, none⟩ = some (.bool (t2.hasCap)) := by have := h4 3 _ rfl; simpa using this
      have a4 : wr.cell? ⟨ga, k * 5 + 4, none⟩ = some (.int .i64 (t.cap)) := by have := h2 4 _ rfl; simpa using this
      have b4 : wr.cell? ⟨gb, k * 5 + 4, none⟩ = some (.int .i64 (t2.cap)) := by have := h4 4 _ rfl; simpa using this
      have e0 : (wr.alloc (.cells #[.string ⟨(t.name).toArray⟩, .string ⟨(t.kind).toArray⟩, .slice Aa (t.preds).length Ab, .bool (t.hasCap), .int .i64 (t.cap)] 135)).cell? ⟨gb, k * 5, none⟩ = some (.string ⟨(t2.name).toArray⟩) := Grows.cell (Grows.alloc _ _) b0
      have e1 : (wr.alloc (.cells #[.string ⟨(t.name).toArray⟩, .string ⟨(t.kind).toArray⟩, .slice Aa (t.preds).length Ab, .bool (t.hasCap), .int .i64 (t.cap)] 135)).cell? ⟨gb, k * 5 + 1, none⟩ = some (.string ⟨(t2.kind).toArray⟩) := Grows.cell (Grows.alloc _ _) b1
      have e2 : (wr.alloc (.cells #[.string ⟨(t.name).toArray⟩, .string ⟨(t.kind).toArray⟩, .slice Aa (t.preds).length Ab, .bool (t.hasCap), .int .i64 (t.cap)] 135)).cell? ⟨gb, k * 5 + 2, none⟩ = some (.slice Ag (t2.preds).length Ah) := Grows.cell (Grows.alloc _ _) b2
      have e3 : (wr.alloc (.cells #[.string ⟨(t.name).toArray⟩, .string ⟨(t.kind).toArray⟩, .slice Aa (t.preds).length Ab, .bool (t.hasCap), .int .i64 (t.cap)] 135)).cell? ⟨gb, k * 5 + 3, none⟩ = some (.bool (t2.hasCap)) := Grows.cell (Grows.alloc _ _) b3
      have e4 : (wr.alloc (.cells #[.string ⟨(t.name).toArray⟩, .string ⟨(t.kind).toArray⟩, .slice Aa (t.preds).length Ab, .bool (t.hasCap), .int .i64 (t.cap)] 135)).cell? ⟨gb, k * 5 + 4, none⟩ = some (.int .i64 (t2.cap)) := Grows.cell (Grows.alloc _ _) b4
      have gq : Grows wr ((wr.alloc (.cells #[.string ⟨(t.name).toArray⟩, .string ⟨(t.kind).toArray⟩, .slice Aa (t.preds).length Ab, .bool (t.hasCap), .int .i64 (t.cap)] 135)).alloc (.cells #[.string ⟨(t2.name).toArray⟩, .string ⟨(t2.kind).toArray⟩, .slice Ag (t2.preds).length Ah, .bool (t2.hasCap), .int .i64 (t2.cap)] 135)) := lq
      have Ad := Strs.keep (T := ei) Ad (eM gq.keeps) (by decide)
      have Ae := Strs.keep (T := ei) Ae (eM gq.keeps) (by decide)
      have C := ec (yF t.name t2.name t.kind t2.kind t.preds t2.preds t.hasCap t2.hasCap t.cap t2.cap _ _ ((wr.alloc (.cells #[.string ⟨(t.name).toArray⟩, .string ⟨(t.kind).toArray⟩, .slice Aa (t.preds).length Ab, .bool (t.hasCap), .int .i64 (t.cap)] 135)).alloc (.cells #[.string ⟨(t2.name).toArray⟩, .string ⟨(t2.kind).toArray⟩, .slice Ag (t2.preds).length Ah, .bool (t2.hasCap), .int .i64 (t2.cap)] 135)) Ad Ae Al hi2)
      have GQ := ec (Below.trans HW.out (Below.mono gq HW.out.size))
      clear h2 h4 gq Ai Ak Al hi2 Ad Ae
      by_cases htt : t = t2
      · have HS := ec (fK ht (htt ▸ Ac) HE.out)
        have Af : decide (t = t2) = true := decide_eq_true htt
        change Hid (Calls _ _ _ _ fun e w' => e = .returned (.bool (decide (t = t2))) ∧ _) at C
        rw [Af] at C
        clear ht Ac HE htt Af
        go_wp2_with fail
        refine C.out.mono ?_
        rintro _ w2 ⟨rfl, hb⟩
        have Aj := ec (Below.trans GQ.out (Below.mono hb GQ.out.size))
        clear hb C
        go_wp2_with fail
        go_roundw
        case rel => exact ⟨k + 1, by omega, by go_num, Aj, HS⟩
        case measure => simp [intOf]; omega
      · have HN := ec (fU ht Ac htt)
        have Af : decide (t = t2) = false := decide_eq_false htt
        change Hid (Calls _ _ _ _ fun e w' => e = .returned (.bool (decide (t = t2))) ∧ _) at C
        rw [Af] at C
        clear ht Ac HE htt Af
        go_wp2_with fail
        refine C.out.mono ?_
        rintro _ w2 ⟨rfl, hb⟩
        have Aj := ec (Below.trans GQ.out (Below.mono hb GQ.out.size))
        clear hb C
        go_wp2_with fail
        go_ret
        exact ⟨eh HN.out.symm, Aj.out⟩
    · have HS := ec (fR Am.out (by omega) HE.out)
      go_wp2_with fail
      go_ret
      exact ⟨eh HS.out.symm, HW.out⟩
 · have HN := ec (fT hlen)
   go_enter Tryz.func99, Tryz.ntmps99
   go_wp2_with fail
   go_ret
   exact ⟨eh HN.out.symm, Below.refl _ w⟩
theorem vu (l l2 : List (List ee)) (va vb : Value) (w : World) (ha : Rows Any 22 1 (cClass Any) w l va) (hb : Rows Any 22 1 (cClass Any) w l2 vb) (hl : l.length ≤ 1000000000) (_hl2 : l2.length ≤ 1000000000) (hi : ∀ t ∈ l, t.length ≤ 1000000000) (hi2 : ∀ t ∈ l2, t.length ≤ 1000000000) :
    Calls Tryz.prog 94 #[va, vb, .func (.func 90) #[] #[]] w fun e w' => e = .returned (.bool (decide (l = l2))) ∧ Below w.heap.size w w' := by
 have HA := ec ha
 have HB := ec hb
 have HI := ec hi
 have An := ec hi2
 obtain ⟨aa, ca, rfl⟩ := ed ha
 obtain ⟨ab, cb, rfl⟩ := ed hb
 clear ha hb hi hi2
 by_cases hlen : l.length = l2.length
 · rw [← hlen] at HB ⊢
   have Ai := ec hlen
   clear hlen
   go_enter Tryz.func94, Tryz.ntmps94
   go_wp2_with fail
   go_loopw [17] (fun x wr => ∃ k : Nat, k ≤ l.length ∧ x = .int .i64 k ∧ Hid (Below w.heap.size w wr) ∧ Hid (l.take k = l2.take k)) (fun x _ => l.length - (intOf x).toNat)
   case atStart => exact ⟨0, by omega, rfl, ec (Below.refl _ _), ec rfl⟩
   case round =>
    obtain ⟨k, hk, rfl, HW, HE⟩ := hrel
    by_cases hlt : k < l.length
    · obtain ⟨t, ht⟩ : ∃ t, l[k]? = some t := ⟨l[k], by simp [hlt]⟩
      obtain ⟨t2, Aa⟩ : ∃ t, l2[k]? = some t := ⟨l2[k]'(by have := Ai.out; omega), by simp⟩
      have Ah := HI.out t (List.mem_of_getElem? ht)
      have hi2 := An.out t2 (List.mem_of_getElem? Aa)
      have Ae := eM (Keeps.of_below HW.out)
      have Ag : Kp [22] Any w wr := Kp.of_keeps (Keeps.of_below HW.out) (by decide) (by decide)
      obtain ⟨ga, xa, ya, e1, _, h1, h2⟩ := (HA.out.keep Ag (by decide) (fun _ _ h => h.keep Ae)).at ht
      obtain ⟨gb, xb, yb, e2, _, h3, h4⟩ := (HB.out.keep Ag (by decide) (fun _ _ h => h.keep Ae)).at Aa
      simp only [Value.slice.injEq] at e1 e2
      obtain ⟨rfl, -, rfl⟩ := e1
      obtain ⟨rfl, -, rfl⟩ := e2
      obtain ⟨s0, rfl, Ab⟩ := h1
      obtain ⟨r0, rfl, Ac⟩ := h3
      obtain ⟨Aj, Al, rfl⟩ := ed Ab
      obtain ⟨Ak, Am, rfl⟩ := ed Ac
      have a0 : wr.cell? ⟨ga, k, none⟩ = some (.slice Aj (t).length Al) := by have := h2 0 _ rfl; simpa using this
      have b0 : wr.cell? ⟨gb, k, none⟩ = some (.slice Ak (t2).length Am) := by have := h4 0 _ rfl; simpa using this
      have gq : Grows wr wr := Grows.refl _
      have Ab := Strs.keep (T := ei) Ab (eM gq.keeps) (by decide)
      have Ac := Strs.keep (T := ei) Ac (eM gq.keeps) (by decide)
      have C := ec (jP t t2 _ _ wr Ab Ac Ah hi2)
      have GQ := ec (Below.trans HW.out (Below.mono gq HW.out.size))
      clear h2 h4 gq Ae Ag Ah hi2 Ab Ac
      by_cases htt : t = t2
      · have HS := ec (fK ht (htt ▸ Aa) HE.out)
        have Ad : decide (t = t2) = true := decide_eq_true htt
        change Hid (Calls _ _ _ _ fun e w' => e = .returned (.bool (decide (t = t2))) ∧ _) at C
        rw [Ad] at C
        clear ht Aa HE htt Ad
        go_wp2_with fail
        refine C.out.mono ?_
        rintro _ w2 ⟨rfl, hb⟩
        have Af := ec (Below.trans GQ.out (Below.mono hb GQ.out.size))
        clear hb C
        go_wp2_with fail
        go_roundw
        case rel => exact ⟨k + 1, by omega, by go_num, Af, HS⟩
        case measure => simp [intOf]; omega
      · have HN := ec (fU ht Aa htt)
        have Ad : decide (t = t2) = false := decide_eq_false htt
        change Hid (Calls _ _ _ _ fun e w' => e = .returned (.bool (decide (t = t2))) ∧ _) at C
        rw [Ad] at C
        clear ht Aa HE htt Ad
        go_wp2_with fail
        refine C.out.mono ?_
        rintro _ w2 ⟨rfl, hb⟩
        have Af := ec (Below.trans GQ.out (Below.mono hb GQ.out.size))
        clear hb C
        go_wp2_with fail
        go_ret
        exact ⟨eh HN.out.symm, Af.out⟩
    · have HS := ec (fR Ai.out (by omega) HE.out)
      go_wp2_with fail
      go_ret
      exact ⟨eh HS.out.symm, HW.out⟩
 · have HN := ec (fT hlen)
   go_enter Tryz.func94, Tryz.ntmps94
   go_wp2_with fail
   go_ret
   exact ⟨eh HN.out.symm, Below.refl _ w⟩
end Go.Proofs.YtbpphlmakmeoaaaGreatDoor.Sy
namespace Go.Proofs.YtbpphlmakmeoaaaGreatDoor.Sy
open Go.RowKit
theorem zW (kind1 kind2 : Int) (lit1 lit2 : jQ) (guard1 guard2 : jf) (a1 a2 : ee) (b1 b2 : ee) (v_lit1_args : Value) (v_lit2_args : Value) (v_guard1_left : Value) (v_guard2_left : Value) (v_guard1_right : Value) (v_guard2_right : Value) (w : World) (l_lit1_args : Strs Any w (lit1.args) v_lit1_args) (l_lit2_args : Strs Any w (lit2.args) v_lit2_args) (l_guard1_left : Terms Any w (guard1.left) v_guard1_left) (l_guard2_left : Terms Any w (guard2.left) v_guard2_left) (l_guard1_right : Terms Any w (guard1.right) v_guard1_right) (l_guard2_right : Terms Any w (guard2.right) v_guard2_right) (hlit1 : lit1.args.length ≤ 1000000000) (hlit2 : lit2.args.length ≤ 1000000000) (hleft1 : (guard1.left.length ≤ 1000000000 ∧ ∀ t ∈ guard1.left, t.args.length ≤ 1000000000)) (hleft2 : (guard2.left.length ≤ 1000000000 ∧ ∀ t ∈ guard2.left, t.args.length ≤ 1000000000)) (hright1 : (guard1.right.length ≤ 1000000000 ∧ ∀ t ∈ guard1.right, t.args.length ≤ 1000000000)) (hright2 : (guard2.right.length ≤ 1000000000 ∧ ∀ t ∈ guard2.right, t.args.length ≤ 1000000000)) :
    Calls Tryz.prog 156 #[.agg #[.int .i64 (kind1), .bool (lit1.neg), .string ⟨(lit1.pred).toArray⟩, v_lit1_args, .bool (lit1.hasValue), .int .i64 (lit1.value), v_guard1_left, .int .i64 (guard1.op), v_guard1_right, .string ⟨(a1).toArray⟩, .string ⟨(b1).toArray⟩], .agg #[.int .i64 (kind2), .bool (lit2.neg), .string ⟨(lit2.pred).toArray⟩, v_lit2_args, .bool (lit2.hasValue), .int .i64 (lit2.value), v_guard2_left, .int .i64 (guard2.op), v_guard2_right, .string ⟨(a2).toArray⟩, .string ⟨(b2).toArray⟩]] w fun e w' => e = .returned (.bool (decide ((⟨kind1, lit1, guard1, a1, b1⟩ : f9) = ⟨kind2, lit2, guard2, a2, b2⟩))) ∧ Below w.heap.size w w' := by
 obtain ⟨Ap, Am, rfl⟩ := ed l_lit1_args
 have Aq := ec l_lit1_args
 clear l_lit1_args
 obtain ⟨Ao, An, rfl⟩ := ed l_lit2_args
 have Ar := ec l_lit2_args
 clear l_lit2_args
 obtain ⟨Ae, Ag, rfl⟩ := ed l_guard1_left
 have Al := ec l_guard1_left
 clear l_guard1_left
 obtain ⟨Ai, Af, rfl⟩ := ed l_guard2_left
 have Ak := ec l_guard2_left
 clear l_guard2_left
 obtain ⟨Ab, Ad, rfl⟩ := ed l_guard1_right
 have Aj := ec l_guard1_right
 clear l_guard1_right
 obtain ⟨Aa, Ac, rfl⟩ := ed l_guard2_right
 have Ah := ec l_guard2_right
 clear l_guard2_right
 obtain ⟨hn, hm, hg⟩ := jd w (.cells #[.int .i64 (kind1), .bool (lit1.neg), .string ⟨(lit1.pred).toArray⟩, .slice Ap (lit1.args).length Am, .bool (lit1.hasValue), .int .i64 (lit1.value), .slice Ae (guard1.left).length Ag, .int .i64 (guard1.op), .slice Ab (guard1.right).length Ad, .string ⟨(a1).toArray⟩, .string ⟨(b1).toArray⟩] 108) (.cells #[.int .i64 (kind2), .bool (lit2.neg), .string ⟨(lit2.pred).toArray⟩, .slice Ao (lit2.args).length An, .bool (lit2.hasValue), .int .i64 (lit2.value), .slice Ai (guard2.left).length Af, .int .i64 (guard2.op), .slice Aa (guard2.right).length Ac, .string ⟨(a2).toArray⟩, .string ⟨(b2).toArray⟩] 108)
 have N0 := ec hn
 have N1 := ec hm
 have G0 := ec hg
 clear hn hm hg
 go_enter Tryz.func156, Tryz.ntmps156
 by_cases h0 : kind1 = kind2
 rotate_left 1
 · have As : (kind1 == kind2) = false := beq_eq_false_iff_ne.2 h0
   go_wp2_with fail
   go_ret
   exact ⟨eh (decide_eq_false fun e => h0 (by injection e)).symm, G0.out⟩
 subst h0
 have C := ec (vY lit1.neg lit2.neg lit1.pred lit2.pred lit1.args lit2.args lit1.hasValue lit2.hasValue lit1.value lit2.value _ _ _ (Strs.keep (T := ei) Aq.out (eM G0.out.keeps) (by decide)) (Strs.keep (T := ei) Ar.out (eM G0.out.keeps) (by decide)) hlit1 hlit2)
 change Hid (Calls _ _ _ _ fun e w' => e = .returned (.bool (decide (lit1 = lit2))) ∧ _) at C
 go_wp2_with fail
 refine C.out.mono ?_
 rintro _ w1 ⟨rfl, hb⟩
 have P1 := eK hb N0
 have Q1 := eK hb N1
 obtain ⟨Bf, AS, AO, Bc, AT, AL, AK, Bn, AY, AE, AA, Ax⟩ := eF P1.out
 obtain ⟨AH, AR, Bl, Bh, AB, Bk, AP, AI, AZ, AJ, Av, Az⟩ := eF Q1.out
 have G2 := ec (Grows.trans G0.out hb)
 clear hb C
 by_cases h1 : lit1 = lit2
 rotate_left 1
 · rw [decide_eq_false h1]
   go_wp2_with fail
   go_ret
   exact ⟨eh (decide_eq_false fun e => h1 (by injection e)).symm, G2.out⟩
 subst h1
 rw [show decide (lit1 = lit1) = true from decide_eq_true rfl]
 have C := ec (zp guard1.left guard2.left guard1.op guard2.op guard1.right guard2.right _ _ _ _ _ (Terms.keep (T := ei) Al.out (eM G2.out.keeps) (by decide) (by decide)) (Terms.keep (T := ei) Ak.out (eM G2.out.keeps) (by decide) (by decide)) (Terms.keep (T := ei) Aj.out (eM G2.out.keeps) (by decide) (by decide)) (Terms.keep (T := ei) Ah.out (eM G2.out.keeps) (by decide) (by decide)) hleft1 hleft2 hright1 hright2)
 change Hid (Calls _ _ _ _ fun e w' => e = .returned (.bool (decide (guard1 = guard2))) ∧ _) at C
 go_wp2_with fail
 refine C.out.mono ?_
 rintro _ w2 ⟨rfl, hb⟩
 have P2 := eK hb P1
 have Q2 := eK hb Q1
 obtain ⟨Bi, Bo, AQ, Ba, AG, Bg, AW, AM, AF, Bm, At, Aw⟩ := eF P2.out
 obtain ⟨AU, AV, Be, AC, Bj, Bb, AN, AD, AX, Bd, Au, Ay⟩ := eF Q2.out
 have G3 := ec (Grows.trans G2.out hb)
 clear hb C
 by_cases h2 : guard1 = guard2
 rotate_left 1
 · rw [decide_eq_false h2]
   go_wp2_with fail
   go_ret
   exact ⟨eh (decide_eq_false fun e => h2 (by injection e)).symm, G3.out⟩
 subst h2
 rw [show decide (guard1 = guard1) = true from decide_eq_true rfl]
 by_cases h3 : a1 = a2
 rotate_left 1
 · have As : (a1 == a2) = false := beq_eq_false_iff_ne.2 h3
   go_wp2_with fail
   go_ret
   exact ⟨eh (decide_eq_false fun e => h3 (by injection e)).symm, G3.out⟩
 subst h3
 by_cases h4 : b1 = b2
 rotate_left 1
 · have As : (b1 == b2) = false := beq_eq_false_iff_ne.2 h4
   go_wp2_with fail
   go_ret
   exact ⟨eh (decide_eq_false fun e => h4 (by injection e)).symm, G3.out⟩
 subst h4
 go_wp2_with fail
 go_ret
 exact ⟨by first | rfl | exact eh (decide_eq_true rfl).symm, G3.out⟩
theorem yt (l l2 : List f9) (va vb : Value) (w : World) (ha : Rows Any 108 11 (cPrem Any) w l va) (hb : Rows Any 108 11 (cPrem Any) w l2 vb) (hl : l.length ≤ 1000000000) (_hl2 : l2.length ≤ 1000000000) (hi : ∀ t ∈ l, t.lit.args.length ≤ 1000000000 ∧ (t.guard.left.length ≤ 1000000000 ∧ ∀ u ∈ t.guard.left, u.args.length ≤ 1000000000) ∧ (t.guard.right.length ≤ 1000000000 ∧ ∀ u ∈ t.guard.right, u.args.length ≤ 1000000000)) (hi2 : ∀ t ∈ l2, t.lit.args.length ≤ 1000000000 ∧ (t.guard.left.length ≤ 1000000000 ∧ ∀ u ∈ t.guard.left, u.args.length ≤ 1000000000) ∧ (t.guard.right.length ≤ 1000000000 ∧ ∀ u ∈ t.guard.right, u.args.length ≤ 1000000000)) :
    Calls Tryz.prog 155 #[va, vb, .func (.func 156) #[] #[]] w fun e w' => e = .returned (.bool (decide (l = l2))) ∧ Below w.heap.size w w' := by
 have HA := ec ha
 have HB := ec hb
 have HI := ec hi
 have AA := ec hi2
 obtain ⟨aa, ca, rfl⟩ := ed ha
 obtain ⟨ab, cb, rfl⟩ := ed hb
 clear ha hb hi hi2
 by_cases hlen : l.length = l2.length
 · rw [← hlen] at HB ⊢
   have Ay := ec hlen
   clear hlen
   go_enter Tryz.func155, Tryz.ntmps155
   go_wp2_with fail
   go_loopw [17] (fun x wr => ∃ k : Nat, k ≤ l.length ∧ x = .int .i64 k ∧ Hid (Below w.heap.size w wr) ∧ Hid (l.take k = l2.take k)) (fun x _ => l.length - (intOf x).toNat)
   case atStart => exact ⟨0, by omega, rfl, ec (Below.refl _ _), ec rfl⟩
   case round =>
    obtain ⟨k, hk, rfl, HW, HE⟩ := hrel
    by_cases hlt : k < l.length
    · obtain ⟨t, ht⟩ : ∃ t, l[k]? = some t := ⟨l[k], by simp [hlt]⟩
      obtain ⟨t2, Ag⟩ : ∃ t, l2[k]? = some t := ⟨l2[k]'(by have := Ay.out; omega), by simp⟩
      have Aq := HI.out t (List.mem_of_getElem? ht)
      have hi2 := AA.out t2 (List.mem_of_getElem? Ag)
      have Av := eM (Keeps.of_below HW.out)
      have Aw : Kp [108] Any w wr := Kp.of_keeps (Keeps.of_below HW.out) (by decide) (by decide)
      obtain ⟨ga, xa, ya, e1, _, h1, h2⟩ := (HA.out.keep Aw (by decide) (fun _ _ h => h.keep (T := ei) Av (by decide) (by decide))).at ht
      obtain ⟨gb, xb, yb, e2, _, h3, h4⟩ := (HB.out.keep Aw (by decide) (fun _ _ h => h.keep (T := ei) Av (by decide) (by decide))).at Ag
      simp only [Value.slice.injEq] at e1 e2
      obtain ⟨rfl, -, rfl⟩ := e1
      obtain ⟨rfl, -, rfl⟩ := e2
      obtain ⟨s0, s1, s2, rfl, Ah, Am, Aj⟩ := h1
      obtain ⟨r0, r1, r2, rfl, Ak, Al, Ai⟩ := h3
      obtain ⟨Ae, Ad, rfl⟩ := ed Ah
      obtain ⟨Ar, As, rfl⟩ := ed Ak
      obtain ⟨Af, Ac, rfl⟩ := ed Am
      obtain ⟨Ao, At, rfl⟩ := ed Al
      obtain ⟨Ab, Aa, rfl⟩ := ed Aj
      obtain ⟨Ap, Au, rfl⟩ := ed Ai
      have a0 : wr.cell? ⟨ga, k * 11, none⟩ = some (.int .i64 (t.kind)) := by have := h2 0 _ rfl; simpa using this
      have b0 : wr.cell? ⟨gb, k * 11, none⟩ = some (.int .i64 (t2.kind)) := by have := h4 0 _ rfl; simpa using this
      have a1 : wr.cell? ⟨ga, k * 11 + 1, none⟩ = some (.bool (t.lit.neg)) := by have := h2 1 _ rfl; simpa using this
      have b1 : wr.cell? ⟨gb, k * 11 + 1, none⟩ = some (.bool (t2.lit.neg)) := by have := h4 1 _ rfl; simpa using this
      have a2 : wr.cell? ⟨ga, k * 11 + 2, none⟩ = some (.string ⟨(t.lit.pred).toArray⟩) := by have := h2 2 _ rfl; simpa using this
      have b2 : wr.cell? ⟨gb, k * 11 + 2, none⟩ = some (.string ⟨(t2.lit.pred).toArray⟩) := by have := h4 2 _ rfl; simpa using this
      have a3 : wr.cell? ⟨ga, k * 11 + 3, none⟩ = some (.slice Ae (t.lit.args).length Ad) := by have := h2 3 _ rfl; simpa using this
      have b3 : wr.cell? ⟨gb, k * 11 + 3, none⟩ = some (.slice Ar (t2.lit.args).length As) := by have := h4 3 _ rfl; simpa using this
      have a4 : wr.cell? ⟨ga, k * 11 + 4, none⟩ = some (.bool (t.lit.hasValue)) := by have := h2 4 _ rfl; simpa using this
      have b4 : wr.cell? ⟨gb, k * 11 + 4, none⟩ = some (.bool (t2.lit.hasValue)) := by have := h4 4 _ rfl; simpa using this
      have a5 : wr.cell? ⟨ga, k * 11 + 5, none⟩ = some (.int .i64 (t.lit.value)) := by have := h2 5 _ rfl; simpa using this
      have b5 : wr.cell? ⟨gb, k * 11 + 5, none⟩ = some (.int .i64 (t2.lit.value)) := by have := h4 5 _ rfl; simpa using this
      have a6 : wr.cell? ⟨ga, k * 11 + 6, none⟩ = some (.slice Af (t.guard.left).length Ac) := by have := h2 6 _ rfl; simpa using this
      have b6 : wr.cell? ⟨gb, k * 11 + 6, none⟩ = some (.slice Ao (t2.guard.left).length At) := by have := h4 6 _ rfl; simpa using this
      have a7 : wr.cell? ⟨ga, k * 11 + 7, none⟩ = some (.int .i64 (t.guard.op)) := by have := h2 7 _ rfl; simpa using this
      have b7 : wr.cell? ⟨gb, k * 11 + 7, none⟩ = some (.int .i64 (t2.guard.op)) := by have := h4 7 _ rfl; simpa using this
      have a8 : wr.cell? ⟨ga, k * 11 + 8, none⟩ = some (.slice Ab (t.guard.right).length Aa) := by have := h2 8 _ rfl; simpa using this
      have b8 : wr.cell? ⟨gb, k * 11 + 8, none⟩ = some (.slice Ap (t2.guard.right).length Au) := by have := h4 8 _ rfl; simpa using this
      have a9 : wr.cell? ⟨ga, k * 11 + 9, none⟩ = some (.string ⟨(t.a).toArray⟩) := by have := h2 9 _ rfl; simpa using this
      have b9 : wr.cell? ⟨gb, k * 11 + 9, none⟩ = some (.string ⟨(t2.a).toArray⟩) := by have := h4 9 _ rfl; simpa using this
      have AB : wr.cell? ⟨ga, k * 11 + 10, none⟩ = some (.string ⟨(t.b).toArray⟩) := by have := h2 10 _ rfl; simpa using this
      have Az : wr.cell? ⟨gb, k * 11 + 10, none⟩ = some (.string ⟨(t2.b).toArray⟩) := by have := h4 10 _ rfl; simpa using this
      have e0 : (wr.alloc (.cells #[.int .i64 (t.kind), .bool (t.lit.neg), .string ⟨(t.lit.pred).toArray⟩, .slice Ae (t.lit.args).length Ad, .bool (t.lit.hasValue), .int .i64 (t.lit.value), .slice Af (t.guard.left).length Ac, .int .i64 (t.guard.op), .slice Ab (t.guard.right).length Aa, .string ⟨(t.a).toArray⟩, .string ⟨(t.b).toArray⟩] 108)).cell? ⟨gb, k * 11, none⟩ = some (.int .i64 (t2.kind)) := Grows.cell (Grows.alloc _ _) b0
      have e1 : (wr.alloc (.cells #[.int .i64 (t.kind), .bool (t.lit.neg), .string ⟨(t.lit.pred).toArray⟩, .slice Ae (t.lit.args).length Ad, .bool (t.lit.hasValue), .int .i64 (t.lit.value), .slice Af (t.guard.left).length Ac, .int .i64 (t.guard.op), .slice Ab (t.guard.right).length Aa, .string ⟨(t.a).toArray⟩, .string ⟨(t.b).toArray⟩] 108)).cell? ⟨gb, k * 11 + 1, none⟩ = some (.bool (t2.lit.neg)) := Grows.cell (Grows.alloc _ _) b1
      have e2 : (wr.alloc (.cells #[.int .i64 (t.kind), .bool (t.lit.neg), .string ⟨(t.lit.pred).toArray⟩, .slice Ae (t.lit.args).length Ad, .bool (t.lit.hasValue), .int .i64 (t.lit.value), .slice Af (t.guard.left).length Ac, .int .i64 (t.guard.op), .slice Ab (t.guard.right).length Aa, .string ⟨(t.a).toArray⟩, .string ⟨(t.b).toArray⟩] 108)).cell? ⟨gb, k * 11 + 2, none⟩ = some (.string ⟨(t2.lit.pred).toArray⟩) := Grows.cell (Grows.alloc _ _) b2
      have e3 : (wr.alloc (.cells #[.int .i64 (t.kind), .bool (t.lit.neg), .string ⟨(t.lit.pred).toArray⟩, .slice Ae (t.lit.args).length Ad, .bool (t.lit.hasValue), .int .i64 (t.lit.value), .slice Af (t.guard.left).length Ac, .int .i64 (t.guard.op), .slice Ab (t.guard.right).length Aa, .string ⟨(t.a).toArray⟩, .string ⟨(t.b).toArray⟩] 108)).cell? ⟨gb, k * 11 + 3, none⟩ = some (.slice Ar (t2.lit.args).length As) := Grows.cell (Grows.alloc _ _) b3
      have e4 : (wr.alloc (.cells #[.int .i64 (t.kind), .bool (t.lit.neg), .string ⟨(t.lit.pred).toArray⟩, .slice Ae (t.lit.args).length Ad, .bool (t.lit.hasValue), .int .i64 (t.lit.value), .slice Af (t.guard.left).length Ac, .int .i64 (t.guard.op), .slice Ab (t.guard.right).length Aa, .string ⟨(t.a).toArray⟩, .string ⟨(t.b).toArray⟩] 108)).cell? ⟨gb, k * 11 + 4, none⟩ = some (.bool (t2.lit.hasValue)) := Grows.cell (Grows.alloc _ _) b4
      have e5 : (wr.alloc (.cells #[.int .i64 (t.kind), .bool (t.lit.neg), .string ⟨(t.lit.pred).toArray⟩, .slice Ae (t.lit.args).length Ad, .bool (t.lit.hasValue), .int .i64 (t.lit.value), .slice Af (t.guard.left).length Ac, .int .i64 (t.guard.op), .slice Ab (t.guard.right).length Aa, .string ⟨(t.a).toArray⟩, .string ⟨(t.b).toArray⟩] 108)).cell? ⟨gb, k * 11 + 5, none⟩ = some (.int .i64 (t2.lit.value)) := Grows.cell (Grows.alloc _ _) b5
      have e6 : (wr.alloc (.cells #[.int .i64 (t.kind), .bool (t.lit.neg), .string ⟨(t.lit.pred).toArray⟩, .slice Ae (t.lit.args).length Ad, .bool (t.lit.hasValue), .int .i64 (t.lit.value), .slice Af (t.guard.left).length Ac, .int .i64 (t.guard.op), .slice Ab (t.guard.right).length Aa, .string ⟨(t.a).toArray⟩, .string ⟨(t.b).toArray⟩] 108)).cell? ⟨gb, k * 11 + 6, none⟩ = some (.slice Ao (t2.guard.left).length At) := Grows.cell (Grows.alloc _ _) b6
      have e7 : (wr.alloc (.cells #[.int .i64 (t.kind), .bool (t.lit.neg), .string ⟨(t.lit.pred).toArray⟩, .slice Ae (t.lit.args).length Ad, .bool (t.lit.hasValue), .int .i64 (t.lit.value), .slice Af (t.guard.left).length Ac, .int .i64 (t.guard.op), .slice Ab (t.guard.right).length Aa, .string ⟨(t.a).toArray⟩, .string ⟨(t.b).toArray⟩] 108)).cell? ⟨gb, k * 11 + 7, none⟩ = some (.int .i64 (t2.guard.op)) := Grows.cell (Grows.alloc _ _) b7
      have e8 : (wr.alloc (.cells #[.int .i64 (t.kind), .bool (t.lit.neg), .string ⟨(t.lit.pred).toArray⟩, .slice Ae (t.lit.args).length Ad, .bool (t.lit.hasValue), .int .i64 (t.lit.value), .slice Af (t.guard.left).length Ac, .int .i64 (t.guard.op), .slice Ab (t.guard.right).length Aa, .string ⟨(t.a).toArray⟩, .string ⟨(t.b).toArray⟩] 108)).cell? ⟨gb, k * 11 + 8, none⟩ = some (.slice Ap (t2.guard.right).length Au) := Grows.cell (Grows.alloc _ _) b8
      have e9 : (wr.alloc (.cells #[.int .i64 (t.kind), .bool (t.lit.neg), .string ⟨(t.lit.pred).toArray⟩, .slice Ae (t.lit.args).length Ad, .bool (t.lit.hasValue), .int .i64 (t.lit.value), .slice Af (t.guard.left).length Ac, .int .i64 (t.guard.op), .slice Ab (t.guard.right).length Aa, .string ⟨(t.a).toArray⟩, .string ⟨(t.b).toArray⟩] 108)).cell? ⟨gb, k * 11 + 9, none⟩ = some (.string ⟨(t2.a).toArray⟩) := Grows.cell (Grows.alloc _ _) b9
      have AC : (wr.alloc (.cells #[.int .i64 (t.kind), .bool (t.lit.neg), .string ⟨(t.lit.pred).toArray⟩, .slice Ae (t.lit.args).length Ad, .bool (t.lit.hasValue), .int .i64 (t.lit.value), .slice Af (t.guard.left).length Ac, .int .i64 (t.guard.op), .slice Ab (t.guard.right).length Aa, .string ⟨(t.a).toArray⟩, .string ⟨(t.b).toArray⟩] 108)).cell? ⟨gb, k * 11 + 10, none⟩ = some (.string ⟨(t2.b).toArray⟩) := Grows.cell (Grows.alloc _ _) Az
      have gq : Grows wr ((wr.alloc (.cells #[.int .i64 (t.kind), .bool (t.lit.neg), .string ⟨(t.lit.pred).toArray⟩, .slice Ae (t.lit.args).length Ad, .bool (t.lit.hasValue), .int .i64 (t.lit.value), .slice Af (t.guard.left).length Ac, .int .i64 (t.guard.op), .slice Ab (t.guard.right).length Aa, .string ⟨(t.a).toArray⟩, .string ⟨(t.b).toArray⟩] 108)).alloc (.cells #[.int .i64 (t2.kind), .bool (t2.lit.neg), .string ⟨(t2.lit.pred).toArray⟩, .slice Ar (t2.lit.args).length As, .bool (t2.lit.hasValue), .int .i64 (t2.lit.value), .slice Ao (t2.guard.left).length At, .int .i64 (t2.guard.op), .slice Ap (t2.guard.right).length Au, .string ⟨(t2.a).toArray⟩, .string ⟨(t2.b).toArray⟩] 108)) := lq
      have Ah := Strs.keep (T := ei) Ah (eM gq.keeps) (by decide)
      have Ak := Strs.keep (T := ei) Ak (eM gq.keeps) (by decide)
      have Am := Terms.keep (T := ei) Am (eM gq.keeps) (by decide) (by decide)
      have Al := Terms.keep (T := ei) Al (eM gq.keeps) (by decide) (by decide)
      have Aj := Terms.keep (T := ei) Aj (eM gq.keeps) (by decide) (by decide)
      have Ai := Terms.keep (T := ei) Ai (eM gq.keeps) (by decide) (by decide)
      have C := ec (zW t.kind t2.kind t.lit t2.lit t.guard t2.guard t.a t2.a t.b t2.b _ _ _ _ _ _ ((wr.alloc (.cells #[.int .i64 (t.kind), .bool (t.lit.neg), .string ⟨(t.lit.pred).toArray⟩, .slice Ae (t.lit.args).length Ad, .bool (t.lit.hasValue), .int .i64 (t.lit.value), .slice Af (t.guard.left).length Ac, .int .i64 (t.guard.op), .slice Ab (t.guard.right).length Aa, .string ⟨(t.a).toArray⟩, .string ⟨(t.b).toArray⟩] 108)).alloc (.cells #[.int .i64 (t2.kind), .bool (t2.lit.neg), .string ⟨(t2.lit.pred).toArray⟩, .slice Ar (t2.lit.args).length As, .bool (t2.lit.hasValue), .int .i64 (t2.lit.value), .slice Ao (t2.guard.left).length At, .int .i64 (t2.guard.op), .slice Ap (t2.guard.right).length Au, .string ⟨(t2.a).toArray⟩, .string ⟨(t2.b).toArray⟩] 108)) Ah Ak Am Al Aj Ai Aq.1 hi2.1 Aq.2.1 hi2.2.1 Aq.2.2 hi2.2.2)
      have GQ := ec (Below.trans HW.out (Below.mono gq HW.out.size))
      clear h2 h4 gq Av Aw Aq hi2 Ah Ak Am Al Aj Ai
      by_cases htt : t = t2
      · have HS := ec (fK ht (htt ▸ Ag) HE.out)
        have An : decide (t = t2) = true := decide_eq_true htt
        change Hid (Calls _ _ _ _ fun e w' => e = .returned (.bool (decide (t = t2))) ∧ _) at C
        rw [An] at C
        clear ht Ag HE htt An
        go_wp2_with fail
        refine C.out.mono ?_
        rintro _ w2 ⟨rfl, hb⟩
        have Ax := ec (Below.trans GQ.out (Below.mono hb GQ.out.size))
        clear hb C
        go_wp2_with fail
        go_roundw
        case rel => exact ⟨k + 1, by omega, by go_num, Ax, HS⟩
        case measure => simp [intOf]; omega
      · have HN := ec (fU ht Ag htt)
        have An : decide (t = t2) = false := decide_eq_false htt
        change Hid (Calls _ _ _ _ fun e w' => e = .returned (.bool (decide (t = t2))) ∧ _) at C
        rw [An] at C
        clear ht Ag HE htt An
        go_wp2_with fail
        refine C.out.mono ?_
        rintro _ w2 ⟨rfl, hb⟩
        have Ax := ec (Below.trans GQ.out (Below.mono hb GQ.out.size))
        clear hb C
        go_wp2_with fail
        go_ret
        exact ⟨eh HN.out.symm, Ax.out⟩
    · have HS := ec (fR Ay.out (by omega) HE.out)
      go_wp2_with fail
      go_ret
      exact ⟨eh HS.out.symm, HW.out⟩
 · have HN := ec (fT hlen)
   go_enter Tryz.func155, Tryz.ntmps155
   go_wp2_with fail
   go_ret
   exact ⟨eh HN.out.symm, Below.refl _ w⟩
theorem zS (name1 name2 : ee) (source1 source2 : ee) (day1 day2 : Int) (till1 till2 : Int) (body1 body2 : List f9) (arrow1 arrow2 : Int) (head1 head2 : jQ) (v_body1 : Value) (v_body2 : Value) (v_head1_args : Value) (v_head2_args : Value) (w : World) (l_body1 : Prems Any w (body1) v_body1) (l_body2 : Prems Any w (body2) v_body2) (l_head1_args : Strs Any w (head1.args) v_head1_args) (l_head2_args : Strs Any w (head2.args) v_head2_args) (hbody1 : body1.length ≤ 1000000000 ∧ ∀ t ∈ body1, t.lit.args.length ≤ 1000000000 ∧ (t.guard.left.length ≤ 1000000000 ∧ ∀ u ∈ t.guard.left, u.args.length ≤ 1000000000) ∧ (t.guard.right.length ≤ 1000000000 ∧ ∀ u ∈ t.guard.right, u.args.length ≤ 1000000000)) (hbody2 : body2.length ≤ 1000000000 ∧ ∀ t ∈ body2, t.lit.args.length ≤ 1000000000 ∧ (t.guard.left.length ≤ 1000000000 ∧ ∀ u ∈ t.guard.left, u.args.length ≤ 1000000000) ∧ (t.guard.right.length ≤ 1000000000 ∧ ∀ u ∈ t.guard.right, u.args.length ≤ 1000000000)) (hhead1 : head1.args.length ≤ 1000000000) (hhead2 : head2.args.length ≤ 1000000000) :
    Calls Tryz.prog 97 #[.agg #[.string ⟨(name1).toArray⟩, .string ⟨(source1).toArray⟩, .int .i64 (day1), .int .i64 (till1), v_body1, .int .i64 (arrow1), .bool (head1.neg), .string ⟨(head1.pred).toArray⟩, v_head1_args, .bool (head1.hasValue), .int .i64 (head1.value)], .agg #[.string ⟨(name2).toArray⟩, .string ⟨(source2).toArray⟩, .int .i64 (day2), .int .i64 (till2), v_body2, .int .i64 (arrow2), .bool (head2.neg), .string ⟨(head2.pred).toArray⟩, v_head2_args, .bool (head2.hasValue), .int .i64 (head2.value)]] w fun e w' => e = .returned (.bool (decide ((⟨name1, source1, day1, till1, body1, arrow1, head1⟩ : gI) = ⟨name2, source2, day2, till2, body2, arrow2, head2⟩))) ∧ Below w.heap.size w w' := by
 obtain ⟨Ag, Ai, rfl⟩ := ed l_body1
 have Am := ec l_body1
 clear l_body1
 obtain ⟨Aj, Ah, rfl⟩ := ed l_body2
 have Al := ec l_body2
 clear l_body2
 obtain ⟨Aa, Ab, rfl⟩ := ed l_head1_args
 have Ae := ec l_head1_args
 clear l_head1_args
 obtain ⟨Ac, Ad, rfl⟩ := ed l_head2_args
 have Af := ec l_head2_args
 clear l_head2_args
 obtain ⟨hn, hm, hg⟩ := jd w (.cells #[.string ⟨(name1).toArray⟩, .string ⟨(source1).toArray⟩, .int .i64 (day1), .int .i64 (till1), .slice Ag (body1).length Ai, .int .i64 (arrow1), .bool (head1.neg), .string ⟨(head1.pred).toArray⟩, .slice Aa (head1.args).length Ab, .bool (head1.hasValue), .int .i64 (head1.value)] 49) (.cells #[.string ⟨(name2).toArray⟩, .string ⟨(source2).toArray⟩, .int .i64 (day2), .int .i64 (till2), .slice Aj (body2).length Ah, .int .i64 (arrow2), .bool (head2.neg), .string ⟨(head2.pred).toArray⟩, .slice Ac (head2.args).length Ad, .bool (head2.hasValue), .int .i64 (head2.value)] 49)
 have N0 := ec hn
 have N1 := ec hm
 have G0 := ec hg
 clear hn hm hg
 go_enter Tryz.func97, Tryz.ntmps97
 by_cases h0 : name1 = name2
 rotate_left 1
 · have Ak : (name1 == name2) = false := beq_eq_false_iff_ne.2 h0
   go_wp2_with fail
   go_ret
   exact ⟨eh (decide_eq_false fun e => h0 (by injection e)).symm, G0.out⟩
 subst h0
 by_cases h1 : source1 = source2
 rotate_left 1
 · have Ak : (source1 == source2) = false := beq_eq_false_iff_ne.2 h1
   go_wp2_with fail
   go_ret
   exact ⟨eh (decide_eq_false fun e => h1 (by injection e)).symm, G0.out⟩
 subst h1
 by_cases h2 : day1 = day2
 rotate_left 1
 · have Ak : (day1 == day2) = false := beq_eq_false_iff_ne.2 h2
   go_wp2_with fail
   go_ret
   exact ⟨eh (decide_eq_false fun e => h2 (by injection e)).symm, G0.out⟩
 subst h2
 by_cases h3 : till1 = till2
 rotate_left 1
 · have Ak : (till1 == till2) = false := beq_eq_false_iff_ne.2 h3
   go_wp2_with fail
   go_ret
   exact ⟨eh (decide_eq_false fun e => h3 (by injection e)).symm, G0.out⟩
 subst h3
 by_cases h4 : arrow1 = arrow2
 rotate_left 1
 · have Ak : (arrow1 == arrow2) = false := beq_eq_false_iff_ne.2 h4
   go_wp2_with fail
   go_ret
   exact ⟨eh (decide_eq_false fun e => h4 (by injection e)).symm, G0.out⟩
 subst h4
 have C := ec (yt body1 body2 _ _ _ (Prems.keep Am.out (eM G0.out.keeps)) (Prems.keep Al.out (eM G0.out.keeps)) hbody1.1 hbody2.1 hbody1.2 hbody2.2)
 go_wp2_with fail
 refine C.out.mono ?_
 rintro _ w5 ⟨rfl, hb⟩
 have P5 := eK hb N0
 have Q5 := eK hb N1
 obtain ⟨AS, Az, Av, Ba, Ay, Bf, AJ, AN, Be, AD, Ap, Au⟩ := eF P5.out
 obtain ⟨Bc, AR, AY, AE, AX, AV, AC, AQ, AM, Bi, An, Aq⟩ := eF Q5.out
 have G6 := ec (Grows.trans G0.out hb)
 clear hb C
 by_cases h5 : body1 = body2
 rotate_left 1
 · rw [decide_eq_false h5]
   go_wp2_with fail
   go_ret
   exact ⟨eh (decide_eq_false fun e => h5 (by injection e)).symm, G6.out⟩
 subst h5
 rw [show decide (body1 = body1) = true from decide_eq_true rfl]
 have C := ec (vY head1.neg head2.neg head1.pred head2.pred head1.args head2.args head1.hasValue head2.hasValue head1.value head2.value _ _ _ (Strs.keep (T := ei) Ae.out (eM G6.out.keeps) (by decide)) (Strs.keep (T := ei) Af.out (eM G6.out.keeps) (by decide)) hhead1 hhead2)
 change Hid (Calls _ _ _ _ fun e w' => e = .returned (.bool (decide (head1 = head2))) ∧ _) at C
 go_wp2_with fail
 refine C.out.mono ?_
 rintro _ w6 ⟨rfl, hb⟩
 have P6 := eK hb P5
 have Q6 := eK hb Q5
 obtain ⟨AL, AW, AK, Bd, AP, AU, Bb, AA, Aw, AF, At, Ao⟩ := eF P6.out
 obtain ⟨Ax, AG, AH, AT, AO, AB, AI, Bh, Bg, AZ, As, Ar⟩ := eF Q6.out
 have G7 := ec (Grows.trans G6.out hb)
 clear hb C
 by_cases h6 : head1 = head2
 rotate_left 1
 · rw [decide_eq_false h6]
   go_wp2_with fail
   go_ret
   exact ⟨eh (decide_eq_false fun e => h6 (by injection e)).symm, G7.out⟩
 subst h6
 rw [show decide (head1 = head1) = true from decide_eq_true rfl]
 go_wp2_with fail
 go_ret
 exact ⟨by first | rfl | exact eh (decide_eq_true rfl).symm, G7.out⟩
theorem yg (l l2 : List gI) (va vb : Value) (w : World) (ha : Rows Any 49 11 (cRule Any) w l va) (hb : Rows Any 49 11 (cRule Any) w l2 vb) (hl : l.length ≤ 1000000000) (_hl2 : l2.length ≤ 1000000000) (hi : ∀ t ∈ l, (t.body.length ≤ 1000000000 ∧ ∀ u ∈ t.body, u.lit.args.length ≤ 1000000000 ∧ (u.guard.left.length ≤ 1000000000 ∧ ∀ v ∈ u.guard.left, v.args.length ≤ 1000000000) ∧ (u.guard.right.length ≤ 1000000000 ∧ ∀ v ∈ u.guard.right, v.args.length ≤ 1000000000)) ∧ t.head.args.length ≤ 1000000000) (hi2 : ∀ t ∈ l2, (t.body.length ≤ 1000000000 ∧ ∀ u ∈ t.body, u.lit.args.length ≤ 1000000000 ∧ (u.guard.left.length ≤ 1000000000 ∧ ∀ v ∈ u.guard.left, v.args.length ≤ 1000000000) ∧ (u.guard.right.length ≤ 1000000000 ∧ ∀ v ∈ u.guard.right, v.args.length ≤ 1000000000)) ∧ t.head.args.length ≤ 1000000000) :
    Calls Tryz.prog 96 #[va, vb, .func (.func 97) #[] #[]] w fun e w' => e = .returned (.bool (decide (l = l2))) ∧ Below w.heap.size w w' := by
 have HA := ec ha
 have HB := ec hb
 have HI := ec hi
 have Au := ec hi2
 obtain ⟨aa, ca, rfl⟩ := ed ha
 obtain ⟨ab, cb, rfl⟩ := ed hb
 clear ha hb hi hi2
 by_cases hlen : l.length = l2.length
 · rw [← hlen] at HB ⊢
   have As := ec hlen
   clear hlen
   go_enter Tryz.func96, Tryz.ntmps96
   go_wp2_with fail
   go_loopw [17] (fun x wr => ∃ k : Nat, k ≤ l.length ∧ x = .int .i64 k ∧ Hid (Below w.heap.size w wr) ∧ Hid (l.take k = l2.take k)) (fun x _ => l.length - (intOf x).toNat)
   case atStart => exact ⟨0, by omega, rfl, ec (Below.refl _ _), ec rfl⟩
   case round =>
    obtain ⟨k, hk, rfl, HW, HE⟩ := hrel
    by_cases hlt : k < l.length
    · obtain ⟨t, ht⟩ : ∃ t, l[k]? = some t := ⟨l[k], by simp [hlt]⟩
      obtain ⟨t2, Ae⟩ : ∃ t, l2[k]? = some t := ⟨l2[k]'(by have := As.out; omega), by simp⟩
      have Ap := HI.out t (List.mem_of_getElem? ht)
      have hi2 := Au.out t2 (List.mem_of_getElem? Ae)
      have Ao := eM (Keeps.of_below HW.out)
      have Aq : Kp [49] Any w wr := Kp.of_keeps (Keeps.of_below HW.out) (by decide) (by decide)
      obtain ⟨ga, xa, ya, e1, _, h1, h2⟩ := (HA.out.keep Aq (by decide) (fun _ _ h => h.keep Ao)).at ht
      obtain ⟨gb, xb, yb, e2, _, h3, h4⟩ := (HB.out.keep Aq (by decide) (fun _ _ h => h.keep Ao)).at Ae
      simp only [Value.slice.injEq] at e1 e2
      obtain ⟨rfl, -, rfl⟩ := e1
      obtain ⟨rfl, -, rfl⟩ := e2
      obtain ⟨s0, s1, rfl, Af, Ai⟩ := h1
      obtain ⟨r0, r1, rfl, Ag, Ah⟩ := h3
      obtain ⟨Ac, Aa, rfl⟩ := ed Af
      obtain ⟨Al, Am, rfl⟩ := ed Ag
      obtain ⟨Ad, Ab, rfl⟩ := ed Ai
      obtain ⟨Ak, An, rfl⟩ := ed Ah
      have a0 : wr.cell? ⟨ga, k * 11, none⟩ = some (.string ⟨(t.name).toArray⟩) := by have := h2 0 _ rfl; simpa using this
      have b0 : wr.cell? ⟨gb, k * 11, none⟩ = some (.string ⟨(t2.name).toArray⟩) := by have := h4 0 _ rfl; simpa using this
      have a1 : wr.cell? ⟨ga, k * 11 + 1, none⟩ = some (.string ⟨(t.source).toArray⟩) := by have := h2 1 _ rfl; simpa using this
      have b1 : wr.cell? ⟨gb, k * 11 + 1, none⟩ = some (.string ⟨(t2.source).toArray⟩) := by have := h4 1 _ rfl; simpa using this
      have a2 : wr.cell? ⟨ga, k * 11 + 2, none⟩ = some (.int .i64 (t.day)) := by have := h2 2 _ rfl; simpa using this
      have b2 : wr.cell? ⟨gb, k * 11 + 2, none⟩ = some (.int .i64 (t2.day)) := by have := h4 2 _ rfl; simpa using this
      have a3 : wr.cell? ⟨ga, k * 11 + 3, none⟩ = some (.int .i64 (t.till)) := by have := h2 3 _ rfl; simpa using this
      have b3 : wr.cell? ⟨gb, k * 11 + 3, none⟩ = some (.int .i64 (t2.till)) := by have := h4 3 _ rfl; simpa using this
      have a4 : wr.cell? ⟨ga, k * 11 + 4, none⟩ = some (.slice Ac (t.body).length Aa) := by have := h2 4 _ rfl; simpa using this
      have b4 : wr.cell? ⟨gb, k * 11 + 4, none⟩ = some (.slice Al (t2.body).length Am) := by have := h4 4 _ rfl; simpa using this
      have a5 : wr.cell? ⟨ga, k * 11 + 5, none⟩ = some (.int .i64 (t.arrow)) := by have := h2 5 _ rfl; simpa using this
      have b5 : wr.cell? ⟨gb, k * 11 + 5, none⟩ = some (.int .i64 (t2.arrow)) := by have := h4 5 _ rfl; simpa using this
      have a6 : wr.cell? ⟨ga, k * 11 + 6, none⟩ = some (.bool (t.head.neg)) := by have := h2 6 _ rfl; simpa using this
      have b6 : wr.cell? ⟨gb, k * 11 + 6, none⟩ = some (.bool (t2.head.neg)) := by have := h4 6 _ rfl; simpa using this
      have a7 : wr.cell? ⟨ga, k * 11 + 7, none⟩ = some (.string ⟨(t.head.pred).toArray⟩) := by have := h2 7 _ rfl; simpa using this
      have b7 : wr.cell? ⟨gb, k * 11 + 7, none⟩ = some (.string ⟨(t2.head.pred).toArray⟩) := by have := h4 7 _ rfl; simpa using this
      have a8 : wr.cell? ⟨ga, k * 11 + 8, none⟩ = some (.slice Ad (t.head.args).length Ab) := by have := h2 8 _ rfl; simpa using this
      have b8 : wr.cell? ⟨gb, k * 11 + 8, none⟩ = some (.slice Ak (t2.head.args).length An) := by have := h4 8 _ rfl; simpa using this
      have a9 : wr.cell? ⟨ga, k * 11 + 9, none⟩ = some (.bool (t.head.hasValue)) := by have := h2 9 _ rfl; simpa using this
      have b9 : wr.cell? ⟨gb, k * 11 + 9, none⟩ = some (.bool (t2.head.hasValue)) := by have := h4 9 _ rfl; simpa using this
      have Av : wr.cell? ⟨ga, k * 11 + 10, none⟩ = some (.int .i64 (t.head.value)) := by have := h2 10 _ rfl; simpa using this
      have At : wr.cell? ⟨gb, k * 11 + 10, none⟩ = some (.int .i64 (t2.head.value)) := by have := h4 10 _ rfl; simpa using this
      have e0 : (wr.alloc (.cells #[.string ⟨(t.name).toArray⟩, .string ⟨(t.source).toArray⟩, .int .i64 (t.day), .int .i64 (t.till), .slice Ac (t.body).length Aa, .int .i64 (t.arrow), .bool (t.head.neg), .string ⟨(t.head.pred).toArray⟩, .slice Ad (t.head.args).length Ab, .bool (t.head.hasValue), .int .i64 (t.head.value)] 49)).cell? ⟨gb, k * 11, none⟩ = some (.string ⟨(t2.name).toArray⟩) := Grows.cell (Grows.alloc _ _) b0
      have e1 : (wr.alloc (.cells #[.string ⟨(t.name).toArray⟩, .string ⟨(t.source).toArray⟩, .int .i64 (t.day), .int .i64 (t.till), .slice Ac (t.body).length Aa, .int .i64 (t.arrow), .bool (t.head.neg), .string ⟨(t.head.pred).toArray⟩, .slice Ad (t.head.args).length Ab, .bool (t.head.hasValue), .int .i64 (t.head.value)] 49)).cell? ⟨gb, k * 11 + 1, none⟩ = some (.string ⟨(t2.source).toArray⟩) := Grows.cell (Grows.alloc _ _) b1
      have e2 : (wr.alloc (.cells #[.string ⟨(t.name).toArray⟩, .string ⟨(t.source).toArray⟩, .int .i64 (t.day), .int .i64 (t.till), .slice Ac (t.body).length Aa, .int .i64 (t.arrow), .bool (t.head.neg), .string ⟨(t.head.pred).toArray⟩, .slice Ad (t.head.args).length Ab, .bool (t.head.hasValue), .int .i64 (t.head.value)] 49)).cell? ⟨gb, k * 11 + 2, none⟩ = some (.int .i64 (t2.day)) := Grows.cell (Grows.alloc _ _) b2
      have e3 : (wr.alloc (.cells #[.string ⟨(t.name).toArray⟩, .string ⟨(t.source).toArray⟩, .int .i64 (t.day), .int .i64 (t.till), .slice Ac (t.body).length Aa, .int .i64 (t.arrow), .bool (t.head.neg), .string ⟨(t.head.pred).toArray⟩, .slice Ad (t.head.args).length Ab, .bool (t.head.hasValue), .int .i64 (t.head.value)] 49)).cell? ⟨gb, k * 11 + 3, none⟩ = some (.int .i64 (t2.till)) := Grows.cell (Grows.alloc _ _) b3
      have e4 : (wr.alloc (.cells #[.string ⟨(t.name).toArray⟩, .string ⟨(t.source).toArray⟩, .int .i64 (t.day), .int .i64 (t.till), .slice Ac (t.body).length Aa, .int .i64 (t.arrow), .bool (t.head.neg), .string ⟨(t.head.pred).toArray⟩, .slice Ad (t.head.args).length Ab, .bool (t.head.hasValue), .int .i64 (t.head.value)] 49)).cell? ⟨gb, k * 11 + 4, none⟩ = some (.slice Al (t2.body).length Am) := Grows.cell (Grows.alloc _ _) b4
      have e5 : (wr.alloc (.cells #[.string ⟨(t.name).toArray⟩, .string ⟨(t.source).toArray⟩, .int .i64 (t.day), .int .i64 (t.till), .slice Ac (t.body).length Aa, .int .i64 (t.arrow), .bool (t.head.neg), .string ⟨(t.head.pred).toArray⟩, .slice Ad (t.head.args).length Ab, .bool (t.head.hasValue), .int .i64 (t.head.value)] 49)).cell? ⟨gb, k * 11 + 5, none⟩ = some (.int .i64 (t2.arrow)) := Grows.cell (Grows.alloc _ _) b5
      have e6 : (wr.alloc (.cells #[.string ⟨(t.name).toArray⟩, .string ⟨(t.source).toArray⟩, .int .i64 (t.day), .int .i64 (t.till), .slice Ac (t.body).length Aa, .int .i64 (t.arrow), .bool (t.head.neg), .string ⟨(t.head.pred).toArray⟩, .slice Ad (t.head.args).length Ab, .bool (t.head.hasValue), .int .i64 (t.head.value)] 49)).cell? ⟨gb, k * 11 + 6, none⟩ = some (.bool (t2.head.neg)) := Grows.cell (Grows.alloc _ _) b6
      have e7 : (wr.alloc (.cells #[.string ⟨(t.name).toArray⟩, .string ⟨(t.source).toArray⟩, .int .i64 (t.day), .int .i64 (t.till), .slice Ac (t.body).length Aa, .int .i64 (t.arrow), .bool (t.head.neg), .string ⟨(t.head.pred).toArray⟩, .slice Ad (t.head.args).length Ab, .bool (t.head.hasValue), .int .i64 (t.head.value)] 49)).cell? ⟨gb, k * 11 + 7, none⟩ = some (.string ⟨(t2.head.pred).toArray⟩) := Grows.cell (Grows.alloc _ _) b7
      have e8 : (wr.alloc (.cells #[.string ⟨(t.name).toArray⟩, .string ⟨(t.source).toArray⟩, .int .i64 (t.day), .int .i64 (t.till), .slice Ac (t.body).length Aa, .int .i64 (t.arrow), .bool (t.head.neg), .string ⟨(t.head.pred).toArray⟩, .slice Ad (t.head.args).length Ab, .bool (t.head.hasValue), .int .i64 (t.head.value)] 49)).cell? ⟨gb, k * 11 + 8, none⟩ = some (.slice Ak (t2.head.args).length An) := Grows.cell (Grows.alloc _ _) b8
      have e9 : (wr.alloc (.cells #[.string ⟨(t.name).toArray⟩, .string ⟨(t.source).toArray⟩, .int .i64 (t.day), .int .i64 (t.till), .slice Ac (t.body).length Aa, .int .i64 (t.arrow), .bool (t.head.neg), .string ⟨(t.head.pred).toArray⟩, .slice Ad (t.head.args).length Ab, .bool (t.head.hasValue), .int .i64 (t.head.value)] 49)).cell? ⟨gb, k * 11 + 9, none⟩ = some (.bool (t2.head.hasValue)) := Grows.cell (Grows.alloc _ _) b9
      have Aw : (wr.alloc (.cells #[.string ⟨(t.name).toArray⟩, .string ⟨(t.source).toArray⟩, .int .i64 (t.day), .int .i64 (t.till), .slice Ac (t.body).length Aa, .int .i64 (t.arrow), .bool (t.head.neg), .string ⟨(t.head.pred).toArray⟩, .slice Ad (t.head.args).length Ab, .bool (t.head.hasValue), .int .i64 (t.head.value)] 49)).cell? ⟨gb, k * 11 + 10, none⟩ = some (.int .i64 (t2.head.value)) := Grows.cell (Grows.alloc _ _) At
      have gq : Grows wr ((wr.alloc (.cells #[.string ⟨(t.name).toArray⟩, .string ⟨(t.source).toArray⟩, .int .i64 (t.day), .int .i64 (t.till), .slice Ac (t.body).length Aa, .int .i64 (t.arrow), .bool (t.head.neg), .string ⟨(t.head.pred).toArray⟩, .slice Ad (t.head.args).length Ab, .bool (t.head.hasValue), .int .i64 (t.head.value)] 49)).alloc (.cells #[.string ⟨(t2.name).toArray⟩, .string ⟨(t2.source).toArray⟩, .int .i64 (t2.day), .int .i64 (t2.till), .slice Al (t2.body).length Am, .int .i64 (t2.arrow), .bool (t2.head.neg), .string ⟨(t2.head.pred).toArray⟩, .slice Ak (t2.head.args).length An, .bool (t2.head.hasValue), .int .i64 (t2.head.value)] 49)) := lq
      have Af := Prems.keep Af (eM gq.keeps)
      have Ag := Prems.keep Ag (eM gq.keeps)
      have Ai := Strs.keep (T := ei) Ai (eM gq.keeps) (by decide)
      have Ah := Strs.keep (T := ei) Ah (eM gq.keeps) (by decide)
      have C := ec (zS t.name t2.name t.source t2.source t.day t2.day t.till t2.till t.body t2.body t.arrow t2.arrow t.head t2.head _ _ _ _ ((wr.alloc (.cells #[.string ⟨(t.name).toArray⟩, .string ⟨(t.source).toArray⟩, .int .i64 (t.day), .int .i64 (t.till), .slice Ac (t.body).length Aa, .int .i64 (t.arrow), .bool (t.head.neg), .string ⟨(t.head.pred).toArray⟩, .slice Ad (t.head.args).length Ab, .bool (t.head.hasValue), .int .i64 (t.head.value)] 49)).alloc (.cells #[.string ⟨(t2.name).toArray⟩, .string ⟨(t2.source).toArray⟩, .int .i64 (t2.day), .int .i64 (t2.till), .slice Al (t2.body).length Am, .int .i64 (t2.arrow), .bool (t2.head.neg), .string ⟨(t2.head.pred).toArray⟩, .slice Ak (t2.head.args).length An, .bool (t2.head.hasValue), .int .i64 (t2.head.value)] 49)) Af Ag Ai Ah Ap.1 hi2.1 Ap.2 hi2.2)
      have GQ := ec (Below.trans HW.out (Below.mono gq HW.out.size))
      clear h2 h4 gq Ao Aq Ap hi2 Af Ag Ai Ah
      by_cases htt : t = t2
      · have HS := ec (fK ht (htt ▸ Ae) HE.out)
        have Aj : decide (t = t2) = true := decide_eq_true htt
        change Hid (Calls _ _ _ _ fun e w' => e = .returned (.bool (decide (t = t2))) ∧ _) at C
        rw [Aj] at C
        clear ht Ae HE htt Aj
        go_wp2_with fail
        refine C.out.mono ?_
        rintro _ w2 ⟨rfl, hb⟩
        have Ar := ec (Below.trans GQ.out (Below.mono hb GQ.out.size))
        clear hb C
        go_wp2_with fail
        go_roundw
        case rel => exact ⟨k + 1, by omega, by go_num, Ar, HS⟩
        case measure => simp [intOf]; omega
      · have HN := ec (fU ht Ae htt)
        have Aj : decide (t = t2) = false := decide_eq_false htt
        change Hid (Calls _ _ _ _ fun e w' => e = .returned (.bool (decide (t = t2))) ∧ _) at C
        rw [Aj] at C
        clear ht Ae HE htt Aj
        go_wp2_with fail
        refine C.out.mono ?_
        rintro _ w2 ⟨rfl, hb⟩
        have Ar := ec (Below.trans GQ.out (Below.mono hb GQ.out.size))
        clear hb C
        go_wp2_with fail
        go_ret
        exact ⟨eh HN.out.symm, Ar.out⟩
    · have HS := ec (fR As.out (by omega) HE.out)
      go_wp2_with fail
      go_ret
      exact ⟨eh HS.out.symm, HW.out⟩
 · have HN := ec (fT hlen)
   go_enter Tryz.func96, Tryz.ntmps96
   go_wp2_with fail
   go_ret
   exact ⟨eh HN.out.symm, Below.refl _ w⟩
end Go.Proofs.YtbpphlmakmeoaaaGreatDoor.Sy
namespace Go.Proofs.YtbpphlmakmeoaaaGreatDoor.Sy
open Go.RowKit
abbrev vK (Z : Nat → Prop) (w : World) (l : List (ee × ee)) (v : Value) : Prop := Rows Z 124 2 cM w l v
abbrev sA (Z : Nat → Prop) (w : World) (l : List fZ) (v : Value) : Prop := Rows Z 128 4 (cPred Z) w l v
abbrev pd (Z : Nat → Prop) (w : World) (l : List (List ee)) (v : Value) : Prop := Rows Z 22 1 (cClass Z) w l v
abbrev vI (Z : Nat → Prop) (w : World) (l : List (ee × Int)) (v : Value) : Prop := Rows Z 131 2 i8 w l v
abbrev sD (Z : Nat → Prop) (w : World) (l : List gI) (v : Value) : Prop := Rows Z 49 11 (cRule Z) w l v
abbrev vU (Z : Nat → Prop) (w : World) (l : List (ee × ee)) (v : Value) : Prop := Rows Z 133 2 cM w l v
abbrev uT (Z : Nat → Prop) (w : World) (l : List gx) (v : Value) : Prop := Rows Z 135 5 (cTotal Z) w l v
theorem iD {w w' : World} (h : Keeps w w') : Kp allT Any w w' := Kp.of_keeps h (by decide) (by decide)
theorem zH (title1 title2 : ee) (kinds1 kinds2 : List ee) (members1 members2 : List (ee × ee)) (preds1 preds2 : List fZ) (classes1 classes2 : List (List ee)) (sources1 sources2 : List (ee × Int)) (rules1 rules2 : List gI) (excepts1 excepts2 : List (ee × ee)) (totals1 totals2 : List gx) (v_kinds1 : Value) (v_kinds2 : Value) (v_members1 : Value) (v_members2 : Value) (v_preds1 : Value) (v_preds2 : Value) (v_classes1 : Value) (v_classes2 : Value) (v_sources1 : Value) (v_sources2 : Value) (v_rules1 : Value) (v_rules2 : Value) (v_excepts1 : Value) (v_excepts2 : Value) (v_totals1 : Value) (v_totals2 : Value) (w : World) (l_kinds1 : Strs Any w (kinds1) v_kinds1) (l_kinds2 : Strs Any w (kinds2) v_kinds2) (l_members1 : vK Any w (members1) v_members1) (l_members2 : vK Any w (members2) v_members2) (l_preds1 : sA Any w (preds1) v_preds1) (l_preds2 : sA Any w (preds2) v_preds2) (l_classes1 : pd Any w (classes1) v_classes1) (l_classes2 : pd Any w (classes2) v_classes2) (l_sources1 : vI Any w (sources1) v_sources1) (l_sources2 : vI Any w (sources2) v_sources2) (l_rules1 : sD Any w (rules1) v_rules1) (l_rules2 : sD Any w (rules2) v_rules2) (l_excepts1 : vU Any w (excepts1) v_excepts1) (l_excepts2 : vU Any w (excepts2) v_excepts2) (l_totals1 : uT Any w (totals1) v_totals1) (l_totals2 : uT Any w (totals2) v_totals2) (hkinds1 : kinds1.length ≤ 1000000000) (hkinds2 : kinds2.length ≤ 1000000000) (hmembers1 : members1.length ≤ 1000000000) (hmembers2 : members2.length ≤ 1000000000) (hpreds1 : preds1.length ≤ 1000000000 ∧ ∀ t ∈ preds1, t.kinds.length ≤ 1000000000 ∧ t.values.length ≤ 1000000000) (hpreds2 : preds2.length ≤ 1000000000 ∧ ∀ t ∈ preds2, t.kinds.length ≤ 1000000000 ∧ t.values.length ≤ 1000000000) (hclasses1 : classes1.length ≤ 1000000000 ∧ ∀ t ∈ classes1, t.length ≤ 1000000000) (hclasses2 : classes2.length ≤ 1000000000 ∧ ∀ t ∈ classes2, t.length ≤ 1000000000) (hsources1 : sources1.length ≤ 1000000000) (hsources2 : sources2.length ≤ 1000000000) (hrules1 : rules1.length ≤ 1000000000 ∧ ∀ t ∈ rules1, (t.body.length ≤ 1000000000 ∧ ∀ u ∈ t.body, u.lit.args.length ≤ 1000000000 ∧ (u.guard.left.length ≤ 1000000000 ∧ ∀ v ∈ u.guard.left, v.args.length ≤ 1000000000) ∧ (u.guard.right.length ≤ 1000000000 ∧ ∀ v ∈ u.guard.right, v.args.length ≤ 1000000000)) ∧ t.head.args.length ≤ 1000000000) (hrules2 : rules2.length ≤ 1000000000 ∧ ∀ t ∈ rules2, (t.body.length ≤ 1000000000 ∧ ∀ u ∈ t.body, u.lit.args.length ≤ 1000000000 ∧ (u.guard.left.length ≤ 1000000000 ∧ ∀ v ∈ u.guard.left, v.args.length ≤ 1000000000) ∧ (u.guard.right.length ≤ 1000000000 ∧ ∀ v ∈ u.guard.right, v.args.length ≤ 1000000000)) ∧ t.head.args.length ≤ 1000000000) (hexcepts1 : excepts1.length ≤ 1000000000) (hexcepts2 : excepts2.length ≤ 1000000000) (htotals1 : totals1.length ≤ 1000000000 ∧ ∀ t ∈ totals1, t.preds.length ≤ 1000000000) (htotals2 : totals2.length ≤ 1000000000 ∧ ∀ t ∈ totals2, t.preds.length ≤ 1000000000) :
    Calls Tryz.prog 40 #[.agg #[.string ⟨(title1).toArray⟩, v_kinds1, v_members1, v_preds1, v_classes1, v_sources1, v_rules1, v_excepts1, v_totals1], .agg #[.string ⟨(title2).toArray⟩, v_kinds2, v_members2, v_preds2, v_classes2, v_sources2, v_rules2, v_excepts2, v_totals2]] w fun e w' => e = .returned (.bool (decide ((⟨title1, kinds1, members1, preds1, classes1, sources1, rules1, excepts1, totals1⟩ : StatM) = ⟨title2, kinds2, members2, preds2, classes2, sources2, rules2, excepts2, totals2⟩))) ∧ Below w.heap.size w w' := by
 obtain ⟨AC, AE, rfl⟩ := ed l_kinds1
 have AT := ec l_kinds1
 clear l_kinds1
 obtain ⟨AL, AN, rfl⟩ := ed l_kinds2
 have AR := ec l_kinds2
 clear l_kinds2
 obtain ⟨Ao, Ap, rfl⟩ := ed l_members1
 have Aw := ec l_members1
 clear l_members1
 obtain ⟨Ag, Ab, rfl⟩ := ed l_members2
 have At := ec l_members2
 clear l_members2
 obtain ⟨AO, AK, rfl⟩ := ed l_preds1
 have AV := ec l_preds1
 clear l_preds1
 obtain ⟨AI, AD, rfl⟩ := ed l_preds2
 have AU := ec l_preds2
 clear l_preds2
 obtain ⟨Ad, Al, rfl⟩ := ed l_classes1
 have Au := ec l_classes1
 clear l_classes1
 obtain ⟨Aa, An, rfl⟩ := ed l_classes2
 have Aq := ec l_classes2
 clear l_classes2
 obtain ⟨Ae, Am, rfl⟩ := ed l_sources1
 have Ar := ec l_sources1
 clear l_sources1
 obtain ⟨Ah, Ai, rfl⟩ := ed l_sources2
 have Az := ec l_sources2
 clear l_sources2
 obtain ⟨AM, AH, rfl⟩ := ed l_rules1
 have AS := ec l_rules1
 clear l_rules1
 obtain ⟨AP, AG, rfl⟩ := ed l_rules2
 have AQ := ec l_rules2
 clear l_rules2
 obtain ⟨Af, Ac, rfl⟩ := ed l_excepts1
 have AB := ec l_excepts1
 clear l_excepts1
 obtain ⟨Aj, Ak, rfl⟩ := ed l_excepts2
 have AA := ec l_excepts2
 clear l_excepts2
 obtain ⟨Av, Ay, rfl⟩ := ed l_totals1
 have AJ := ec l_totals1
 clear l_totals1
 obtain ⟨As, Ax, rfl⟩ := ed l_totals2
 have AF := ec l_totals2
 clear l_totals2
 obtain ⟨hn, hm, hg⟩ := jd w (.cells #[.string ⟨(title1).toArray⟩, .slice AC (kinds1).length AE, .slice Ao (members1).length Ap, .slice AO (preds1).length AK, .slice Ad (classes1).length Al, .slice Ae (sources1).length Am, .slice AM (rules1).length AH, .slice Af (excepts1).length Ac, .slice Av (totals1).length Ay] 31) (.cells #[.string ⟨(title2).toArray⟩, .slice AL (kinds2).length AN, .slice Ag (members2).length Ab, .slice AI (preds2).length AD, .slice Aa (classes2).length An, .slice Ah (sources2).length Ai, .slice AP (rules2).length AG, .slice Aj (excepts2).length Ak, .slice As (totals2).length Ax] 31)
 have N0 := ec hn
 have N1 := ec hm
 have G0 := ec hg
 clear hn hm hg
 go_enter Tryz.func40, Tryz.ntmps40
 by_cases h0 : title1 = title2
 rotate_left 1
 · have Ea : (title1 == title2) = false := beq_eq_false_iff_ne.2 h0
   go_wp2_with fail
   go_ret
   exact ⟨eh (decide_eq_false fun e => h0 (by injection e)).symm, G0.out⟩
 subst h0
 have C := ec (jP kinds1 kinds2 _ _ _ (Rows.keep (T := allT) AT.out (iD (G0.out.keeps)) (by decide) (fun _ _ h => h)) (Rows.keep (T := allT) AR.out (iD (G0.out.keeps)) (by decide) (fun _ _ h => h)) hkinds1 hkinds2)
 go_wp2_with fail
 refine C.out.mono ?_
 rintro _ w1 ⟨rfl, hb⟩
 have P1 := eK hb N0
 have Q1 := eK hb N1
 obtain ⟨DN, Bp, CJ, CX, Bq, CF, Dw, Dk, Bt, BJ⟩ := gi P1.out
 obtain ⟨Dp, BX, DT, DP, AW, BF, Bm, BM, Bv, CC⟩ := gi Q1.out
 have G2 := ec (Grows.trans G0.out hb)
 clear hb C
 by_cases h1 : kinds1 = kinds2
 rotate_left 1
 · rw [decide_eq_false h1]
   go_wp2_with fail
   go_ret
   exact ⟨eh (decide_eq_false fun e => h1 (by injection e)).symm, G2.out⟩
 subst h1
 rw [show decide (kinds1 = kinds1) = true from decide_eq_true rfl]
 have C := ec (vP members1 members2 _ _ _ (Rows.keep (T := allT) Aw.out (iD (G2.out.keeps)) (by decide) (fun _ _ h => h)) (Rows.keep (T := allT) At.out (iD (G2.out.keeps)) (by decide) (fun _ _ h => h)) hmembers1 hmembers2)
 go_wp2_with fail
 refine C.out.mono ?_
 rintro _ w2 ⟨rfl, hb⟩
 have P2 := eK hb P1
 have Q2 := eK hb Q1
 obtain ⟨Ck, Cq, Bn, Cg, BL, Dc, DF, CG, Cw, Cm⟩ := gi P2.out
 obtain ⟨DX, CO, DM, Dn, Df, DL, CH, Bc, CR, CY⟩ := gi Q2.out
 have G3 := ec (Grows.trans G2.out hb)
 clear hb C
 by_cases h2 : members1 = members2
 rotate_left 1
 · rw [decide_eq_false h2]
   go_wp2_with fail
   go_ret
   exact ⟨eh (decide_eq_false fun e => h2 (by injection e)).symm, G3.out⟩
 subst h2
 rw [show decide (members1 = members1) = true from decide_eq_true rfl]
 have C := ec (ye preds1 preds2 _ _ _ (Rows.keep (T := allT) AV.out (iD (G3.out.keeps)) (by decide) (fun _ _ h => h.keep (eM G3.out.keeps))) (Rows.keep (T := allT) AU.out (iD (G3.out.keeps)) (by decide) (fun _ _ h => h.keep (eM G3.out.keeps))) hpreds1.1 hpreds2.1 hpreds1.2 hpreds2.2)
 go_wp2_with fail
 refine C.out.mono ?_
 rintro _ w3 ⟨rfl, hb⟩
 have P3 := eK hb P2
 have Q3 := eK hb Q2
 obtain ⟨BR, DI, Dz, BA, Ba, Bu, BD, CL, Dg, BB⟩ := gi P3.out
 obtain ⟨CA, Bk, BW, Bi, Cr, BS, Cb, Ca, Bs, Dt⟩ := gi Q3.out
 have G4 := ec (Grows.trans G3.out hb)
 clear hb C
 by_cases h3 : preds1 = preds2
 rotate_left 1
 · rw [decide_eq_false h3]
   go_wp2_with fail
   go_ret
   exact ⟨eh (decide_eq_false fun e => h3 (by injection e)).symm, G4.out⟩
 subst h3
 rw [show decide (preds1 = preds1) = true from decide_eq_true rfl]
 have C := ec (vu classes1 classes2 _ _ _ (Rows.keep (T := allT) Au.out (iD (G4.out.keeps)) (by decide) (fun _ _ h => h.keep (eM G4.out.keeps))) (Rows.keep (T := allT) Aq.out (iD (G4.out.keeps)) (by decide) (fun _ _ h => h.keep (eM G4.out.keeps))) hclasses1.1 hclasses2.1 hclasses1.2 hclasses2.2)
 go_wp2_with fail
 refine C.out.mono ?_
 rintro _ w4 ⟨rfl, hb⟩
 have P4 := eK hb P3
 have Q4 := eK hb Q3
 obtain ⟨BP, Bf, DG, Ce, DC, Cf, BI, Cz, DH, Be⟩ := gi P4.out
 obtain ⟨Bw, DO, CZ, Dr, DQ, CB, CI, Cv, Dh, Cj⟩ := gi Q4.out
 have G5 := ec (Grows.trans G4.out hb)
 clear hb C
 by_cases h4 : classes1 = classes2
 rotate_left 1
 · rw [decide_eq_false h4]
   go_wp2_with fail
   go_ret
   exact ⟨eh (decide_eq_false fun e => h4 (by injection e)).symm, G5.out⟩
 subst h4
 rw [show decide (classes1 = classes1) = true from decide_eq_true rfl]
 have C := ec (vq sources1 sources2 _ _ _ (Rows.keep (T := allT) Ar.out (iD (G5.out.keeps)) (by decide) (fun _ _ h => h)) (Rows.keep (T := allT) Az.out (iD (G5.out.keeps)) (by decide) (fun _ _ h => h)) hsources1 hsources2)
 go_wp2_with fail
 refine C.out.mono ?_
 rintro _ w5 ⟨rfl, hb⟩
 have P5 := eK hb P4
 have Q5 := eK hb Q4
 obtain ⟨Da, Dq, AZ, Dj, Cx, DW, CQ, Bx, DV, CD⟩ := gi P5.out
 obtain ⟨DU, DK, Di, Bj, DR, Ci, Bg, DJ, CT, DZ⟩ := gi Q5.out
 have G6 := ec (Grows.trans G5.out hb)
 clear hb C
 by_cases h5 : sources1 = sources2
 rotate_left 1
 · rw [decide_eq_false h5]
   go_wp2_with fail
   go_ret
   exact ⟨eh (decide_eq_false fun e => h5 (by injection e)).symm, G6.out⟩
 subst h5
 rw [show decide (sources1 = sources1) = true from decide_eq_true rfl]
 have C := ec (yg rules1 rules2 _ _ _ (Rows.keep (T := allT) AS.out (iD (G6.out.keeps)) (by decide) (fun _ _ h => h.keep (eM G6.out.keeps))) (Rows.keep (T := allT) AQ.out (iD (G6.out.keeps)) (by decide) (fun _ _ h => h.keep (eM G6.out.keeps))) hrules1.1 hrules2.1 hrules1.2 hrules2.2)
 go_wp2_with fail
 refine C.out.mono ?_
 rintro _ w6 ⟨rfl, hb⟩
 have P6 := eK hb P5
 have Q6 := eK hb Q5
 obtain ⟨CS, BC, Cd, BH, By, Ch, Cl, BQ, Do, BV⟩ := gi P6.out
 obtain ⟨Bb, CM, BZ, Db, CU, Dv, Cc, Dl, DY, BG⟩ := gi Q6.out
 have G7 := ec (Grows.trans G6.out hb)
 clear hb C
 by_cases h6 : rules1 = rules2
 rotate_left 1
 · rw [decide_eq_false h6]
   go_wp2_with fail
   go_ret
   exact ⟨eh (decide_eq_false fun e => h6 (by injection e)).symm, G7.out⟩
 subst h6
 rw [show decide (rules1 = rules1) = true from decide_eq_true rfl]
 have C := ec (vE excepts1 excepts2 _ _ _ (Rows.keep (T := allT) AB.out (iD (G7.out.keeps)) (by decide) (fun _ _ h => h)) (Rows.keep (T := allT) AA.out (iD (G7.out.keeps)) (by decide) (fun _ _ h => h)) hexcepts1 hexcepts2)
 go_wp2_with fail
 refine C.out.mono ?_
 rintro _ w7 ⟨rfl, hb⟩
 have P7 := eK hb P6
 have Q7 := eK hb Q6
 obtain ⟨Cs, DD, CP, Dx, Dd, De, BT, BE, Dm, CK⟩ := gi P7.out
 obtain ⟨Ct, CW, Cn, AY, CN, Cy, DE, Co, Ds, Bh⟩ := gi Q7.out
 have G8 := ec (Grows.trans G7.out hb)
 clear hb C
 by_cases h7 : excepts1 = excepts2
 rotate_left 1
 · rw [decide_eq_false h7]
   go_wp2_with fail
   go_ret
   exact ⟨eh (decide_eq_false fun e => h7 (by injection e)).symm, G8.out⟩
 subst h7
 rw [show decide (excepts1 = excepts1) = true from decide_eq_true rfl]
 have C := ec (wF totals1 totals2 _ _ _ (Rows.keep (T := allT) AJ.out (iD (G8.out.keeps)) (by decide) (fun _ _ h => h.keep (eM G8.out.keeps))) (Rows.keep (T := allT) AF.out (iD (G8.out.keeps)) (by decide) (fun _ _ h => h.keep (eM G8.out.keeps))) htotals1.1 htotals2.1 htotals1.2 htotals2.2)
 go_wp2_with fail
 refine C.out.mono ?_
 rintro _ w8 ⟨rfl, hb⟩
 have P8 := eK hb P7
 have Q8 := eK hb Q7
 obtain ⟨DA, AX, BY, BO, CV, CE, DB, BU, BK, Dy⟩ := gi P8.out
 obtain ⟨Cu, Bd, Bz, BN, Br, Bl, Cp, Du, DS, Bo⟩ := gi Q8.out
 have G9 := ec (Grows.trans G8.out hb)
 clear hb C
 by_cases h8 : totals1 = totals2
 rotate_left 1
 · rw [decide_eq_false h8]
   go_wp2_with fail
   go_ret
   exact ⟨eh (decide_eq_false fun e => h8 (by injection e)).symm, G9.out⟩
 subst h8
 rw [show decide (totals1 = totals1) = true from decide_eq_true rfl]
 go_wp2_with fail
 go_ret
 exact ⟨by first | rfl | exact eh (decide_eq_true rfl).symm, G9.out⟩
end Go.Proofs.YtbpphlmakmeoaaaGreatDoor.Sy
