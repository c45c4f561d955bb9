/- Whether two lists are one: of two that hold the same things. By program. -/
import Derived.Test.YthnjmfkiohgkkaaGreatDoorParse5
namespace Go.Proofs.YthnjmfkiohgkkaaGreatDoor.Sy
open Go.RowKit

theorem Rows.at {α : Type} {Z : Nat → Prop} {e k : Nat} {c : World → α → List Value → Prop} {w : World} {l : List α} {v : Value} (h : Rows Z e k c w l v) {i : Nat} {a : α} (hi : l[i]? = some a) :
    ∃ g cap ys, v = .slice (some ⟨g, 0, none⟩) l.length cap ∧ Z g ∧ c w a ys ∧ ∀ (j : Nat) u, ys[j]? = some u → w.cell? ⟨g, i * k + j, none⟩ = some u := by
  obtain ⟨xs, ⟨h1, h2⟩, h3⟩ := h
  have hil := (List.getElem?_eq_some_iff.1 hi).1
  rcases h1.2 with ⟨_, hn⟩ | ⟨g, cap, cur, rfl, _, hg, _, _, _, _⟩
  · omega
  · refine ⟨g, cap, _, rfl, h2 g rfl, h3 i a hi, fun j u hu => ?_⟩
    rw [List.getElem?_take] at hu
    split at hu
    · next hj =>
      rw [List.getElem?_drop] at hu
      have hik : i * k + k ≤ l.length * k := by rw [← Nat.succ_mul]; exact Nat.mul_le_mul_right k hil
      rw [h1.cellAt (i * k + j) (by omega), hu]
    · cases hu

set_option maxRecDepth 100000 in
set_option maxHeartbeats 1600000 in
theorem yes_SameStrings {Z Z' : Nat → Prop} (l : List Bytes) (va vb : Value) (w : World) (ha : Rows Z 9 1 cS w l va) (hb : Rows Z' 9 1 cS w l vb) (hl : l.length ≤ 1000000000) :
    Calls Tryz.prog 28 #[va, vb] w fun e w' => e = .returned (.bool true) ∧ ∃ q, w' = w.drewN q := by
  have HA := hide ha
  have HB := hide hb
  obtain ⟨aa, ca, rfl⟩ := rows_form ha
  obtain ⟨ab, cb, rfl⟩ := rows_form hb
  clear ha hb
  go_enter Tryz.func28, Tryz.ntmps28
  go_wp2_with fail
  go_loopw [5] (fun x wr => ∃ k q : Nat, k ≤ l.length ∧ x = .int .i64 k ∧ wr = w.drewN q) (fun x _ => l.length - (intOf x).toNat)
  case atStart => exact ⟨0, 0, by omega, rfl, rfl⟩
  case round =>
    obtain ⟨k, q, hk, rfl, rfl⟩ := hrel
    by_cases hlt : k < l.length
    · obtain ⟨t, ht⟩ : ∃ t, l[k]? = some t := ⟨l[k], by simp [hlt]⟩
      obtain ⟨ga, xa, ya, e1, _, h1, h2⟩ := HA.out.at ht
      obtain ⟨gb, xb, yb, e2, _, h3, h4⟩ := HB.out.at ht
      simp only [Value.slice.injEq] at e1 e2
      obtain ⟨rfl, _, rfl⟩ := e1
      obtain ⟨rfl, _, rfl⟩ := e2
      unfold cS at h1 h3
      subst h1
      subst h3
      have a0 : w.cell? ⟨ga, k, none⟩ = some (.string ⟨t.toArray⟩) := by have := h2 0 _ rfl; simpa using this
      have b0 : w.cell? ⟨gb, k, none⟩ = some (.string ⟨t.toArray⟩) := by have := h4 0 _ rfl; simpa using this
      clear h2 h4 ht
      go_wp2_with fail
      go_quiet (fail)
      go_wp2_with fail
      go_roundw
      case rel => exact ⟨k + 1, _, by omega, by go_num, rfl⟩
      case measure => simp [intOf]; omega
    · go_wp2_with fail
      go_ret
      exact ⟨rfl, q, rfl⟩

set_option maxRecDepth 100000 in
set_option maxHeartbeats 1600000 in
theorem yes_SameMoney {Z Z' : Nat → Prop} (l : List Int) (va vb : Value) (w : World) (ha : Rows Z 93 1 cI w l va) (hb : Rows Z' 93 1 cI w l vb) (hl : l.length ≤ 1000000000) :
    Calls Tryz.prog 97 #[va, vb] w fun e w' => e = .returned (.bool true) ∧ ∃ q, w' = w.drewN q := by
  have HA := hide ha
  have HB := hide hb
  obtain ⟨aa, ca, rfl⟩ := rows_form ha
  obtain ⟨ab, cb, rfl⟩ := rows_form hb
  clear ha hb
  go_enter Tryz.func97, Tryz.ntmps97
  go_wp2_with fail
  go_loopw [5] (fun x wr => ∃ k q : Nat, k ≤ l.length ∧ x = .int .i64 k ∧ wr = w.drewN q) (fun x _ => l.length - (intOf x).toNat)
  case atStart => exact ⟨0, 0, by omega, rfl, rfl⟩
  case round =>
    obtain ⟨k, q, hk, rfl, rfl⟩ := hrel
    by_cases hlt : k < l.length
    · obtain ⟨t, ht⟩ : ∃ t, l[k]? = some t := ⟨l[k], by simp [hlt]⟩
      obtain ⟨ga, xa, ya, e1, _, h1, h2⟩ := HA.out.at ht
      obtain ⟨gb, xb, yb, e2, _, h3, h4⟩ := HB.out.at ht
      simp only [Value.slice.injEq] at e1 e2
      obtain ⟨rfl, _, rfl⟩ := e1
      obtain ⟨rfl, _, rfl⟩ := e2
      unfold cI at h1 h3
      subst h1
      subst h3
      have a0 : w.cell? ⟨ga, k, none⟩ = some (.int .i64 t) := by have := h2 0 _ rfl; simpa using this
      have b0 : w.cell? ⟨gb, k, none⟩ = some (.int .i64 t) := by have := h4 0 _ rfl; simpa using this
      clear h2 h4 ht
      go_wp2_with fail
      go_quiet (fail)
      go_wp2_with fail
      go_roundw
      case rel => exact ⟨k + 1, _, by omega, by go_num, rfl⟩
      case measure => simp [intOf]; omega
    · go_wp2_with fail
      go_ret
      exact ⟨rfl, q, rfl⟩

set_option maxRecDepth 100000 in
set_option maxHeartbeats 1600000 in
theorem yes_SameMembers {Z Z' : Nat → Prop} (l : List (Bytes × Bytes)) (va vb : Value) (w : World) (ha : Rows Z 78 2 cM w l va) (hb : Rows Z' 78 2 cM w l vb) (hl : l.length ≤ 1000000000) :
    Calls Tryz.prog 29 #[va, vb] w fun e w' => e = .returned (.bool true) ∧ ∃ q, w' = w.drewN q := by
  have HA := hide ha
  have HB := hide hb
  obtain ⟨aa, ca, rfl⟩ := rows_form ha
  obtain ⟨ab, cb, rfl⟩ := rows_form hb
  clear ha hb
  go_enter Tryz.func29, Tryz.ntmps29
  go_wp2_with fail
  go_loopw [5] (fun x wr => ∃ k q : Nat, k ≤ l.length ∧ x = .int .i64 k ∧ wr = w.drewN q) (fun x _ => l.length - (intOf x).toNat)
  case atStart => exact ⟨0, 0, by omega, rfl, rfl⟩
  case round =>
    obtain ⟨k, q, hk, rfl, rfl⟩ := hrel
    by_cases hlt : k < l.length
    · obtain ⟨t, ht⟩ : ∃ t, l[k]? = some t := ⟨l[k], by simp [hlt]⟩
      obtain ⟨ga, xa, ya, e1, _, h1, h2⟩ := HA.out.at ht
      obtain ⟨gb, xb, yb, e2, _, h3, h4⟩ := HB.out.at ht
      simp only [Value.slice.injEq] at e1 e2
      obtain ⟨rfl, _, rfl⟩ := e1
      obtain ⟨rfl, _, rfl⟩ := e2
      unfold cM at h1 h3
      subst h1
      subst h3
      have a0 : w.cell? ⟨ga, k * 2, none⟩ = some (.string ⟨t.1.toArray⟩) := by have := h2 0 _ rfl; simpa using this
      have b0 : w.cell? ⟨gb, k * 2, none⟩ = some (.string ⟨t.1.toArray⟩) := by have := h4 0 _ rfl; simpa using this
      have a1 : w.cell? ⟨ga, k * 2 + 1, none⟩ = some (.string ⟨t.2.toArray⟩) := by have := h2 1 _ rfl; simpa using this
      have b1 : w.cell? ⟨gb, k * 2 + 1, none⟩ = some (.string ⟨t.2.toArray⟩) := by have := h4 1 _ rfl; simpa using this
      clear h2 h4 ht
      go_wp2_with fail
      go_quiet (fail)
      go_wp2_with fail
      go_roundw
      case rel => exact ⟨k + 1, _, by omega, by go_num, rfl⟩
      case measure => simp [intOf]; omega
    · go_wp2_with fail
      go_ret
      exact ⟨rfl, q, rfl⟩

set_option maxRecDepth 100000 in
set_option maxHeartbeats 1600000 in
theorem yes_SameSources {Z Z' : Nat → Prop} (l : List (Bytes × Int)) (va vb : Value) (w : World) (ha : Rows Z 126 2 cSrc w l va) (hb : Rows Z' 126 2 cSrc w l vb) (hl : l.length ≤ 1000000000) :
    Calls Tryz.prog 32 #[va, vb] w fun e w' => e = .returned (.bool true) ∧ ∃ q, w' = w.drewN q := by
  have HA := hide ha
  have HB := hide hb
  obtain ⟨aa, ca, rfl⟩ := rows_form ha
  obtain ⟨ab, cb, rfl⟩ := rows_form hb
  clear ha hb
  go_enter Tryz.func32, Tryz.ntmps32
  go_wp2_with fail
  go_loopw [5] (fun x wr => ∃ k q : Nat, k ≤ l.length ∧ x = .int .i64 k ∧ wr = w.drewN q) (fun x _ => l.length - (intOf x).toNat)
  case atStart => exact ⟨0, 0, by omega, rfl, rfl⟩
  case round =>
    obtain ⟨k, q, hk, rfl, rfl⟩ := hrel
    by_cases hlt : k < l.length
    · obtain ⟨t, ht⟩ : ∃ t, l[k]? = some t := ⟨l[k], by simp [hlt]⟩
      obtain ⟨ga, xa, ya, e1, _, h1, h2⟩ := HA.out.at ht
      obtain ⟨gb, xb, yb, e2, _, h3, h4⟩ := HB.out.at ht
      simp only [Value.slice.injEq] at e1 e2
      obtain ⟨rfl, _, rfl⟩ := e1
      obtain ⟨rfl, _, rfl⟩ := e2
      unfold cSrc at h1 h3
      subst h1
      subst h3
      have a0 : w.cell? ⟨ga, k * 2, none⟩ = some (.string ⟨t.1.toArray⟩) := by have := h2 0 _ rfl; simpa using this
      have b0 : w.cell? ⟨gb, k * 2, none⟩ = some (.string ⟨t.1.toArray⟩) := by have := h4 0 _ rfl; simpa using this
      have a1 : w.cell? ⟨ga, k * 2 + 1, none⟩ = some (.int .i64 t.2) := by have := h2 1 _ rfl; simpa using this
      have b1 : w.cell? ⟨gb, k * 2 + 1, none⟩ = some (.int .i64 t.2) := by have := h4 1 _ rfl; simpa using this
      clear h2 h4 ht
      go_wp2_with fail
      go_quiet (fail)
      go_wp2_with fail
      go_roundw
      case rel => exact ⟨k + 1, _, by omega, by go_num, rfl⟩
      case measure => simp [intOf]; omega
    · go_wp2_with fail
      go_ret
      exact ⟨rfl, q, rfl⟩

set_option maxRecDepth 100000 in
set_option maxHeartbeats 1600000 in
theorem yes_SameExcepts {Z Z' : Nat → Prop} (l : List (Bytes × Bytes)) (va vb : Value) (w : World) (ha : Rows Z 128 2 cM w l va) (hb : Rows Z' 128 2 cM w l vb) (hl : l.length ≤ 1000000000) :
    Calls Tryz.prog 34 #[va, vb] w fun e w' => e = .returned (.bool true) ∧ ∃ q, w' = w.drewN q := by
  have HA := hide ha
  have HB := hide hb
  obtain ⟨aa, ca, rfl⟩ := rows_form ha
  obtain ⟨ab, cb, rfl⟩ := rows_form hb
  clear ha hb
  go_enter Tryz.func34, Tryz.ntmps34
  go_wp2_with fail
  go_loopw [5] (fun x wr => ∃ k q : Nat, k ≤ l.length ∧ x = .int .i64 k ∧ wr = w.drewN q) (fun x _ => l.length - (intOf x).toNat)
  case atStart => exact ⟨0, 0, by omega, rfl, rfl⟩
  case round =>
    obtain ⟨k, q, hk, rfl, rfl⟩ := hrel
    by_cases hlt : k < l.length
    · obtain ⟨t, ht⟩ : ∃ t, l[k]? = some t := ⟨l[k], by simp [hlt]⟩
      obtain ⟨ga, xa, ya, e1, _, h1, h2⟩ := HA.out.at ht
      obtain ⟨gb, xb, yb, e2, _, h3, h4⟩ := HB.out.at ht
      simp only [Value.slice.injEq] at e1 e2
      obtain ⟨rfl, _, rfl⟩ := e1
      obtain ⟨rfl, _, rfl⟩ := e2
      unfold cM at h1 h3
      subst h1
      subst h3
      have a0 : w.cell? ⟨ga, k * 2, none⟩ = some (.string ⟨t.1.toArray⟩) := by have := h2 0 _ rfl; simpa using this
      have b0 : w.cell? ⟨gb, k * 2, none⟩ = some (.string ⟨t.1.toArray⟩) := by have := h4 0 _ rfl; simpa using this
      have a1 : w.cell? ⟨ga, k * 2 + 1, none⟩ = some (.string ⟨t.2.toArray⟩) := by have := h2 1 _ rfl; simpa using this
      have b1 : w.cell? ⟨gb, k * 2 + 1, none⟩ = some (.string ⟨t.2.toArray⟩) := by have := h4 1 _ rfl; simpa using this
      clear h2 h4 ht
      go_wp2_with fail
      go_quiet (fail)
      go_wp2_with fail
      go_roundw
      case rel => exact ⟨k + 1, _, by omega, by go_num, rfl⟩
      case measure => simp [intOf]; omega
    · go_wp2_with fail
      go_ret
      exact ⟨rfl, q, rfl⟩

end Go.Proofs.YthnjmfkiohgkkaaGreatDoor.Sy

namespace Go.Proofs.YthnjmfkiohgkkaaGreatDoor.Sy
open Go.RowKit

theorem below_two (w : World) (o p : Obj) : Below w.heap.size w ((w.alloc o).alloc p) := ((Below.refl _ w).alloc (Nat.le_refl _) _).alloc (by simp) _
theorem below_then {w w1 : World} (h : Below w.heap.size w w1) (q : Nat) : Below w.heap.size w (w1.drewN q) := by
  have := below_drewN w1 q
  exact h.trans (this.mono h.size)

set_option maxRecDepth 100000 in
set_option maxHeartbeats 1600000 in
theorem yes_SameTermText {Z Z' : Nat → Prop} (a : TermM) (x0 y0 : Value) (w : World) (hax : Strs Z w a.args x0) (hay : Strs Z' w a.args y0) (hl : a.args.length ≤ 1000000000) :
    Calls Tryz.prog 200 #[.agg #[.int .i64 a.coef, .string ⟨a.pred.toArray⟩, x0, .int .i64 a.value], .agg #[.int .i64 a.coef, .string ⟨a.pred.toArray⟩, y0, .int .i64 a.value]] w fun e w' => e = .returned (.bool true) ∧ Below w.heap.size w w' := by
  have C0 := hide (fun w1 (hb' : Below w.heap.size w w1) => yes_SameStrings a.args x0 y0 w1 (hax.keep (T := [9]) (Kp.of_below hb') (by decide)) (hay.keep (T := [9]) (Kp.of_below hb') (by decide)) hl)
  obtain ⟨ax0, cx0, rfl⟩ := rows_form hax
  obtain ⟨ay0, cy0, rfl⟩ := rows_form hay
  clear hax hay
  go_enter Tryz.func200, Tryz.ntmps200
  go_wp2_with (first
    | (go_at_call 28; refine (C0.out _ (by first | exact below_two w _ _ | exact below_then (below_two w _ _) _ | exact below_then (below_then (below_two w _ _) _) _)).mono ?_; rintro _ w1 ⟨rfl, q0, hw1⟩; subst w1))
  go_ret
  exact ⟨rfl, by first | exact below_two w _ _ | exact below_then (below_two w _ _) _ | exact below_then (below_then (below_two w _ _) _) _⟩

set_option maxRecDepth 100000 in
set_option maxHeartbeats 1600000 in
theorem yes_SameLitText {Z Z' : Nat → Prop} (a : LitM) (x0 y0 : Value) (w : World) (hax : Strs Z w a.args x0) (hay : Strs Z' w a.args y0) (hl : a.args.length ≤ 1000000000) :
    Calls Tryz.prog 99 #[.agg #[.bool a.neg, .string ⟨a.pred.toArray⟩, x0, .bool a.hasValue, .int .i64 a.value], .agg #[.bool a.neg, .string ⟨a.pred.toArray⟩, y0, .bool a.hasValue, .int .i64 a.value]] w fun e w' => e = .returned (.bool true) ∧ Below w.heap.size w w' := by
  have C0 := hide (fun w1 (hb' : Below w.heap.size w w1) => yes_SameStrings a.args x0 y0 w1 (hax.keep (T := [9]) (Kp.of_below hb') (by decide)) (hay.keep (T := [9]) (Kp.of_below hb') (by decide)) hl)
  obtain ⟨ax0, cx0, rfl⟩ := rows_form hax
  obtain ⟨ay0, cy0, rfl⟩ := rows_form hay
  clear hax hay
  go_enter Tryz.func99, Tryz.ntmps99
  go_wp2_with (first
    | (go_at_call 28; refine (C0.out _ (by first | exact below_two w _ _ | exact below_then (below_two w _ _) _ | exact below_then (below_then (below_two w _ _) _) _)).mono ?_; rintro _ w1 ⟨rfl, q0, hw1⟩; subst w1))
  go_ret
  exact ⟨rfl, by first | exact below_two w _ _ | exact below_then (below_two w _ _) _ | exact below_then (below_then (below_two w _ _) _) _⟩

set_option maxRecDepth 100000 in
set_option maxHeartbeats 1600000 in
theorem yes_SamePred {Z Z' : Nat → Prop} (a : PredM) (x0 y0 x1 y1 : Value) (w : World) (hax : Strs Z w a.kinds x0) (hay : Strs Z' w a.kinds y0) (hbx : Moneys Z w a.values x1) (hby : Moneys Z' w a.values y1) (hl : a.kinds.length ≤ 1000000000) (hm : a.values.length ≤ 1000000000) :
    Calls Tryz.prog 58 #[.agg #[.string ⟨a.name.toArray⟩, .int .i64 a.sort, x0, x1], .agg #[.string ⟨a.name.toArray⟩, .int .i64 a.sort, y0, y1]] w fun e w' => e = .returned (.bool true) ∧ Below w.heap.size w w' := by
  have C0 := hide (fun w1 (hb' : Below w.heap.size w w1) => yes_SameStrings a.kinds x0 y0 w1 (hax.keep (T := [9]) (Kp.of_below hb') (by decide)) (hay.keep (T := [9]) (Kp.of_below hb') (by decide)) hl)
  have C1 := hide (fun w1 (hb' : Below w.heap.size w w1) => yes_SameMoney a.values x1 y1 w1 (hbx.keep (T := [93]) (Kp.of_below hb') (by decide)) (hby.keep (T := [93]) (Kp.of_below hb') (by decide)) hm)
  obtain ⟨ax0, cx0, rfl⟩ := rows_form hax
  obtain ⟨ay0, cy0, rfl⟩ := rows_form hay
  clear hax hay
  obtain ⟨ax1, cx1, rfl⟩ := rows_form hbx
  obtain ⟨ay1, cy1, rfl⟩ := rows_form hby
  clear hbx hby
  go_enter Tryz.func58, Tryz.ntmps58
  go_wp2_with (first
    | (go_at_call 28; refine (C0.out _ (by first | exact below_two w _ _ | exact below_then (below_two w _ _) _ | exact below_then (below_then (below_two w _ _) _) _)).mono ?_; rintro _ w1 ⟨rfl, q0, hw1⟩; subst w1)
    | (go_at_call 97; refine (C1.out _ (by first | exact below_two w _ _ | exact below_then (below_two w _ _) _ | exact below_then (below_then (below_two w _ _) _) _)).mono ?_; rintro _ w1 ⟨rfl, q1, hw1⟩; subst w1))
  go_ret
  exact ⟨rfl, by first | exact below_two w _ _ | exact below_then (below_two w _ _) _ | exact below_then (below_then (below_two w _ _) _) _⟩

set_option maxRecDepth 100000 in
set_option maxHeartbeats 1600000 in
theorem yes_SameTotal {Z Z' : Nat → Prop} (a : TotalM) (x0 y0 : Value) (w : World) (hax : Strs Z w a.preds x0) (hay : Strs Z' w a.preds y0) (hl : a.preds.length ≤ 1000000000) :
    Calls Tryz.prog 60 #[.agg #[.string ⟨a.name.toArray⟩, .string ⟨a.kind.toArray⟩, x0, .bool a.hasCap, .int .i64 a.cap], .agg #[.string ⟨a.name.toArray⟩, .string ⟨a.kind.toArray⟩, y0, .bool a.hasCap, .int .i64 a.cap]] w fun e w' => e = .returned (.bool true) ∧ Below w.heap.size w w' := by
  have C0 := hide (fun w1 (hb' : Below w.heap.size w w1) => yes_SameStrings a.preds x0 y0 w1 (hax.keep (T := [9]) (Kp.of_below hb') (by decide)) (hay.keep (T := [9]) (Kp.of_below hb') (by decide)) hl)
  obtain ⟨ax0, cx0, rfl⟩ := rows_form hax
  obtain ⟨ay0, cy0, rfl⟩ := rows_form hay
  clear hax hay
  go_enter Tryz.func60, Tryz.ntmps60
  go_wp2_with (first
    | (go_at_call 28; refine (C0.out _ (by first | exact below_two w _ _ | exact below_then (below_two w _ _) _ | exact below_then (below_then (below_two w _ _) _) _)).mono ?_; rintro _ w1 ⟨rfl, q0, hw1⟩; subst w1))
  go_ret
  exact ⟨rfl, by first | exact below_two w _ _ | exact below_then (below_two w _ _) _ | exact below_then (below_then (below_two w _ _) _) _⟩

end Go.Proofs.YthnjmfkiohgkkaaGreatDoor.Sy

namespace Go.Proofs.YthnjmfkiohgkkaaGreatDoor.Sy
open Go.RowKit

theorem cell_lt {w : World} {g o : Nat} {v : Value} (h : w.cell? ⟨g, o, none⟩ = some v) : g < w.heap.size := World.block_lt_of_cell? w _ h

abbrev Two4 (wr : World) (ga gb o : Nat) (p0 p1 p2 p3 q0 q1 q2 q3 : Value) (X : World) : Prop :=
  X.cell? ⟨ga, o, none⟩ = some p0 ∧ X.cell? ⟨ga, o + 1, none⟩ = some p1 ∧ X.cell? ⟨ga, o + 2, none⟩ = some p2 ∧ X.cell? ⟨ga, o + 3, none⟩ = some p3 ∧ X.cell? ⟨gb, o, none⟩ = some q0 ∧ X.cell? ⟨gb, o + 1, none⟩ = some q1 ∧ X.cell? ⟨gb, o + 2, none⟩ = some q2 ∧ X.cell? ⟨gb, o + 3, none⟩ = some q3 ∧ ga < wr.heap.size ∧ gb < wr.heap.size ∧ Below wr.heap.size wr X
theorem Two4.b {wr : World} {ga gb o : Nat} {p0 p1 p2 p3 q0 q1 q2 q3 : Value} {X : World} (h : Two4 wr ga gb o p0 p1 p2 p3 q0 q1 q2 q3 X) : Below wr.heap.size wr X := h.2.2.2.2.2.2.2.2.2.2
theorem Two4.drew {wr : World} {ga gb o : Nat} {p0 p1 p2 p3 q0 q1 q2 q3 : Value} {X : World} (h : Two4 wr ga gb o p0 p1 p2 p3 q0 q1 q2 q3 X) : Two4 wr ga gb o p0 p1 p2 p3 q0 q1 q2 q3 X.drew := by
  obtain ⟨h0, h1, h2, h3, h4, h5, h6, h7, k1, k2, k3⟩ := h
  exact ⟨h0, h1, h2, h3, h4, h5, h6, h7, k1, k2, k3.drew⟩
theorem Two4.below {wr : World} {ga gb o : Nat} {p0 p1 p2 p3 q0 q1 q2 q3 : Value} {X Y : World} (h : Two4 wr ga gb o p0 p1 p2 p3 q0 q1 q2 q3 X) (hb : Below X.heap.size X Y) : Two4 wr ga gb o p0 p1 p2 p3 q0 q1 q2 q3 Y := by
  obtain ⟨h0, h1, h2, h3, h4, h5, h6, h7, k1, k2, k3⟩ := h
  have ha : ga < X.heap.size := Nat.lt_of_lt_of_le k1 k3.size
  have hc : gb < X.heap.size := Nat.lt_of_lt_of_le k2 k3.size
  refine ⟨?_, ?_, ?_, ?_, ?_, ?_, ?_, ?_, k1, k2, k3.trans (hb.mono k3.size)⟩ <;> rw [hb.cell (by assumption)] <;> assumption

abbrev Two5 (wr : World) (ga gb o : Nat) (p0 p1 p2 p3 p4 q0 q1 q2 q3 q4 : Value) (X : World) : Prop :=
  X.cell? ⟨ga, o, none⟩ = some p0 ∧ X.cell? ⟨ga, o + 1, none⟩ = some p1 ∧ X.cell? ⟨ga, o + 2, none⟩ = some p2 ∧ X.cell? ⟨ga, o + 3, none⟩ = some p3 ∧ X.cell? ⟨ga, o + 4, none⟩ = some p4 ∧ X.cell? ⟨gb, o, none⟩ = some q0 ∧ X.cell? ⟨gb, o + 1, none⟩ = some q1 ∧ X.cell? ⟨gb, o + 2, none⟩ = some q2 ∧ X.cell? ⟨gb, o + 3, none⟩ = some q3 ∧ X.cell? ⟨gb, o + 4, none⟩ = some q4 ∧ ga < wr.heap.size ∧ gb < wr.heap.size ∧ Below wr.heap.size wr X
theorem Two5.b {wr : World} {ga gb o : Nat} {p0 p1 p2 p3 p4 q0 q1 q2 q3 q4 : Value} {X : World} (h : Two5 wr ga gb o p0 p1 p2 p3 p4 q0 q1 q2 q3 q4 X) : Below wr.heap.size wr X := h.2.2.2.2.2.2.2.2.2.2.2.2
theorem Two5.drew {wr : World} {ga gb o : Nat} {p0 p1 p2 p3 p4 q0 q1 q2 q3 q4 : Value} {X : World} (h : Two5 wr ga gb o p0 p1 p2 p3 p4 q0 q1 q2 q3 q4 X) : Two5 wr ga gb o p0 p1 p2 p3 p4 q0 q1 q2 q3 q4 X.drew := by
  obtain ⟨h0, h1, h2, h3, h4, h5, h6, h7, h8, h9, k1, k2, k3⟩ := h
  exact ⟨h0, h1, h2, h3, h4, h5, h6, h7, h8, h9, k1, k2, k3.drew⟩
theorem Two5.below {wr : World} {ga gb o : Nat} {p0 p1 p2 p3 p4 q0 q1 q2 q3 q4 : Value} {X Y : World} (h : Two5 wr ga gb o p0 p1 p2 p3 p4 q0 q1 q2 q3 q4 X) (hb : Below X.heap.size X Y) : Two5 wr ga gb o p0 p1 p2 p3 p4 q0 q1 q2 q3 q4 Y := by
  obtain ⟨h0, h1, h2, h3, h4, h5, h6, h7, h8, h9, k1, k2, k3⟩ := h
  have ha : ga < X.heap.size := Nat.lt_of_lt_of_le k1 k3.size
  have hc : gb < X.heap.size := Nat.lt_of_lt_of_le k2 k3.size
  refine ⟨?_, ?_, ?_, ?_, ?_, ?_, ?_, ?_, ?_, ?_, k1, k2, k3.trans (hb.mono k3.size)⟩ <;> rw [hb.cell (by assumption)] <;> assumption

set_option maxRecDepth 100000 in
set_option maxHeartbeats 1600000 in
theorem yes_SameTermTexts {Z Z' : Nat → Prop} (l : List TermM) (va vb : Value) (w : World) (ha : Rows Z 109 4 (cTerm Z) w l va) (hb : Rows Z' 109 4 (cTerm Z') w l vb) (hl : l.length ≤ 1000000000) (hi : ∀ a, a ∈ l → a.args.length ≤ 1000000000) :
    Calls Tryz.prog 182 #[va, vb] w fun e w' => e = .returned (.bool true) ∧ Below w.heap.size w w' := by
  have HA := hide ha
  have HB := hide hb
  obtain ⟨aa, ca, rfl⟩ := rows_form ha
  obtain ⟨ab, cb, rfl⟩ := rows_form hb
  clear ha hb
  go_enter Tryz.func182, Tryz.ntmps182
  go_wp2_with fail
  go_loopw [5] (fun x wr => ∃ k : Nat, k ≤ l.length ∧ x = .int .i64 k ∧ Below w.heap.size w wr) (fun x _ => l.length - (intOf x).toNat)
  case atStart => exact ⟨0, by omega, rfl, by first | exact Below.refl _ w | exact below_drewN w _⟩
  case round =>
    obtain ⟨k, hk, rfl, hbw⟩ := hrel
    by_cases hlt : k < l.length
    · obtain ⟨t, ht⟩ : ∃ t, l[k]? = some t := ⟨l[k], by simp [hlt]⟩
      obtain ⟨ga, xa, ya, e1, _, ⟨av0, rfl, hsa⟩, h2⟩ := (HA.out.keep (T := [9, 109]) (Kp.of_below hbw) (by decide) (fun _ _ h => h.keep (T := [9, 109]) (Kp.of_below hbw) (by decide))).at ht
      obtain ⟨gb, xb, yb, e2, _, ⟨bv0, rfl, hsb⟩, h4⟩ := (HB.out.keep (T := [9, 109]) (Kp.of_below hbw) (by decide) (fun _ _ h => h.keep (T := [9, 109]) (Kp.of_below hbw) (by decide))).at ht
      simp only [Value.slice.injEq] at e1 e2
      obtain ⟨rfl, _, rfl⟩ := e1
      obtain ⟨rfl, _, rfl⟩ := e2
      have hit := hi t (List.mem_of_getElem? ht)
      have C := hide (fun w1 (hb' : Below wr.heap.size wr w1) => yes_SameTermText t av0 bv0 w1 (hsa.keep (T := [9]) (Kp.of_below hb') (by decide)) (hsb.keep (T := [9]) (Kp.of_below hb') (by decide)) hit)
      have HT : Two4 wr ga gb (k * 4) (.int .i64 t.coef) (.string ⟨t.pred.toArray⟩) (av0) (.int .i64 t.value) (.int .i64 t.coef) (.string ⟨t.pred.toArray⟩) (bv0) (.int .i64 t.value) wr := ⟨h2 0 _ rfl, h2 1 _ rfl, h2 2 _ rfl, h2 3 _ rfl, h4 0 _ rfl, h4 1 _ rfl, h4 2 _ rfl, h4 3 _ rfl, cell_lt (h2 0 _ rfl), cell_lt (h4 0 _ rfl), Below.refl _ _⟩
      clear h2 h4 ht hit hsa hsb
      go_wp2_with fail
      go_region_held3 (fun X : World => Two4 wr ga gb (k * 4) (.int .i64 t.coef) (.string ⟨t.pred.toArray⟩) (av0) (.int .i64 t.value) (.int .i64 t.coef) (.string ⟨t.pred.toArray⟩) (bv0) (.int .i64 t.value) X) (first | exact Two4.drew ‹_› | assumption | exact Two4.below ‹_› ‹_›) (first | (go_at_call 200; refine (C.out _ (Two4.b ‹_›)).mono ?_; rintro e w' ⟨rfl, hb⟩))
      rename_i hS
      go_wp2_with fail
      go_roundw
      case rel => exact ⟨k + 1, by omega, by go_num, hbw.trans ((Two4.b hS).mono hbw.size)⟩
      case measure => simp [intOf]; omega
    · go_wp2_with fail
      go_ret
      exact ⟨rfl, hbw⟩

set_option maxRecDepth 100000 in
set_option maxHeartbeats 1600000 in
theorem yes_SamePreds {Z Z' : Nat → Prop} (l : List PredM) (va vb : Value) (w : World) (ha : Rows Z 92 4 (cPred Z) w l va) (hb : Rows Z' 92 4 (cPred Z') w l vb) (hl : l.length ≤ 1000000000) (hi : ∀ a, a ∈ l → a.kinds.length ≤ 1000000000 ∧ a.values.length ≤ 1000000000) :
    Calls Tryz.prog 30 #[va, vb] w fun e w' => e = .returned (.bool true) ∧ Below w.heap.size w w' := by
  have HA := hide ha
  have HB := hide hb
  obtain ⟨aa, ca, rfl⟩ := rows_form ha
  obtain ⟨ab, cb, rfl⟩ := rows_form hb
  clear ha hb
  go_enter Tryz.func30, Tryz.ntmps30
  go_wp2_with fail
  go_loopw [5] (fun x wr => ∃ k : Nat, k ≤ l.length ∧ x = .int .i64 k ∧ Below w.heap.size w wr) (fun x _ => l.length - (intOf x).toNat)
  case atStart => exact ⟨0, by omega, rfl, by first | exact Below.refl _ w | exact below_drewN w _⟩
  case round =>
    obtain ⟨k, hk, rfl, hbw⟩ := hrel
    by_cases hlt : k < l.length
    · obtain ⟨t, ht⟩ : ∃ t, l[k]? = some t := ⟨l[k], by simp [hlt]⟩
      obtain ⟨ga, xa, ya, e1, _, ⟨av0, av1, rfl, hsa, hma⟩, h2⟩ := (HA.out.keep (T := [9, 92]) (Kp.of_below hbw) (by decide) (fun _ _ h => h.keep (Kp.of_below hbw))).at ht
      obtain ⟨gb, xb, yb, e2, _, ⟨bv0, bv1, rfl, hsb, hmb⟩, h4⟩ := (HB.out.keep (T := [9, 92]) (Kp.of_below hbw) (by decide) (fun _ _ h => h.keep (Kp.of_below hbw))).at ht
      simp only [Value.slice.injEq] at e1 e2
      obtain ⟨rfl, _, rfl⟩ := e1
      obtain ⟨rfl, _, rfl⟩ := e2
      have hit := hi t (List.mem_of_getElem? ht)
      have C := hide (fun w1 (hb' : Below wr.heap.size wr w1) => yes_SamePred t av0 bv0 av1 bv1 w1 (hsa.keep (T := [9]) (Kp.of_below hb') (by decide)) (hsb.keep (T := [9]) (Kp.of_below hb') (by decide)) (hma.keep (T := [93]) (Kp.of_below hb') (by decide)) (hmb.keep (T := [93]) (Kp.of_below hb') (by decide)) hit.1 hit.2)
      have HT : Two4 wr ga gb (k * 4) (.string ⟨t.name.toArray⟩) (.int .i64 t.sort) (av0) (av1) (.string ⟨t.name.toArray⟩) (.int .i64 t.sort) (bv0) (bv1) wr := ⟨h2 0 _ rfl, h2 1 _ rfl, h2 2 _ rfl, h2 3 _ rfl, h4 0 _ rfl, h4 1 _ rfl, h4 2 _ rfl, h4 3 _ rfl, cell_lt (h2 0 _ rfl), cell_lt (h4 0 _ rfl), Below.refl _ _⟩
      clear h2 h4 ht hit hsa hsb hma hmb
      go_wp2_with fail
      go_region_held3 (fun X : World => Two4 wr ga gb (k * 4) (.string ⟨t.name.toArray⟩) (.int .i64 t.sort) (av0) (av1) (.string ⟨t.name.toArray⟩) (.int .i64 t.sort) (bv0) (bv1) X) (first | exact Two4.drew ‹_› | assumption | exact Two4.below ‹_› ‹_›) (first | (go_at_call 58; refine (C.out _ (Two4.b ‹_›)).mono ?_; rintro e w' ⟨rfl, hb⟩))
      rename_i hS
      go_wp2_with fail
      go_roundw
      case rel => exact ⟨k + 1, by omega, by go_num, hbw.trans ((Two4.b hS).mono hbw.size)⟩
      case measure => simp [intOf]; omega
    · go_wp2_with fail
      go_ret
      exact ⟨rfl, hbw⟩

set_option maxRecDepth 100000 in
set_option maxHeartbeats 1600000 in
theorem yes_SameTotals {Z Z' : Nat → Prop} (l : List TotalM) (va vb : Value) (w : World) (ha : Rows Z 111 5 (cTotal Z) w l va) (hb : Rows Z' 111 5 (cTotal Z') w l vb) (hl : l.length ≤ 1000000000) (hi : ∀ a, a ∈ l → a.preds.length ≤ 1000000000) :
    Calls Tryz.prog 35 #[va, vb] w fun e w' => e = .returned (.bool true) ∧ Below w.heap.size w w' := by
  have HA := hide ha
  have HB := hide hb
  obtain ⟨aa, ca, rfl⟩ := rows_form ha
  obtain ⟨ab, cb, rfl⟩ := rows_form hb
  clear ha hb
  go_enter Tryz.func35, Tryz.ntmps35
  go_wp2_with fail
  go_loopw [5] (fun x wr => ∃ k : Nat, k ≤ l.length ∧ x = .int .i64 k ∧ Below w.heap.size w wr) (fun x _ => l.length - (intOf x).toNat)
  case atStart => exact ⟨0, by omega, rfl, by first | exact Below.refl _ w | exact below_drewN w _⟩
  case round =>
    obtain ⟨k, hk, rfl, hbw⟩ := hrel
    by_cases hlt : k < l.length
    · obtain ⟨t, ht⟩ : ∃ t, l[k]? = some t := ⟨l[k], by simp [hlt]⟩
      obtain ⟨ga, xa, ya, e1, _, ⟨av0, rfl, hsa⟩, h2⟩ := (HA.out.keep (T := [9, 111]) (Kp.of_below hbw) (by decide) (fun _ _ h => h.keep (Kp.of_below hbw))).at ht
      obtain ⟨gb, xb, yb, e2, _, ⟨bv0, rfl, hsb⟩, h4⟩ := (HB.out.keep (T := [9, 111]) (Kp.of_below hbw) (by decide) (fun _ _ h => h.keep (Kp.of_below hbw))).at ht
      simp only [Value.slice.injEq] at e1 e2
      obtain ⟨rfl, _, rfl⟩ := e1
      obtain ⟨rfl, _, rfl⟩ := e2
      have hit := hi t (List.mem_of_getElem? ht)
      have C := hide (fun w1 (hb' : Below wr.heap.size wr w1) => yes_SameTotal t av0 bv0 w1 (hsa.keep (T := [9]) (Kp.of_below hb') (by decide)) (hsb.keep (T := [9]) (Kp.of_below hb') (by decide)) hit)
      have HT : Two5 wr ga gb (k * 5) (.string ⟨t.name.toArray⟩) (.string ⟨t.kind.toArray⟩) (av0) (.bool t.hasCap) (.int .i64 t.cap) (.string ⟨t.name.toArray⟩) (.string ⟨t.kind.toArray⟩) (bv0) (.bool t.hasCap) (.int .i64 t.cap) wr := ⟨h2 0 _ rfl, h2 1 _ rfl, h2 2 _ rfl, h2 3 _ rfl, h2 4 _ rfl, h4 0 _ rfl, h4 1 _ rfl, h4 2 _ rfl, h4 3 _ rfl, h4 4 _ rfl, cell_lt (h2 0 _ rfl), cell_lt (h4 0 _ rfl), Below.refl _ _⟩
      clear h2 h4 ht hit hsa hsb
      go_wp2_with fail
      go_region_held3 (fun X : World => Two5 wr ga gb (k * 5) (.string ⟨t.name.toArray⟩) (.string ⟨t.kind.toArray⟩) (av0) (.bool t.hasCap) (.int .i64 t.cap) (.string ⟨t.name.toArray⟩) (.string ⟨t.kind.toArray⟩) (bv0) (.bool t.hasCap) (.int .i64 t.cap) X) (first | exact Two5.drew ‹_› | assumption | exact Two5.below ‹_› ‹_›) (first | (go_at_call 60; refine (C.out _ (Two5.b ‹_›)).mono ?_; rintro e w' ⟨rfl, hb⟩))
      rename_i hS
      go_wp2_with fail
      go_roundw
      case rel => exact ⟨k + 1, by omega, by go_num, hbw.trans ((Two5.b hS).mono hbw.size)⟩
      case measure => simp [intOf]; omega
    · go_wp2_with fail
      go_ret
      exact ⟨rfl, hbw⟩

end Go.Proofs.YthnjmfkiohgkkaaGreatDoor.Sy

namespace Go.Proofs.YthnjmfkiohgkkaaGreatDoor.Sy
open Go.RowKit

theorem yes_strings {Z Z' : Nat → Prop} (l : List Bytes) (va vb : Value) (w : World) (ha : Strs Z w l va) (hb : Strs Z' w l vb) (hl : l.length ≤ 1000000000) :
    Calls Tryz.prog 28 #[va, vb] w fun e w' => e = .returned (.bool true) ∧ Below w.heap.size w w' := by
  refine (yes_SameStrings l va vb w ha hb hl).mono ?_
  rintro _ w1 ⟨rfl, q, rfl⟩
  exact ⟨rfl, below_drewN w q⟩

theorem heap_new (w : World) (o : Obj) : (w.alloc o).heap[w.heap.size]? = some o := by
  show (w.heap.push o)[w.heap.size]? = some o
  exact Array.getElem?_push_size
theorem box_a {w w1 : World} {xs ys : Array Value} {t t' : TypeId} (hb : Below ((w.alloc (.cells xs t)).alloc (.cells ys t')).heap.size ((w.alloc (.cells xs t)).alloc (.cells ys t')) w1) (j : Nat) (v : Value) (h : xs[j]? = some v) :
    w1.cell? ⟨w.heap.size, j, none⟩ = some v := by
  rw [hb.cell (by simp; omega)]
  have e : ((w.alloc (.cells xs t)).alloc (.cells ys t')).heap[w.heap.size]? = some (.cells xs t) := by rw [Below.heap_alloc _ _ _ (by simp)]; exact heap_new w _
  show (match ((w.alloc (.cells xs t)).alloc (.cells ys t')).heap[w.heap.size]? with | some (.cells c _ _) => c[j]? | _ => none) = some v
  rw [e]
  exact h
theorem box_b {w w1 : World} {xs ys : Array Value} {t t' : TypeId} (hb : Below ((w.alloc (.cells xs t)).alloc (.cells ys t')).heap.size ((w.alloc (.cells xs t)).alloc (.cells ys t')) w1) (j : Nat) (v : Value) (h : ys[j]? = some v) :
    w1.cell? ⟨w.heap.size + 1, j, none⟩ = some v := by
  rw [hb.cell (by simp)]
  have e : ((w.alloc (.cells xs t)).alloc (.cells ys t')).heap[w.heap.size + 1]? = some (.cells ys t') := by
    have := heap_new (w.alloc (.cells xs t)) (.cells ys t')
    rw [show (w.alloc (.cells xs t)).heap.size = w.heap.size + 1 by simp] at this
    exact this
  show (match ((w.alloc (.cells xs t)).alloc (.cells ys t')).heap[w.heap.size + 1]? with | some (.cells c _ _) => c[j]? | _ => none) = some v
  rw [e]
  exact h
theorem box_below {w w1 : World} {o p : Obj} (hb : Below ((w.alloc o).alloc p).heap.size ((w.alloc o).alloc p) w1) : Below w.heap.size w w1 := (below_two w o p).trans (hb.mono (by simp; omega))

abbrev Two1 (wr : World) (ga gb o : Nat) (p0 q0 : Value) (X : World) : Prop :=
  X.cell? ⟨ga, o, none⟩ = some p0 ∧ X.cell? ⟨gb, o, none⟩ = some q0 ∧ ga < wr.heap.size ∧ gb < wr.heap.size ∧ Below wr.heap.size wr X
theorem Two1.b {wr : World} {ga gb o : Nat} {p0 q0 : Value} {X : World} (h : Two1 wr ga gb o p0 q0 X) : Below wr.heap.size wr X := h.2.2.2.2
theorem Two1.drew {wr : World} {ga gb o : Nat} {p0 q0 : Value} {X : World} (h : Two1 wr ga gb o p0 q0 X) : Two1 wr ga gb o p0 q0 X.drew := by
  obtain ⟨h0, h1, k1, k2, k3⟩ := h
  exact ⟨h0, h1, k1, k2, k3.drew⟩
theorem Two1.below {wr : World} {ga gb o : Nat} {p0 q0 : Value} {X Y : World} (h : Two1 wr ga gb o p0 q0 X) (hb : Below X.heap.size X Y) : Two1 wr ga gb o p0 q0 Y := by
  obtain ⟨h0, h1, k1, k2, k3⟩ := h
  have ha : ga < X.heap.size := Nat.lt_of_lt_of_le k1 k3.size
  have hc : gb < X.heap.size := Nat.lt_of_lt_of_le k2 k3.size
  refine ⟨?_, ?_, k1, k2, k3.trans (hb.mono k3.size)⟩ <;> rw [hb.cell (by assumption)] <;> assumption

set_option maxRecDepth 100000 in
set_option maxHeartbeats 1600000 in
theorem yes_SameStringLists {Z Z' : Nat → Prop} (l : List (List Bytes)) (va vb : Value) (w : World) (ha : Rows Z 22 1 (cClass Z) w l va) (hb : Rows Z' 22 1 (cClass Z') w l vb) (hl : l.length ≤ 1000000000) (hi : ∀ a, a ∈ l → a.length ≤ 1000000000) :
    Calls Tryz.prog 31 #[va, vb] w fun e w' => e = .returned (.bool true) ∧ Below w.heap.size w w' := by
  have HA := hide ha
  have HB := hide hb
  obtain ⟨aa, ca, rfl⟩ := rows_form ha
  obtain ⟨ab, cb, rfl⟩ := rows_form hb
  clear ha hb
  go_enter Tryz.func31, Tryz.ntmps31
  go_wp2_with fail
  go_loopw [5] (fun x wr => ∃ k : Nat, k ≤ l.length ∧ x = .int .i64 k ∧ Below w.heap.size w wr) (fun x _ => l.length - (intOf x).toNat)
  case atStart => exact ⟨0, by omega, rfl, by first | exact Below.refl _ w | exact below_drewN w _⟩
  case round =>
    obtain ⟨k, hk, rfl, hbw⟩ := hrel
    by_cases hlt : k < l.length
    · obtain ⟨t, ht⟩ : ∃ t, l[k]? = some t := ⟨l[k], by simp [hlt]⟩
      obtain ⟨ga, xa, ya, e1, _, ⟨av0, rfl, hsa⟩, h2⟩ := (HA.out.keep (T := [9, 22]) (Kp.of_below hbw) (by decide) (fun _ _ h => h.keep (Kp.of_below hbw))).at ht
      obtain ⟨gb, xb, yb, e2, _, ⟨bv0, rfl, hsb⟩, h4⟩ := (HB.out.keep (T := [9, 22]) (Kp.of_below hbw) (by decide) (fun _ _ h => h.keep (Kp.of_below hbw))).at ht
      simp only [Value.slice.injEq] at e1 e2
      obtain ⟨rfl, _, rfl⟩ := e1
      obtain ⟨rfl, _, rfl⟩ := e2
      have hit := hi t (List.mem_of_getElem? ht)
      have C := hide (fun w1 (hb' : Below wr.heap.size wr w1) => yes_strings t av0 bv0 w1 (hsa.keep (T := [9]) (Kp.of_below hb') (by decide)) (hsb.keep (T := [9]) (Kp.of_below hb') (by decide)) hit)
      have HT : Two1 wr ga gb k (av0) (bv0) wr := ⟨(by have := h2 0 _ rfl; simpa using this), (by have := h4 0 _ rfl; simpa using this), cell_lt ((by have := h2 0 _ rfl; simpa using this)), cell_lt ((by have := h4 0 _ rfl; simpa using this)), Below.refl _ _⟩
      clear h2 h4 ht hit hsa hsb
      go_wp2_with fail
      go_region_held3 (fun X : World => Two1 wr ga gb k (av0) (bv0) X) (first | exact Two1.drew ‹_› | assumption | exact Two1.below ‹_› ‹_›) (first | (go_at_call 28; refine (C.out _ (Two1.b ‹_›)).mono ?_; rintro e w' ⟨rfl, hb⟩))
      rename_i hS
      go_wp2_with fail
      go_roundw
      case rel => exact ⟨k + 1, by omega, by go_num, hbw.trans ((Two1.b hS).mono hbw.size)⟩
      case measure => simp [intOf]; omega
    · go_wp2_with fail
      go_ret
      exact ⟨rfl, hbw⟩

set_option maxRecDepth 100000 in
set_option maxHeartbeats 1600000 in
theorem yes_SameGuardText {Z Z' : Nat → Prop} (a : GuardM) (x0 y0 x1 y1 : Value) (w : World) (hax : Terms Z w a.left x0) (hay : Terms Z' w a.left y0) (hbx : Terms Z w a.right x1) (hby : Terms Z' w a.right y1)
    (hl : a.left.length ≤ 1000000000) (hi : ∀ t, t ∈ a.left → t.args.length ≤ 1000000000) (hr : a.right.length ≤ 1000000000) (hj : ∀ t, t ∈ a.right → t.args.length ≤ 1000000000) :
    Calls Tryz.prog 164 #[.agg #[x0, .int .i64 a.op, x1], .agg #[y0, .int .i64 a.op, y1]] w fun e w' => e = .returned (.bool true) ∧ Below w.heap.size w w' := by
  have C0 := hide (fun w1 (hb' : Below w.heap.size w w1) => yes_SameTermTexts a.left x0 y0 w1 (hax.keep (T := [9, 109]) (Kp.of_below hb') (by decide) (by decide)) (hay.keep (T := [9, 109]) (Kp.of_below hb') (by decide) (by decide)) hl hi)
  have C1 := hide (fun w1 (hb' : Below w.heap.size w w1) => yes_SameTermTexts a.right x1 y1 w1 (hbx.keep (T := [9, 109]) (Kp.of_below hb') (by decide) (by decide)) (hby.keep (T := [9, 109]) (Kp.of_below hb') (by decide) (by decide)) hr hj)
  obtain ⟨ax0, cx0, rfl⟩ := rows_form hax
  obtain ⟨ay0, cy0, rfl⟩ := rows_form hay
  obtain ⟨ax1, cx1, rfl⟩ := rows_form hbx
  obtain ⟨ay1, cy1, rfl⟩ := rows_form hby
  clear hax hay hbx hby hl hi hr hj
  go_enter Tryz.func164, Tryz.ntmps164
  go_wp2_with fail
  go_at_call 182
  refine (C0.out _ (below_two w _ _)).mono ?_
  rintro _ w1 ⟨rfl, HB⟩
  have f0 := box_a HB 1 _ rfl
  have f1 := box_a HB 2 _ rfl
  have g0 := box_b HB 1 _ rfl
  have g1 := box_b HB 2 _ rfl
  have B := hide (box_below HB)
  clear HB

  go_wp2_with (go_at_call 182; refine (C1.out _ B.out).mono ?_; rintro _ w2 ⟨rfl, hb⟩)
  go_ret
  exact ⟨rfl, B.out.trans (hb.mono B.out.size)⟩
end Go.Proofs.YthnjmfkiohgkkaaGreatDoor.Sy

namespace Go.Proofs.YthnjmfkiohgkkaaGreatDoor.Sy
open Go.RowKit

set_option maxRecDepth 100000 in
set_option maxHeartbeats 1600000 in
theorem yes_SamePremise {Z Z' : Nat → Prop} (a : PremM) (x0 y0 x1 y1 x2 y2 : Value) (w : World) (hx0 : Strs Z w a.lit.args x0) (hy0 : Strs Z' w a.lit.args y0) (hx1 : Terms Z w a.guard.left x1) (hy1 : Terms Z' w a.guard.left y1) (hx2 : Terms Z w a.guard.right x2) (hy2 : Terms Z' w a.guard.right y2)
    (hs : a.lit.args.length ≤ 1000000000) (hl : a.guard.left.length ≤ 1000000000) (hi : ∀ t, t ∈ a.guard.left → t.args.length ≤ 1000000000) (hr : a.guard.right.length ≤ 1000000000) (hj : ∀ t, t ∈ a.guard.right → t.args.length ≤ 1000000000) :
    Calls Tryz.prog 143 #[.agg #[.int .i64 a.kind, .bool a.lit.neg, .string ⟨a.lit.pred.toArray⟩, x0, .bool a.lit.hasValue, .int .i64 a.lit.value, x1, .int .i64 a.guard.op, x2, .string ⟨a.a.toArray⟩, .string ⟨a.b.toArray⟩],
      .agg #[.int .i64 a.kind, .bool a.lit.neg, .string ⟨a.lit.pred.toArray⟩, y0, .bool a.lit.hasValue, .int .i64 a.lit.value, y1, .int .i64 a.guard.op, y2, .string ⟨a.a.toArray⟩, .string ⟨a.b.toArray⟩]] w fun e w' => e = .returned (.bool true) ∧ Below w.heap.size w w' := by
  have C0 := hide (fun w1 (hb' : Below w.heap.size w w1) => yes_SameLitText a.lit x0 y0 w1 (hx0.keep (T := [9]) (Kp.of_below hb') (by decide)) (hy0.keep (T := [9]) (Kp.of_below hb') (by decide)) hs)
  have C1 := hide (fun w1 (hb' : Below w.heap.size w w1) => yes_SameGuardText a.guard x1 y1 x2 y2 w1 (hx1.keep (T := [9, 109]) (Kp.of_below hb') (by decide) (by decide)) (hy1.keep (T := [9, 109]) (Kp.of_below hb') (by decide) (by decide)) (hx2.keep (T := [9, 109]) (Kp.of_below hb') (by decide) (by decide)) (hy2.keep (T := [9, 109]) (Kp.of_below hb') (by decide) (by decide)) hl hi hr hj)
  obtain ⟨ax0, cx0, rfl⟩ := rows_form hx0
  obtain ⟨ay0, cy0, rfl⟩ := rows_form hy0
  obtain ⟨ax1, cx1, rfl⟩ := rows_form hx1
  obtain ⟨ay1, cy1, rfl⟩ := rows_form hy1
  obtain ⟨ax2, cx2, rfl⟩ := rows_form hx2
  obtain ⟨ay2, cy2, rfl⟩ := rows_form hy2
  clear hx0 hy0 hx1 hy1 hx2 hy2 hs hl hi hr hj
  go_enter Tryz.func143, Tryz.ntmps143
  go_wp2_with fail
  go_at_call 99
  refine (C0.out _ (below_two w _ _)).mono ?_
  rintro _ w1 ⟨rfl, HB⟩
  have f6 := box_a HB 6 _ rfl
  have f7 := box_a HB 7 _ rfl
  have f8 := box_a HB 8 _ rfl
  have f9 := box_a HB 9 _ rfl
  have f10 := box_a HB 10 _ rfl
  have g6 := box_b HB 6 _ rfl
  have g7 := box_b HB 7 _ rfl
  have g8 := box_b HB 8 _ rfl
  have g9 := box_b HB 9 _ rfl
  have g10 := box_b HB 10 _ rfl
  have B := hide (box_below HB)
  have h0 : w.heap.size < w1.heap.size := Nat.lt_of_lt_of_le (by simp; omega) HB.size
  have h1 : w.heap.size + 1 < w1.heap.size := Nat.lt_of_lt_of_le (by simp) HB.size
  clear HB
  go_wp2_with fail
  go_at_call 164
  refine (C1.out _ B.out).mono ?_
  rintro _ w2 ⟨rfl, hb⟩
  rw [← hb.cell h0] at f9 f10
  rw [← hb.cell h1] at g9 g10
  have B2 := hide (B.out.trans (hb.mono B.out.size))
  clear hb f6 f7 f8 g6 g7 g8 h0 h1
  go_wp2_with fail
  go_ret
  exact ⟨rfl, B2.out⟩
end Go.Proofs.YthnjmfkiohgkkaaGreatDoor.Sy

namespace Go.Proofs.YthnjmfkiohgkkaaGreatDoor.Sy
open Go.RowKit

/-- The lists within are no longer than the machine's. -/
def SmallPrem (a : PremM) : Prop := a.lit.args.length ≤ 1000000000 ∧ a.guard.left.length ≤ 1000000000 ∧ (∀ t, t ∈ a.guard.left → t.args.length ≤ 1000000000) ∧ a.guard.right.length ≤ 1000000000 ∧ ∀ t, t ∈ a.guard.right → t.args.length ≤ 1000000000
def SmallRule (a : RuleM) : Prop := a.body.length ≤ 1000000000 ∧ (∀ p, p ∈ a.body → SmallPrem p) ∧ a.head.args.length ≤ 1000000000

abbrev Two11 (wr : World) (ga gb o : Nat) (p0 p1 p2 p3 p4 p5 p6 p7 p8 p9 p10 q0 q1 q2 q3 q4 q5 q6 q7 q8 q9 q10 : Value) (X : World) : Prop :=
  X.cell? ⟨ga, o, none⟩ = some p0 ∧ X.cell? ⟨ga, o + 1, none⟩ = some p1 ∧ X.cell? ⟨ga, o + 2, none⟩ = some p2 ∧ X.cell? ⟨ga, o + 3, none⟩ = some p3 ∧ X.cell? ⟨ga, o + 4, none⟩ = some p4 ∧ X.cell? ⟨ga, o + 5, none⟩ = some p5 ∧ X.cell? ⟨ga, o + 6, none⟩ = some p6 ∧ X.cell? ⟨ga, o + 7, none⟩ = some p7 ∧ X.cell? ⟨ga, o + 8, none⟩ = some p8 ∧ X.cell? ⟨ga, o + 9, none⟩ = some p9 ∧ X.cell? ⟨ga, o + 10, none⟩ = some p10 ∧ X.cell? ⟨gb, o, none⟩ = some q0 ∧ X.cell? ⟨gb, o + 1, none⟩ = some q1 ∧ X.cell? ⟨gb, o + 2, none⟩ = some q2 ∧ X.cell? ⟨gb, o + 3, none⟩ = some q3 ∧ X.cell? ⟨gb, o + 4, none⟩ = some q4 ∧ X.cell? ⟨gb, o + 5, none⟩ = some q5 ∧ X.cell? ⟨gb, o + 6, none⟩ = some q6 ∧ X.cell? ⟨gb, o + 7, none⟩ = some q7 ∧ X.cell? ⟨gb, o + 8, none⟩ = some q8 ∧ X.cell? ⟨gb, o + 9, none⟩ = some q9 ∧ X.cell? ⟨gb, o + 10, none⟩ = some q10 ∧ ga < wr.heap.size ∧ gb < wr.heap.size ∧ Below wr.heap.size wr X
theorem Two11.b {wr : World} {ga gb o : Nat} {p0 p1 p2 p3 p4 p5 p6 p7 p8 p9 p10 q0 q1 q2 q3 q4 q5 q6 q7 q8 q9 q10 : Value} {X : World} (h : Two11 wr ga gb o p0 p1 p2 p3 p4 p5 p6 p7 p8 p9 p10 q0 q1 q2 q3 q4 q5 q6 q7 q8 q9 q10 X) : Below wr.heap.size wr X := h.2.2.2.2.2.2.2.2.2.2.2.2.2.2.2.2.2.2.2.2.2.2.2.2
theorem Two11.drew {wr : World} {ga gb o : Nat} {p0 p1 p2 p3 p4 p5 p6 p7 p8 p9 p10 q0 q1 q2 q3 q4 q5 q6 q7 q8 q9 q10 : Value} {X : World} (h : Two11 wr ga gb o p0 p1 p2 p3 p4 p5 p6 p7 p8 p9 p10 q0 q1 q2 q3 q4 q5 q6 q7 q8 q9 q10 X) : Two11 wr ga gb o p0 p1 p2 p3 p4 p5 p6 p7 p8 p9 p10 q0 q1 q2 q3 q4 q5 q6 q7 q8 q9 q10 X.drew := by
  obtain ⟨h0, h1, h2, h3, h4, h5, h6, h7, h8, h9, h10, h11, h12, h13, h14, h15, h16, h17, h18, h19, h20, h21, k1, k2, k3⟩ := h
  exact ⟨h0, h1, h2, h3, h4, h5, h6, h7, h8, h9, h10, h11, h12, h13, h14, h15, h16, h17, h18, h19, h20, h21, k1, k2, k3.drew⟩
theorem Two11.below {wr : World} {ga gb o : Nat} {p0 p1 p2 p3 p4 p5 p6 p7 p8 p9 p10 q0 q1 q2 q3 q4 q5 q6 q7 q8 q9 q10 : Value} {X Y : World} (h : Two11 wr ga gb o p0 p1 p2 p3 p4 p5 p6 p7 p8 p9 p10 q0 q1 q2 q3 q4 q5 q6 q7 q8 q9 q10 X) (hb : Below X.heap.size X Y) : Two11 wr ga gb o p0 p1 p2 p3 p4 p5 p6 p7 p8 p9 p10 q0 q1 q2 q3 q4 q5 q6 q7 q8 q9 q10 Y := by
  obtain ⟨h0, h1, h2, h3, h4, h5, h6, h7, h8, h9, h10, h11, h12, h13, h14, h15, h16, h17, h18, h19, h20, h21, k1, k2, k3⟩ := h
  have ha : ga < X.heap.size := Nat.lt_of_lt_of_le k1 k3.size
  have hc : gb < X.heap.size := Nat.lt_of_lt_of_le k2 k3.size
  refine ⟨?_, ?_, ?_, ?_, ?_, ?_, ?_, ?_, ?_, ?_, ?_, ?_, ?_, ?_, ?_, ?_, ?_, ?_, ?_, ?_, ?_, ?_, k1, k2, k3.trans (hb.mono k3.size)⟩ <;> rw [hb.cell (by assumption)] <;> assumption

set_option maxRecDepth 100000 in
set_option maxHeartbeats 1600000 in
theorem yes_SamePremises {Z Z' : Nat → Prop} (l : List PremM) (va vb : Value) (w : World) (ha : Rows Z 107 11 (cPrem Z) w l va) (hb : Rows Z' 107 11 (cPrem Z') w l vb) (hl : l.length ≤ 1000000000) (hi : ∀ a, a ∈ l → SmallPrem a) :
    Calls Tryz.prog 98 #[va, vb] w fun e w' => e = .returned (.bool true) ∧ Below w.heap.size w w' := by
  have HA := hide ha
  have HB := hide hb
  obtain ⟨aa, ca, rfl⟩ := rows_form ha
  obtain ⟨ab, cb, rfl⟩ := rows_form hb
  clear ha hb
  go_enter Tryz.func98, Tryz.ntmps98
  go_wp2_with fail
  go_loopw [5] (fun x wr => ∃ k : Nat, k ≤ l.length ∧ x = .int .i64 k ∧ Below w.heap.size w wr) (fun x _ => l.length - (intOf x).toNat)
  case atStart => exact ⟨0, by omega, rfl, by first | exact Below.refl _ w | exact below_drewN w _⟩
  case round =>
    obtain ⟨k, hk, rfl, hbw⟩ := hrel
    by_cases hlt : k < l.length
    · obtain ⟨t, ht⟩ : ∃ t, l[k]? = some t := ⟨l[k], by simp [hlt]⟩
      obtain ⟨ga, xa, ya, e1, _, ⟨av0, av1, av2, rfl, hsa, hta, hua⟩, h2⟩ := (HA.out.keep (T := [9, 109, 107]) (Kp.of_below hbw) (by decide) (fun _ _ h => h.keep (T := [9, 109, 107]) (Kp.of_below hbw) (by decide) (by decide))).at ht
      obtain ⟨gb, xb, yb, e2, _, ⟨bv0, bv1, bv2, rfl, hsb, htb, hub⟩, h4⟩ := (HB.out.keep (T := [9, 109, 107]) (Kp.of_below hbw) (by decide) (fun _ _ h => h.keep (T := [9, 109, 107]) (Kp.of_below hbw) (by decide) (by decide))).at ht
      simp only [Value.slice.injEq] at e1 e2
      obtain ⟨rfl, _, rfl⟩ := e1
      obtain ⟨rfl, _, rfl⟩ := e2
      have hit := hi t (List.mem_of_getElem? ht)
      have C := hide (fun w1 (hb' : Below wr.heap.size wr w1) => yes_SamePremise t av0 bv0 av1 bv1 av2 bv2 w1 (hsa.keep (T := [9]) (Kp.of_below hb') (by decide)) (hsb.keep (T := [9]) (Kp.of_below hb') (by decide)) (hta.keep (T := [9, 109]) (Kp.of_below hb') (by decide) (by decide)) (htb.keep (T := [9, 109]) (Kp.of_below hb') (by decide) (by decide)) (hua.keep (T := [9, 109]) (Kp.of_below hb') (by decide) (by decide)) (hub.keep (T := [9, 109]) (Kp.of_below hb') (by decide) (by decide)) hit.1 hit.2.1 hit.2.2.1 hit.2.2.2.1 hit.2.2.2.2)
      have HT : Two11 wr ga gb (k * 11) (.int .i64 t.kind) (.bool t.lit.neg) (.string ⟨t.lit.pred.toArray⟩) (av0) (.bool t.lit.hasValue) (.int .i64 t.lit.value) (av1) (.int .i64 t.guard.op) (av2) (.string ⟨t.a.toArray⟩) (.string ⟨t.b.toArray⟩) (.int .i64 t.kind) (.bool t.lit.neg) (.string ⟨t.lit.pred.toArray⟩) (bv0) (.bool t.lit.hasValue) (.int .i64 t.lit.value) (bv1) (.int .i64 t.guard.op) (bv2) (.string ⟨t.a.toArray⟩) (.string ⟨t.b.toArray⟩) wr := ⟨h2 0 _ rfl, h2 1 _ rfl, h2 2 _ rfl, h2 3 _ rfl, h2 4 _ rfl, h2 5 _ rfl, h2 6 _ rfl, h2 7 _ rfl, h2 8 _ rfl, h2 9 _ rfl, h2 10 _ rfl, h4 0 _ rfl, h4 1 _ rfl, h4 2 _ rfl, h4 3 _ rfl, h4 4 _ rfl, h4 5 _ rfl, h4 6 _ rfl, h4 7 _ rfl, h4 8 _ rfl, h4 9 _ rfl, h4 10 _ rfl, cell_lt (h2 0 _ rfl), cell_lt (h4 0 _ rfl), Below.refl _ _⟩
      clear h2 h4 ht hit hsa hsb hta htb hua hub
      go_wp2_with fail
      go_region_held3 (fun X : World => Two11 wr ga gb (k * 11) (.int .i64 t.kind) (.bool t.lit.neg) (.string ⟨t.lit.pred.toArray⟩) (av0) (.bool t.lit.hasValue) (.int .i64 t.lit.value) (av1) (.int .i64 t.guard.op) (av2) (.string ⟨t.a.toArray⟩) (.string ⟨t.b.toArray⟩) (.int .i64 t.kind) (.bool t.lit.neg) (.string ⟨t.lit.pred.toArray⟩) (bv0) (.bool t.lit.hasValue) (.int .i64 t.lit.value) (bv1) (.int .i64 t.guard.op) (bv2) (.string ⟨t.a.toArray⟩) (.string ⟨t.b.toArray⟩) X) (first | exact Two11.drew ‹_› | assumption | exact Two11.below ‹_› ‹_›) (first | (go_at_call 143; refine (C.out _ (Two11.b ‹_›)).mono ?_; rintro e w' ⟨rfl, hb⟩))
      rename_i hS
      go_wp2_with fail
      go_roundw
      case rel => exact ⟨k + 1, by omega, by go_num, hbw.trans ((Two11.b hS).mono hbw.size)⟩
      case measure => simp [intOf]; omega
    · go_wp2_with fail
      go_ret
      exact ⟨rfl, hbw⟩

set_option maxRecDepth 100000 in
set_option maxHeartbeats 1600000 in
theorem yes_SameRuleText {Z Z' : Nat → Prop} (a : RuleM) (x0 y0 x1 y1 : Value) (w : World) (hx0 : Prems Z w a.body x0) (hy0 : Prems Z' w a.body y0) (hx1 : Strs Z w a.head.args x1) (hy1 : Strs Z' w a.head.args y1) (hs : SmallRule a) :
    Calls Tryz.prog 59 #[.agg #[.string ⟨a.name.toArray⟩, .string ⟨a.source.toArray⟩, .int .i64 a.day, .int .i64 a.till, x0, .int .i64 a.arrow, .bool a.head.neg, .string ⟨a.head.pred.toArray⟩, x1, .bool a.head.hasValue, .int .i64 a.head.value],
      .agg #[.string ⟨a.name.toArray⟩, .string ⟨a.source.toArray⟩, .int .i64 a.day, .int .i64 a.till, y0, .int .i64 a.arrow, .bool a.head.neg, .string ⟨a.head.pred.toArray⟩, y1, .bool a.head.hasValue, .int .i64 a.head.value]] w fun e w' => e = .returned (.bool true) ∧ Below w.heap.size w w' := by
  have C0 := hide (fun w1 (hb' : Below w.heap.size w w1) => yes_SamePremises a.body x0 y0 w1 (hx0.keep (Kp.of_below hb')) (hy0.keep (Kp.of_below hb')) hs.1 hs.2.1)
  have C1 := hide (fun w1 (hb' : Below w.heap.size w w1) => yes_SameLitText a.head x1 y1 w1 (hx1.keep (T := [9]) (Kp.of_below hb') (by decide)) (hy1.keep (T := [9]) (Kp.of_below hb') (by decide)) hs.2.2)
  obtain ⟨ax0, cx0, rfl⟩ := rows_form hx0
  obtain ⟨ay0, cy0, rfl⟩ := rows_form hy0
  obtain ⟨ax1, cx1, rfl⟩ := rows_form hx1
  obtain ⟨ay1, cy1, rfl⟩ := rows_form hy1
  clear hx0 hy0 hx1 hy1 hs
  go_enter Tryz.func59, Tryz.ntmps59
  go_wp2_with fail
  go_at_call 98
  refine (C0.out _ (below_two w _ _)).mono ?_
  rintro _ w1 ⟨rfl, HB⟩
  have f5 := box_a HB 5 _ rfl
  have g5 := box_b HB 5 _ rfl
  have f6 := box_a HB 6 _ rfl
  have g6 := box_b HB 6 _ rfl
  have f7 := box_a HB 7 _ rfl
  have g7 := box_b HB 7 _ rfl
  have f8 := box_a HB 8 _ rfl
  have g8 := box_b HB 8 _ rfl
  have f9 := box_a HB 9 _ rfl
  have g9 := box_b HB 9 _ rfl
  have f10 := box_a HB 10 _ rfl
  have g10 := box_b HB 10 _ rfl
  have B := hide (box_below HB)
  clear HB
  go_wp2_with fail
  go_at_call 99
  refine (C1.out _ B.out).mono ?_
  rintro _ w2 ⟨rfl, hb⟩
  go_wp2_with fail
  go_ret
  exact ⟨rfl, B.out.trans (hb.mono B.out.size)⟩

set_option maxRecDepth 100000 in
set_option maxHeartbeats 1600000 in
theorem yes_SameRuleTexts {Z Z' : Nat → Prop} (l : List RuleM) (va vb : Value) (w : World) (ha : Rows Z 100 11 (cRule Z) w l va) (hb : Rows Z' 100 11 (cRule Z') w l vb) (hl : l.length ≤ 1000000000) (hi : ∀ a, a ∈ l → SmallRule a) :
    Calls Tryz.prog 33 #[va, vb] w fun e w' => e = .returned (.bool true) ∧ Below w.heap.size w w' := by
  have HA := hide ha
  have HB := hide hb
  obtain ⟨aa, ca, rfl⟩ := rows_form ha
  obtain ⟨ab, cb, rfl⟩ := rows_form hb
  clear ha hb
  go_enter Tryz.func33, Tryz.ntmps33
  go_wp2_with fail
  go_loopw [5] (fun x wr => ∃ k : Nat, k ≤ l.length ∧ x = .int .i64 k ∧ Below w.heap.size w wr) (fun x _ => l.length - (intOf x).toNat)
  case atStart => exact ⟨0, by omega, rfl, by first | exact Below.refl _ w | exact below_drewN w _⟩
  case round =>
    obtain ⟨k, hk, rfl, hbw⟩ := hrel
    by_cases hlt : k < l.length
    · obtain ⟨t, ht⟩ : ∃ t, l[k]? = some t := ⟨l[k], by simp [hlt]⟩
      obtain ⟨ga, xa, ya, e1, _, ⟨av0, av1, rfl, hpa, hsa⟩, h2⟩ := (HA.out.keep (T := [100]) (Kp.of_below hbw) (by decide) (fun _ _ h => h.keep (Kp.of_below hbw))).at ht
      obtain ⟨gb, xb, yb, e2, _, ⟨bv0, bv1, rfl, hpb, hsb⟩, h4⟩ := (HB.out.keep (T := [100]) (Kp.of_below hbw) (by decide) (fun _ _ h => h.keep (Kp.of_below hbw))).at ht
      simp only [Value.slice.injEq] at e1 e2
      obtain ⟨rfl, _, rfl⟩ := e1
      obtain ⟨rfl, _, rfl⟩ := e2
      have hit := hi t (List.mem_of_getElem? ht)
      have C := hide (fun w1 (hb' : Below wr.heap.size wr w1) => yes_SameRuleText t av0 bv0 av1 bv1 w1 (hpa.keep (Kp.of_below hb')) (hpb.keep (Kp.of_below hb')) (hsa.keep (T := [9]) (Kp.of_below hb') (by decide)) (hsb.keep (T := [9]) (Kp.of_below hb') (by decide)) hit)
      have HT : Two11 wr ga gb (k * 11) (.string ⟨t.name.toArray⟩) (.string ⟨t.source.toArray⟩) (.int .i64 t.day) (.int .i64 t.till) (av0) (.int .i64 t.arrow) (.bool t.head.neg) (.string ⟨t.head.pred.toArray⟩) (av1) (.bool t.head.hasValue) (.int .i64 t.head.value) (.string ⟨t.name.toArray⟩) (.string ⟨t.source.toArray⟩) (.int .i64 t.day) (.int .i64 t.till) (bv0) (.int .i64 t.arrow) (.bool t.head.neg) (.string ⟨t.head.pred.toArray⟩) (bv1) (.bool t.head.hasValue) (.int .i64 t.head.value) wr := ⟨h2 0 _ rfl, h2 1 _ rfl, h2 2 _ rfl, h2 3 _ rfl, h2 4 _ rfl, h2 5 _ rfl, h2 6 _ rfl, h2 7 _ rfl, h2 8 _ rfl, h2 9 _ rfl, h2 10 _ rfl, h4 0 _ rfl, h4 1 _ rfl, h4 2 _ rfl, h4 3 _ rfl, h4 4 _ rfl, h4 5 _ rfl, h4 6 _ rfl, h4 7 _ rfl, h4 8 _ rfl, h4 9 _ rfl, h4 10 _ rfl, cell_lt (h2 0 _ rfl), cell_lt (h4 0 _ rfl), Below.refl _ _⟩
      clear h2 h4 ht hit hpa hpb hsa hsb
      go_wp2_with fail
      go_region_held3 (fun X : World => Two11 wr ga gb (k * 11) (.string ⟨t.name.toArray⟩) (.string ⟨t.source.toArray⟩) (.int .i64 t.day) (.int .i64 t.till) (av0) (.int .i64 t.arrow) (.bool t.head.neg) (.string ⟨t.head.pred.toArray⟩) (av1) (.bool t.head.hasValue) (.int .i64 t.head.value) (.string ⟨t.name.toArray⟩) (.string ⟨t.source.toArray⟩) (.int .i64 t.day) (.int .i64 t.till) (bv0) (.int .i64 t.arrow) (.bool t.head.neg) (.string ⟨t.head.pred.toArray⟩) (bv1) (.bool t.head.hasValue) (.int .i64 t.head.value) X) (first | exact Two11.drew ‹_› | assumption | exact Two11.below ‹_› ‹_›) (first | (go_at_call 59; refine (C.out _ (Two11.b ‹_›)).mono ?_; rintro e w' ⟨rfl, hb⟩))
      rename_i hS
      go_wp2_with fail
      go_roundw
      case rel => exact ⟨k + 1, by omega, by go_num, hbw.trans ((Two11.b hS).mono hbw.size)⟩
      case measure => simp [intOf]; omega
    · go_wp2_with fail
      go_ret
      exact ⟨rfl, hbw⟩

end Go.Proofs.YthnjmfkiohgkkaaGreatDoor.Sy

namespace Go.Proofs.YthnjmfkiohgkkaaGreatDoor.Sy
open Go.RowKit

/-- The lists of a statute, and those within, are no longer than the machine's. -/
structure SmallS (S : StatM) : Prop where
  kinds : S.kinds.length ≤ 1000000000
  members : S.members.length ≤ 1000000000
  preds : S.preds.length ≤ 1000000000
  preds' : ∀ a, a ∈ S.preds → a.kinds.length ≤ 1000000000 ∧ a.values.length ≤ 1000000000
  classes : S.classes.length ≤ 1000000000
  classes' : ∀ a, a ∈ S.classes → a.length ≤ 1000000000
  sources : S.sources.length ≤ 1000000000
  rules : S.rules.length ≤ 1000000000
  rules' : ∀ a, a ∈ S.rules → SmallRule a
  excepts : S.excepts.length ≤ 1000000000
  totals : S.totals.length ≤ 1000000000
  totals' : ∀ a, a ∈ S.totals → a.preds.length ≤ 1000000000

end Go.Proofs.YthnjmfkiohgkkaaGreatDoor.Sy
