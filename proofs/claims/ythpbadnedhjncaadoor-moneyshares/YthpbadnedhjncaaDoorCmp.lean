/- What compares two places by their rests: the program's closure, in every world that the sort passes through. -/
import Derived.Test.YthpbadnedhjncaaDoorShelfB
import Derived.Test.YthpbadnedhjncaaDoorSmall
import Derived.Test.YthpbadnedhjncaaDoorSortPlain
namespace Go.Proofs.YthpbadnedhjncaaDoor
open Go.RowKit Go.Shelf Go.Lib Go.Sort

theorem compareU_any (a b : Int) (w : World) : Calls Tryd.prog 63 #[.int .u64 a, .int .u64 b] w fun e w' => e = .returned (.int .i64 (cmpM a b)) ∧ w' = w := by
  rcases (show a < b ∨ b < a ∨ (a ≤ b ∧ b ≤ a) by omega) with h | h | ⟨h, h'⟩
  · have HV : Hid (cmpM a b = -1) := by unfold Hid cmpM; rw [if_pos h]
    go_enter Tryd.func63, Tryd.ntmps63
    go_wp2
    go_ret
    exact ⟨ret_i64 HV.out.symm, rfl⟩
  · have HV : Hid (cmpM a b = 1) := by unfold Hid cmpM; rw [if_neg (by omega), if_pos h]
    go_enter Tryd.func63, Tryd.ntmps63
    go_wp2
    go_ret
    exact ⟨ret_i64 HV.out.symm, rfl⟩
  · have HV : Hid (cmpM a b = 0) := by unfold Hid cmpM; rw [if_neg (by omega), if_neg (by omega)]
    go_enter Tryd.func63, Tryd.ntmps63
    go_wp2
    go_ret
    exact ⟨ret_i64 HV.out.symm, rfl⟩

set_option maxRecDepth 100000 in
set_option maxHeartbeats 2000000 in
theorem closure_any (W : World) (x y p q n c : Nat) (a b : Int) (hx : x < n) (hy : y < n)
    (hp : ∀ m os, (grow (W.drewN m) os).cell? ⟨p, 0, none⟩ = some (.slice (some ⟨q, 0, none⟩) n c))
    (ha : ∀ m os, (grow (W.drewN m) os).cell? ⟨q, x, none⟩ = some (.int .u64 a)) (hb : ∀ m os, (grow (W.drewN m) os).cell? ⟨q, y, none⟩ = some (.int .u64 b)) :
    Calls Tryd.prog 62 #[.int .i64 (x : Int), .int .i64 (y : Int), .pointer (some ⟨p, 0, none⟩)] W fun e w' => e = .returned (.int .i64 (cmpM b a)) ∧ ∃ m os, w' = grow (W.drewN m) os := by
  have CC : ∀ (m : Nat) (os : Array Obj), Calls Tryd.prog 63 #[.int .u64 b, .int .u64 a] (grow (W.drewN m) os) fun e w' => e = .returned (.int .i64 (cmpM b a)) ∧ ∃ q os', w' = grow ((grow (W.drewN m) os).drewN q) os' := fun m os =>
    (compareU_any b a _).mono fun e w' ⟨h1, h2⟩ => ⟨h1, 0, #[], by rw [h2, grow_empty]; rfl⟩
  have e1 : (0 : Int) ≤ (x : Int) := by omega
  have e2 : (x : Int) < (n : Int) := by omega
  have e3 : (0 : Int) ≤ (y : Int) := by omega
  have e4 : (y : Int) < (n : Int) := by omega
  have mixed : Tryd.prog.follows .mixedOrders = true := by kernel_rfl
  have e63 : ∀ args w, (callFunc 63 args).run Tryd.prog w = .ok (.enter 63 args) w := enters_of Tryd.func63 (by kernel_rfl) rfl
  generalize cmpM b a = z at *
  go_enter Tryd.func62, Tryd.ntmps62
  go_wp2_with fail
  go_quiet_grown (first | (go_at_fn 63; refine Calls.grown_of (CC _ _)))
  go_wp2_with fail
  go_ret
  exact ⟨rfl, _, _, rfl⟩

end Go.Proofs.YthpbadnedhjncaaDoor
