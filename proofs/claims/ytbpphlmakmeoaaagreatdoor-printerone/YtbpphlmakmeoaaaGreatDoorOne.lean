/-
  PrinterOne holds of every two texts: Normal of what Normal answers is that text again, with no error and its length for the place; of two texts that have a Normal the Normals are one just if Parse reads the same statute of both. Nothing is asked of the input but what the row itself asks.
-/
import Derived.Test.YtbpphlmakmeoaaaGreatDoorOneB
namespace Go.Proofs.YtbpphlmakmeoaaaGreatDoor
open Go.ChangeShapes Go.WideShapes Go.ChangeAt Go.RowKit
open Go.ChangeMaps (open_string shut_string)
namespace PrinterOne
theorem said : Rows.PrinterOneSaid :=
 OpenClaim.holds_of_cond 7 Tryz.f7 rfl rfl rfl rfl rfl rfl rfl ⟨rfl, rfl, rfl, rfl, rfl⟩ rfl rfl rfl rfl rfl (by kernel_rfl) Tryz.func7 J5
  (of_decide_eq_true (by kernel_rfl)) (by unfold Func.isWrapper; first | (rw [if_pos (by decide +kernel)]; kernel_rfl) | (rw [if_neg (by decide +kernel)]; exact ⟨rfl, rfl⟩))
  (fun os started H enc _ F => by rw [OpenClaim.pre_eq_preRow]; exact J8 os started H enc F)
theorem plain (f : FuncId) (fn : Func) (hf : Tryz.pinned.checked.prog.funcNamed "lexprior/lexpriorlaw06.PrinterOne" = some f) (hfn : Tryz.pinned.checked.prog.funcs[f]? = some fn) :
    true = Tryz.pinned.checked.prog.looks [] ∧ ∀ (j : Nat) t, fn.params[j]? = some t → Tryz.pinned.checked.prog.wantsStandIn t = false := by
 obtain rfl : f = 7 := Option.some.inj ((show Tryz.prog.funcNamed "lexprior/lexpriorlaw06.PrinterOne" = some 7 by kernel_rfl).symm.trans hf) |>.symm
 obtain rfl : fn = Tryz.f7 := (Option.some.inj (Tryz.func7.symm.trans hfn)).symm
 refine ⟨by kernel_rfl, fun j t ht => ?_⟩
 rw [Tryz.params7] at ht
 obtain rfl : t = 9 := by simpa using Array.mem_of_getElem? ht
 exact (show Tryz.prog.wantsStandIn 9 = false by kernel_rfl)
end PrinterOne
theorem printerOne_holds : Rows.PrinterOneCardSaid :=
 Claim7.holds_tied_plain_at .later [] _ _ _ _ PrinterOne.said (fun _ h => by cases h) (by kernel_rfl) (fun _ h => by cases h) printerOne_row_tie rfl ⟨rfl, rfl⟩ (by kernel_rfl) rfl PrinterOne.plain (by kernel_rfl)
#print axioms printerOne_holds
end Go.Proofs.YtbpphlmakmeoaaaGreatDoor
