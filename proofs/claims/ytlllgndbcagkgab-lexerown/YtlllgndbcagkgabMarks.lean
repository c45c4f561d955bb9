/- The marks that the book writes. -/
import Derived.Test.YtlllgndbcagkgabLot
import Derived.Test.YtlllgndbcagkgabTokens
import Derived.Laws.BytesArg
import Derived.Deep.RegionWith
import Derived.Deep.RegionHeld3
namespace Go.Proofs.Ytlllgndbcagkgab
open Go.RowKit

def tokK (k : Nat) : Int := -1 - (k : Int)
abbrev tokC (i k : Nat) : Array Value := #[.int .i64 (tokK k), .string ⟨#[]⟩, .int .i64 (tokK i)]

theorem markTokens_any (i k : Nat) (w : World) (hi : i ≤ 1000000) (hk : k ≤ 1000000000) : Calls Try.prog 45 #[.int .i64 i, .int .i64 k] w fun e w' => e = .returned (.agg (tokC i k)) ∧ w' = w.alloc (.cells (tokC i k) 64) := by
  go_enter Try.func45, Try.ntmps45
  go_wp2_with fail
  simp [bodyPost, results, Try.results45, go_sem, tokK]
  rfl

theorem conv_six (W : World) (a b c d e f : Int) : (convert 71 9 (.slice (some ⟨W.heap.size, 0, none⟩) 6 6)).run Try.prog (W.alloc (.cells #[.int .u8 a, .int .u8 b, .int .u8 c, .int .u8 d, .int .u8 e, .int .u8 f] 5)) = .ok (.string (strOfNums [a, b, c, d, e, f])) (W.alloc (.cells #[.int .u8 a, .int .u8 b, .int .u8 c, .int .u8 d, .int .u8 e, .int .u8 f] 5)) :=
  run_convert_bytes_arg (P := Try.prog) _ 71 5 Try.underlying71 Try.underlying5 W.heap.size 0 6 6 [a, b, c, d, e, f] rfl (fun i hi => by
    rw [cell_of_row _ _ _ _ _ _ (heap_alloc_new W _)]
    rcases (show i = 0 ∨ i = 1 ∨ i = 2 ∨ i = 3 ∨ i = 4 ∨ i = 5 by omega) with rfl | rfl | rfl | rfl | rfl | rfl <;> rfl) 9 Try.underlying9

def bookC (i k : Nat) : Array Value := #[.int .u8 (65 + (i : Int) % 26), .int .u8 (65 + (i : Int) / 26 % 26), .int .u8 (65 + (i : Int) / 676 % 26), .int .u8 (65 + (k : Int) % 26), .int .u8 (65 + (k : Int) / 26 % 26), .int .u8 (65 + (k : Int) / 676 % 26)]

def bookB (i k : Nat) : ByteArray := ⟨#[109, 97, 114, 107, 32]⟩ ++ strOfNums [65 + (i : Int) % 26, 65 + (i : Int) / 26 % 26, 65 + (i : Int) / 676 % 26, 65 + (k : Int) % 26, 65 + (k : Int) / 26 % 26, 65 + (k : Int) / 676 % 26]

theorem strOfNums_size' (xs : List Int) : (strOfNums xs).size = xs.length := by unfold strOfNums; simp [ByteArray.size]

set_option maxRecDepth 100000 in
set_option maxHeartbeats 1000000 in
theorem mark_any (i k : Nat) (w : World) (hi : i ≤ 1000000) (hk : k ≤ 1000000000) : Calls Try.prog 72 #[.int .i64 i, .int .i64 k] w fun e w' => e = .returned (.string (bookB i k)) ∧ w' = w.alloc (.cells (bookC i k) 5) := by
  have kc := conv_six
  have ks := strOfNums_size'
  go_enter Try.func72, Try.ntmps72
  go_wp2_with fail
  go_ret
  exact ⟨rfl, rfl⟩

theorem markStrings_any (i k : Nat) (w : World) (hi : i ≤ 1000000) (hk : k ≤ 1000000000) : Calls Try.prog 40 #[.int .i64 i, .int .i64 k] w fun e w' => e = .returned (.string (bookB i k)) ∧ w' = w.alloc (.cells (bookC i k) 5) := by
  have CM := hide mark_any
  go_enter Try.func40, Try.ntmps40
  go_wp2_with fail
  refine (CM.out _ _ _ hi hk).mono ?_
  rintro _ w1 ⟨rfl, hb⟩
  go_wp2_with fail
  go_ret
  exact ⟨rfl, rfl⟩
end Go.Proofs.Ytlllgndbcagkgab
