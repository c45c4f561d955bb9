/- A field of what conclude answers. -/
import Derived.Test.YtdholifacnnjcaaCnc
namespace Go.Proofs.Ytdholifacnnjcaa
open Go.RowKit
theorem field0 (a b : Option Addr) (n m c d : Nat) (X : World) : (Instr.field 48 (.agg #[.slice a n c, .slice b m d]) 0).run Try.prog X = .ok (.slice a n c) X := by kernel_rfl
theorem field1 (a b : Option Addr) (n m c d : Nat) (X : World) : (Instr.field 48 (.agg #[.slice a n c, .slice b m d]) 1).run Try.prog X = .ok (.slice b m d) X := by kernel_rfl
end Go.Proofs.Ytdholifacnnjcaa
