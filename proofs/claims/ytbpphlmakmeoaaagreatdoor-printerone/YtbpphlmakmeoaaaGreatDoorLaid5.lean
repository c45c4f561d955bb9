import Derived.Test.YtbpphlmakmeoaaaGreatDoorCards
import Derived.Test.YtbpphlmakmeoaaaGreatDoorTie
import Derived.Test.YtbpphlmakmeoaaaGreatDoorParse5
import Derived.WalkKit
import Derived.ProofKit
import Derived.OpenShut
import Derived.Deep.DeepHandedRow
import Derived.Lib.LaidTab
import Derived.Stop.LaidErr
import Derived.SevenTiedAt
namespace Go.Proofs.YtbpphlmakmeoaaaGreatDoor
open Go.ChangeShapes Go.WideShapes Go.ChangeAt Go.RowKit
open Go.ChangeMaps (open_string shut_string)
theorem own : ownKnob Tryz.prog.godebug = none := by kernel_rfl
def lF : List (String × DataW Unit) := [("math/bits.deBruijn32tab", Rows.laid_math_bits_deBruijn32tab), ("math/bits.deBruijn64tab", Rows.laid_math_bits_deBruijn64tab), ("internal/strconv.uint64pow10", Rows.laid_internal_strconv_uint64pow10), ("strconv.ErrRange", Rows.laid_strconv_ErrRange), ("strconv.ErrSyntax", Rows.laid_strconv_ErrSyntax)]
theorem I9 : Tryz.prog.globalNamed "strconv.ErrSyntax" = some 2 := by kernel_rfl
theorem I2 : Tryz.prog.globalNamed "strconv.ErrRange" = some 3 := by kernel_rfl
theorem yJ : (Tryz.prog.globals[2]?).map (·.type) = some 250 := by kernel_rfl
theorem zi : (Tryz.prog.globals[3]?).map (·.type) = some 250 := by kernel_rfl
theorem sG : Tryz.prog.cellsOf 370 = 1 := by kernel_rfl
theorem tF : Tryz.prog.cellsOf 9 = 1 := by kernel_rfl
theorem F0 : "*" ++ "errors.errorString" = "*errors.errorString" := by decide
theorem xl (u : TypeId) (h : Tryz.prog.typeName? 3 u = some "*errors.errorString") : u = 368 :=
 typeName_ptr_named (nm := "errors.errorString") (by rw [F0]; kernel_rfl) (by kernel_rfl) (by decide) u (by rw [F0]; exact h)
theorem sN {W : World} (h : laidMetH Tryz.prog lF W) : Sy.Vars W.heap.size W := by
 have h' : laidMet Tryz.prog lF W := h
 have h3 := laidMet.tail (laidMet.tail (laidMet.tail h'))
 obtain ⟨a1, s1, Aa, _⟩ := laid_sentinel h3 I2 zi Tryz.underlying250 xl Tryz.underlying368 Tryz.underlying370 rfl rfl Tryz.underlying9 sG tF
 obtain ⟨a2, s2, Ab, _⟩ := laid_sentinel (laidMet.tail h3) I9 yJ Tryz.underlying250 xl Tryz.underlying368 Tryz.underlying370 rfl rfl Tryz.underlying9 sG tF
 have c1 := World.var?_cell I9 Ab 0
 have c2 := World.var?_cell I2 Aa 0
 simp at c1 c2
 exact ⟨_, _, c1, c2, World.block_lt_of_cell? W ⟨3, 0, none⟩ c2, .inr ⟨_, _, rfl⟩, .inr ⟨_, _, rfl⟩⟩
def pg (c : Array Value) : Obj → Obj
 | .cells _ t frozen => .cells c t frozen
 | o => o
noncomputable def low : Nat := (World.holding Tryz.prog default ⟨#[], #[], []⟩).heap.size
noncomputable def lR (os : Os) : World :=
 let w0 := World.holding Tryz.prog os ⟨#[.cells #[.string ⟨#[118, 97, 108, 117, 101, 32, 111, 117, 116, 32, 111, 102, 32, 114, 97, 110, 103, 101]⟩] 370, .cells #[.string ⟨#[105, 110, 118, 97, 108, 105, 100, 32, 115, 121, 110, 116, 97, 120]⟩] 370], #[], []⟩
 { w0 with heap := ((((w0.heap.modify 0 (pg #[.int .u64 1, .int .u64 10, .int .u64 100, .int .u64 1000, .int .u64 10000, .int .u64 100000, .int .u64 1000000, .int .u64 10000000, .int .u64 100000000, .int .u64 1000000000, .int .u64 10000000000, .int .u64 100000000000, .int .u64 1000000000000, .int .u64 10000000000000, .int .u64 100000000000000, .int .u64 1000000000000000, .int .u64 10000000000000000, .int .u64 100000000000000000, .int .u64 1000000000000000000, .int .u64 10000000000000000000])).modify 4 (pg #[.int .u8 0, .int .u8 1, .int .u8 28, .int .u8 2, .int .u8 29, .int .u8 14, .int .u8 24, .int .u8 3, .int .u8 30, .int .u8 22, .int .u8 20, .int .u8 15, .int .u8 25, .int .u8 17, .int .u8 4, .int .u8 8, .int .u8 31, .int .u8 27, .int .u8 13, .int .u8 23, .int .u8 21, .int .u8 19, .int .u8 16, .int .u8 7, .int .u8 26, .int .u8 12, .int .u8 18, .int .u8 6, .int .u8 11, .int .u8 5, .int .u8 10, .int .u8 9])).modify 5 (pg #[.int .u8 0, .int .u8 1, .int .u8 56, .int .u8 2, .int .u8 57, .int .u8 49, .int .u8 28, .int .u8 3, .int .u8 61, .int .u8 58, .int .u8 42, .int .u8 50, .int .u8 38, .int .u8 29, .int .u8 17, .int .u8 4, .int .u8 62, .int .u8 47, .int .u8 59, .int .u8 36, .int .u8 45, .int .u8 43, .int .u8 51, .int .u8 22, .int .u8 53, .int .u8 39, .int .u8 33, .int .u8 30, .int .u8 24, .int .u8 18, .int .u8 12, .int .u8 5, .int .u8 63, .int .u8 55, .int .u8 48, .int .u8 27, .int .u8 60, .int .u8 41, .int .u8 37, .int .u8 16, .int .u8 46, .int .u8 35, .int .u8 44, .int .u8 21, .int .u8 52, .int .u8 32, .int .u8 23, .int .u8 11, .int .u8 54, .int .u8 26, .int .u8 40, .int .u8 15, .int .u8 34, .int .u8 20, .int .u8 31, .int .u8 10, .int .u8 25, .int .u8 14, .int .u8 19, .int .u8 9, .int .u8 13, .int .u8 8, .int .u8 7, .int .u8 6])).modify 3 (pg #[.iface 368 (.pointer (some ⟨low, 0, none⟩))])).modify 2 (pg #[.iface 368 (.pointer (some ⟨low + 1, 0, none⟩))]) }
theorem rR {H : Type} {ts : List TypeId} {ds : List (DataW H)} {j : Nat} {s : ByteArray} (hsz : (DataW.weightsEach Tryz.prog ts ds).all (· ≤ reachBytes) = true) (ht : ts[j]? = some 9) (hd : ds[j]? = some (.lit (.string s.data.toList))) : s.size ≤ 140737488355328 := by
 have := sized_string hsz ht hd
 simp only [reachBytes, Array.length_toList] at this
 have e : s.data.size = s.size := rfl
 omega
theorem sR (os : Os) : laidMet Tryz.prog lF ((lR os).forCall (fun _ _ => 0) ⟨#[], #[.string ByteArray.empty], []⟩).memory :=
 laidMet_of_run' 8 (by kernel_rfl) (by kernel_rfl)
end Go.Proofs.YtbpphlmakmeoaaaGreatDoor
