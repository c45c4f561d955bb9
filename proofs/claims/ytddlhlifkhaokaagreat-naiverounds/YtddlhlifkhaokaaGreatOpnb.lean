/- Marks among the arguments, opened, as bytes. -/
import Derived.Test.YtddlhlifkhaokaaGreatOpnt
import Derived.Test.YtddlhlifkhaokaaGreatNvC
namespace Go.Proofs.YtddlhlifkhaokaaGreat
open Go.ChangeShapes Go.WideShapes Go.RowKit Go.Deep

def cB (_ : World) (a : Int) (xs : List Value) : Prop := xs = [.int .u8 a] ∧ isByte a
section
variable {H : Type} {enc : TypeId × Value → H} {W : World}
theorem opn_b : Opn enc W 50 cB := by
  intro fuel cs d p h _
  obtain ⟨k, rfl, _, hw⟩ := DataW.trod_int Tryz.underlying50 h
  have := bounds_u8 hw
  exact ⟨k, rfl, this.1, by omega⟩
theorem cl_b : Tryz.prog.cellsOf 50 = 1 := by kernel_rfl
theorem by_b : 1 ≤ Tryz.prog.bytesOf 50 := of_decide_eq_true (by kernel_rfl)
theorem opn_B : Opn enc W 27 (cQ W.heap.size 1 cB) := opn_l Tryz.underlying27 cl_b (by decide) by_b opn_b
theorem bmarks_at1 {N : Nat} {w : World} {l : List Int} {a : Option Addr} {n c : Nat} (h : RR N 1 cB w l (.slice a n c)) : At1 w a (u8s l) := by
  intro i v hi
  unfold u8s at hi
  rw [List.getElem?_map] at hi
  obtain ⟨x, hx, rfl⟩ := Option.map_eq_some_iff.1 hi
  obtain ⟨g, o, xs, ea, hg, _, hc, rfl, -⟩ := RR.open h hx
  have c0 := hc 0 _ rfl
  rw [Nat.mul_one] at c0
  exact ⟨g, o, ea, c0⟩
theorem bmarks_bys {N : Nat} {w : World} {l : List Int} {a : Option Addr} {n c : Nat} (h : RR N 1 cB w l (.slice a n c)) : Bys l := by
  intro q
  by_cases hq : q < l.length
  · obtain ⟨x, hx⟩ := get_at hq
    obtain ⟨_, _, _, _, _, _, _, _, hb⟩ := RR.open h hx
    rw [List.getD_eq_getElem?_getD, hx]
    exact hb
  · rw [getD_far (by omega)]; exact ⟨by omega, by omega⟩
set_option maxRecDepth 100000 in
theorem arg_bmarks {base : Nat} {ts : List TypeId} {ds : List (DataW H)} {j : Nat} {v : Value} {d : DataW H} {p : List MemPlace} (hv : Value.okWide Tryz.prog W .any base 27 v) (h : DataW.Trod enc Tryz.prog W 0 (fun _ => true) true 27 v d p) (hsz : (DataW.weightsEach Tryz.prog ts ds).all (· ≤ reachBytes) = true) (ht : ts[j]? = some 27) (hd : ds[j]? = some d) : ∃ (F : List Int) (ea : Option Addr) (ec : Nat), v = .slice ea F.length ec ∧ RR W.heap.size 1 cB W F (.slice ea F.length ec) := by
  have hw : ∀ n ∈ d.weights Tryz.prog 27, n ≤ reachBytes := fun n hn => of_decide_eq_true (List.all_eq_true.1 hsz _ (DataW.weights_mem_each ht hd n hn))
  obtain ⟨a, n, c, rfl⟩ := okWide_slice Tryz.underlying27 hv
  obtain ⟨fuel, h⟩ := h
  obtain ⟨F, v', e, hr⟩ := opn_B fuel _ d p h hw
  cases e
  obtain ⟨ea, ec, e2, _⟩ := hr.form
  rw [e2] at hr ⊢
  exact ⟨F, ea, ec, rfl, hr⟩
end
end Go.Proofs.YtddlhlifkhaokaaGreat
