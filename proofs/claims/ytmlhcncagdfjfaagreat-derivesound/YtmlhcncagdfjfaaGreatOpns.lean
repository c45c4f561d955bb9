import Derived.Test.YtmlhcncagdfjfaaGreatOpnt
import Derived.Test.YtmlhcncagdfjfaaGreatDrP
set_option maxRecDepth 100000
namespace Go.Proofs.YtmlhcncagdfjfaaGreat
open Go.ChangeShapes Go.WideShapes Go.RowKit Go.Deep De
def B6 (_ : World) (a : Int) (xs : List Value) : Prop := xs = [.int .i64 a] ∧ eA a
def vJ (N : Nat) (w : World) (s : StM) (xs : List Value) : Prop := (∃ v, xs = [.int .i64 s.tag, .int .i64 s.lit, .int .i64 s.how, .int .i64 s.rule, v] ∧ RR N 2 o8 w s.ch v) ∧ eA s.tag ∧ eA s.how
section
variable {H : Type} {enc : TypeId × Value → H} {W : World}
theorem tj {t : TypeId} (ht : Tryz.prog.underlying t = some (.int .i64)) : iU enc W t B6 := by
 intro Aa cs d p h _
 obtain ⟨k, rfl, _, hw⟩ := DataW.trod_int ht h
 have := bounds_i64 hw
 exact ⟨k, rfl, by unfold eA; omega⟩
theorem zC : Tryz.prog.cellsOf 28 = 1 := by kernel_rfl
theorem zH : Tryz.prog.cellsOf 29 = 1 := by kernel_rfl
theorem wH : Tryz.prog.cellsOf 100 = 2 := by kernel_rfl
theorem yI : Tryz.prog.cellsOf 30 = 1 := by kernel_rfl
theorem wJ : Tryz.prog.cellsOf 32 = 5 := by kernel_rfl
theorem zw : 1 ≤ Tryz.prog.bytesOf 100 := of_decide_eq_true (by kernel_rfl)
theorem zy : 1 ≤ Tryz.prog.bytesOf 32 := of_decide_eq_true (by kernel_rfl)
theorem yL : iU enc W 100 o8 := by
 intro Aa cs d p h hw
 have hl := ou Tryz.underlying100 h
 rw [wH] at hl
 obtain ⟨a0, h0⟩ := ew Tryz.underlying100 h hw 0 rfl (iY Tryz.underlying3)
 obtain ⟨a1, h1⟩ := ew Tryz.underlying100 h hw 1 rfl (iY Tryz.underlying3)
 clear h hw
 match cs, hl with
 | [u0, u1], _ =>
  simp only [qa, List.getElem_toArray, List.getElem_cons_zero, List.getElem_cons_succ, List.drop_zero, List.drop_succ_cons, List.take_succ_cons, List.take_zero] at h0 h1
  cases h0
  cases h1
  exact ⟨(a0, a1), rfl⟩
theorem yg : iU enc W 30 (cQ W.heap.size 2 o8) := nQ Tryz.underlying30 wH (by decide) zw yL
theorem zc : iU enc W 32 (vJ W.heap.size) := by
 intro Aa cs d p h hw
 have hl := ou Tryz.underlying32 h
 rw [wJ] at hl
 obtain ⟨a0, h0⟩ := ew Tryz.underlying32 h hw 0 rfl (tj Tryz.underlying28)
 obtain ⟨a1, h1⟩ := ew Tryz.underlying32 h hw 1 rfl (iY Tryz.underlying3)
 obtain ⟨a2, h2⟩ := ew Tryz.underlying32 h hw 2 rfl (tj Tryz.underlying29)
 obtain ⟨a3, h3⟩ := ew Tryz.underlying32 h hw 3 rfl (iY Tryz.underlying3)
 obtain ⟨a4, h4⟩ := ew Tryz.underlying32 h hw 4 rfl yg
 clear h hw
 match cs, hl with
 | [u0, u1, u2, u3, u4], _ =>
  simp only [qa, zC, zH, yI, List.getElem_toArray, List.getElem_cons_zero, List.getElem_cons_succ, List.drop_zero, List.drop_succ_cons, List.take_succ_cons, List.take_zero] at h0 h1 h2 h3 h4
  obtain ⟨h0, i0⟩ := h0
  cases h0
  cases h1
  obtain ⟨h2, i2⟩ := h2
  cases h2
  cases h3
  obtain ⟨v4, e4, m4⟩ := h4
  cases e4
  exact ⟨⟨a0, a1, a2, a3, a4⟩, ⟨u4, rfl, m4⟩, i0, i2⟩
theorem xW : iU enc W 27 (cQ W.heap.size 5 (vJ W.heap.size)) := nQ Tryz.underlying27 wJ (by decide) zy zc
theorem yw {N : Nat} {w : World} {l : List (Int × Int)} {a : Option Addr} {n c : Nat} (h : RR N 2 o8 w l (.slice a n c)) : ChN N w a l := by
 intro i x hi
 obtain ⟨g, o, xs, ea, hg, _, hc, hx⟩ := RR.open h hi
 unfold o8 at hx
 subst hx
 exact ⟨g, o, ea, hg, by have := hc 0 _ rfl; simpa using this, by have := hc 1 _ rfl; simpa using this⟩
theorem uE {α : Type} {N k : Nat} {c : World → α → List Value → Prop} {w : World} {l : List α} {v : Value} (h : RR N k c w l v) : l.length ≤ 140737488351232 := by
 obtain ⟨_, _, _, _, h, _⟩ := h
 exact h
theorem yY {N : Nat} {w : World} {l : List StM} {a : Option Addr} {n c : Nat} (h : RR N 5 (vJ N) w l (.slice a n c)) : Sts N w l a := by
 intro i s hi
 obtain ⟨g, o, xs, ea, hg, _, hc, ⟨v, hx, hv⟩, i0, i2⟩ := RR.open h hi
 subst hx
 obtain ⟨ca, cc, rfl, _⟩ := hv.form
 exact ⟨g, o, ca, cc, ea, hg, by have := hc 0 _ rfl; simpa using this, by have := hc 1 _ rfl; simpa using this, by have := hc 2 _ rfl; simpa using this, by have := hc 3 _ rfl; simpa using this, by have := hc 4 _ rfl; simpa using this, uE hv, yw hv, i0, i2⟩
theorem tU {base : Nat} {ts : List TypeId} {ds : List (DataW H)} {j : Nat} {v : Value} {d : DataW H} {p : List MemPlace} (hv : Value.okWide Tryz.prog W .any base 27 v) (h : DataW.Trod enc Tryz.prog W 0 (fun _ => true) true 27 v d p) (hsz : (DataW.weightsEach Tryz.prog ts ds).all (· ≤ reachBytes) = true) (ht : ts[j]? = some 27) (hd : ds[j]? = some d) : ∃ (l : List StM) (la : Option Addr) (lc : Nat), v = .slice la l.length lc ∧ Sts W.heap.size W l la ∧ l.length ≤ 140737488351232 := by
 have hw : ∀ n ∈ d.weights Tryz.prog 27, n ≤ reachBytes := fun n hn => of_decide_eq_true (List.all_eq_true.1 hsz _ (DataW.weights_mem_each ht hd n hn))
 obtain ⟨a, n, c, rfl⟩ := okWide_slice Tryz.underlying27 hv
 obtain ⟨Ab, h⟩ := h
 obtain ⟨l, v', e, hr⟩ := xW Ab _ d p h hw
 cases e
 obtain ⟨ea, ec, e2, _⟩ := hr.form
 have Aa := uE hr
 rw [e2] at hr ⊢
 exact ⟨l, ea, ec, rfl, yY hr, Aa⟩
end
end Go.Proofs.YtmlhcncagdfjfaaGreat
