import Derived.Test.YtmlhcncagdfjfaaGreatOpnt
import Derived.Test.YtmlhcncagdfjfaaGreatDrP
set_option maxRecDepth 100000
namespace Go.Proofs.YtmlhcncagdfjfaaGreat
open Go.ChangeShapes Go.WideShapes Go.RowKit Go.Deep De
def B5 (_ : World) (a : Int) (xs : List Value) : Prop := xs = [.int .i64 a] ∧ eA a
def vd (N : Nat) (w : World) (s : StM) (xs : List Value) : Prop := (∃ v, xs = [.int .i64 s.tag, .int .i64 s.lit, .int .i64 s.how, .int .i64 s.rule, v] ∧ RR N 2 pu w s.ch v) ∧ eA s.tag ∧ eA s.how
section
variable {H : Type} {enc : TypeId × Value → H} {W : World}
theorem tt {t : TypeId} (ht : Tryz.prog.underlying t = some (.int .i64)) : i8 enc W t B5 := by
 intro Aa cs d p h _
 obtain ⟨k, rfl, _, hw⟩ := DataW.trod_int ht h
 have := bounds_i64 hw
 exact ⟨k, rfl, by unfold eA; omega⟩
theorem zN : Tryz.prog.cellsOf 28 = 1 := by kernel_rfl
theorem zA : Tryz.prog.cellsOf 29 = 1 := by kernel_rfl
theorem xi : Tryz.prog.cellsOf 100 = 2 := by kernel_rfl
theorem yB : Tryz.prog.cellsOf 30 = 1 := by kernel_rfl
theorem wX : Tryz.prog.cellsOf 32 = 5 := by kernel_rfl
theorem zp : 1 ≤ Tryz.prog.bytesOf 100 := of_decide_eq_true (by kernel_rfl)
theorem zM : 1 ≤ Tryz.prog.bytesOf 32 := of_decide_eq_true (by kernel_rfl)
theorem za : i8 enc W 100 pu := by
 intro Aa cs d p h hw
 have hl := oy Tryz.underlying100 h
 rw [xi] at hl
 obtain ⟨a0, h0⟩ := ey Tryz.underlying100 h hw 0 rfl (iU Tryz.underlying3)
 obtain ⟨a1, h1⟩ := ey Tryz.underlying100 h hw 1 rfl (iU Tryz.underlying3)
 clear h hw
 match cs, hl with
 | [u0, u1], _ =>
  simp only [qf, List.getElem_toArray, List.getElem_cons_zero, List.getElem_cons_succ, List.drop_zero, List.drop_succ_cons, List.take_succ_cons, List.take_zero] at h0 h1
  cases h0
  cases h1
  exact ⟨(a0, a1), rfl⟩
theorem xF : i8 enc W 30 (cQ W.heap.size 2 pu) := nF Tryz.underlying30 xi (by decide) zp za
theorem yA : i8 enc W 32 (vd W.heap.size) := by
 intro Aa cs d p h hw
 have hl := oy Tryz.underlying32 h
 rw [wX] at hl
 obtain ⟨a0, h0⟩ := ey Tryz.underlying32 h hw 0 rfl (tt Tryz.underlying28)
 obtain ⟨a1, h1⟩ := ey Tryz.underlying32 h hw 1 rfl (iU Tryz.underlying3)
 obtain ⟨a2, h2⟩ := ey Tryz.underlying32 h hw 2 rfl (tt Tryz.underlying29)
 obtain ⟨a3, h3⟩ := ey Tryz.underlying32 h hw 3 rfl (iU Tryz.underlying3)
 obtain ⟨a4, h4⟩ := ey Tryz.underlying32 h hw 4 rfl xF
 clear h hw
 match cs, hl with
 | [u0, u1, u2, u3, u4], _ =>
  simp only [qf, zN, zA, yB, List.getElem_toArray, List.getElem_cons_zero, List.getElem_cons_succ, List.drop_zero, List.drop_succ_cons, List.take_succ_cons, List.take_zero] at h0 h1 h2 h3 h4
  obtain ⟨h0, i0⟩ := h0
  cases h0
  cases h1
  obtain ⟨h2, i2⟩ := h2
  cases h2
  cases h3
  obtain ⟨v4, e4, m4⟩ := h4
  cases e4
  exact ⟨⟨a0, a1, a2, a3, a4⟩, ⟨u4, rfl, m4⟩, i0, i2⟩
theorem xq : i8 enc W 27 (cQ W.heap.size 5 (vd W.heap.size)) := nF Tryz.underlying27 wX (by decide) zM yA
theorem yx {N : Nat} {w : World} {l : List (Int × Int)} {a : Option Addr} {n c : Nat} (h : RR N 2 pu w l (.slice a n c)) : ChN N w a l := by
 intro i x hi
 obtain ⟨g, o, xs, ea, hg, _, hc, hx⟩ := RR.open h hi
 unfold pu at hx
 subst hx
 exact ⟨g, o, ea, hg, by have := hc 0 _ rfl; simpa using this, by have := hc 1 _ rfl; simpa using this⟩
theorem ue {α : Type} {N k : Nat} {c : World → α → List Value → Prop} {w : World} {l : List α} {v : Value} (h : RR N k c w l v) : l.length ≤ 140737488351232 := by
 obtain ⟨_, _, _, _, h, _⟩ := h
 exact h
theorem zj {N : Nat} {w : World} {l : List StM} {a : Option Addr} {n c : Nat} (h : RR N 5 (vd N) w l (.slice a n c)) : Sts N w l a := by
 intro i s hi
 obtain ⟨g, o, xs, ea, hg, _, hc, ⟨v, hx, hv⟩, i0, i2⟩ := RR.open h hi
 subst hx
 obtain ⟨ca, cc, rfl, _⟩ := hv.form
 exact ⟨g, o, ca, cc, ea, hg, by have := hc 0 _ rfl; simpa using this, by have := hc 1 _ rfl; simpa using this, by have := hc 2 _ rfl; simpa using this, by have := hc 3 _ rfl; simpa using this, by have := hc 4 _ rfl; simpa using this, ue hv, yx hv, i0, i2⟩
theorem tP {base : Nat} {ts : List TypeId} {ds : List (DataW H)} {j : Nat} {v : Value} {d : DataW H} {p : List MemPlace} (hv : Value.okWide Tryz.prog W .any base 27 v) (h : DataW.Trod enc Tryz.prog W 0 (fun _ => true) true 27 v d p) (hsz : (DataW.weightsEach Tryz.prog ts ds).all (· ≤ reachBytes) = true) (ht : ts[j]? = some 27) (hd : ds[j]? = some d) : ∃ (l : List StM) (la : Option Addr) (lc : Nat), v = .slice la l.length lc ∧ Sts W.heap.size W l la ∧ l.length ≤ 140737488351232 := by
 have hw : ∀ n ∈ d.weights Tryz.prog 27, n ≤ reachBytes := fun n hn => of_decide_eq_true (List.all_eq_true.1 hsz _ (DataW.weights_mem_each ht hd n hn))
 obtain ⟨a, n, c, rfl⟩ := okWide_slice Tryz.underlying27 hv
 obtain ⟨Ab, h⟩ := h
 obtain ⟨l, v', e, hr⟩ := xq Ab _ d p h hw
 cases e
 obtain ⟨ea, ec, e2, _⟩ := hr.form
 have Aa := ue hr
 rw [e2] at hr ⊢
 exact ⟨l, ea, ec, rfl, zj hr, Aa⟩
end
end Go.Proofs.YtmlhcncagdfjfaaGreat
