import Derived.Test.YtmlhcncagdfjfaaGreatOpnt
import Derived.Test.YtmlhcncagdfjfaaGreatDrP
set_option maxRecDepth 100000
namespace Go.Proofs.YtmlhcncagdfjfaaGreat
open Go.ChangeShapes Go.WideShapes Go.RowKit Go.Deep De
def A5 (_ : World) (a : Int) (xs : List Value) : Prop := xs = [.int .i64 a] ∧ en a
def zS (N : Nat) (w : World) (s : StM) (xs : List Value) : Prop := (∃ v, xs = [.int .i64 s.tag, .int .i64 s.lit, .int .i64 s.how, .int .i64 s.rule, v] ∧ RR N 2 pc w s.ch v) ∧ en s.tag ∧ en s.how
section
variable {H : Type} {enc : TypeId × Value → H} {W : World}
theorem s9 {t : TypeId} (ht : Tryz.prog.underlying t = some (.int .i64)) : oV enc W t A5 := by
 intro Aa cs d p h _
 obtain ⟨k, rfl, _, hw⟩ := DataW.trod_int ht h
 have := bounds_i64 hw
 exact ⟨k, rfl, by unfold en; omega⟩
theorem zA : Tryz.prog.cellsOf 28 = 1 := by kernel_rfl
theorem zJ : Tryz.prog.cellsOf 29 = 1 := by kernel_rfl
theorem wZ : Tryz.prog.cellsOf 100 = 2 := by kernel_rfl
theorem yN : Tryz.prog.cellsOf 30 = 1 := by kernel_rfl
theorem zG : Tryz.prog.cellsOf 32 = 5 := by kernel_rfl
theorem zC : 1 ≤ Tryz.prog.bytesOf 100 := of_decide_eq_true (by kernel_rfl)
theorem yS : oV enc W 100 pc := by
 intro Aa cs d p h hw
 have hl := rX Tryz.underlying100 h
 rw [wZ] at hl
 obtain ⟨a0, h0⟩ := kt Tryz.underlying100 h hw 0 rfl (ps Tryz.underlying3)
 obtain ⟨a1, h1⟩ := kt Tryz.underlying100 h hw 1 rfl (ps Tryz.underlying3)
 clear h hw
 match cs, hl with
 | [u0, u1], _ =>
  simp only [yH, List.getElem_toArray, List.getElem_cons_zero, List.getElem_cons_succ, List.drop_zero, List.drop_succ_cons, List.take_succ_cons, List.take_zero] at h0 h1
  cases h0
  cases h1
  exact ⟨(a0, a1), rfl⟩
theorem xS : oV enc W 30 (cQ W.heap.size 2 pc) := zL Tryz.underlying30 wZ (by decide) zC yS
theorem yA : oV enc W 32 (zS W.heap.size) := by
 intro Aa cs d p h hw
 have hl := rX Tryz.underlying32 h
 rw [zG] at hl
 obtain ⟨a0, h0⟩ := kt Tryz.underlying32 h hw 0 rfl (s9 Tryz.underlying28)
 obtain ⟨a1, h1⟩ := kt Tryz.underlying32 h hw 1 rfl (ps Tryz.underlying3)
 obtain ⟨a2, h2⟩ := kt Tryz.underlying32 h hw 2 rfl (s9 Tryz.underlying29)
 obtain ⟨a3, h3⟩ := kt Tryz.underlying32 h hw 3 rfl (ps Tryz.underlying3)
 obtain ⟨a4, h4⟩ := kt Tryz.underlying32 h hw 4 rfl xS
 clear h hw
 match cs, hl with
 | [u0, u1, u2, u3, u4], _ =>
  simp only [yH, zA, zJ, yN, List.getElem_toArray, List.getElem_cons_zero, List.getElem_cons_succ, List.drop_zero, List.drop_succ_cons, List.take_succ_cons, List.take_zero] at h0 h1 h2 h3 h4
  obtain ⟨h0, i0⟩ := h0
  cases h0
  cases h1
  obtain ⟨h2, i2⟩ := h2
  cases h2
  cases h3
  obtain ⟨v4, e4, m4⟩ := h4
  cases e4
  exact ⟨⟨a0, a1, a2, a3, a4⟩, ⟨u4, rfl, m4⟩, i0, i2⟩
theorem yW {N : Nat} {w : World} {l : List (Int × Int)} {a : Option Addr} {n c : Nat} (h : RR N 2 pc w l (.slice a n c)) : ChN N w a l := by
 intro i x hi
 obtain ⟨g, o, xs, ea, hg, _, hc, hx⟩ := RR.open h hi
 unfold pc at hx
 subst hx
 exact ⟨g, o, ea, hg, by have := hc 0 _ rfl; simpa using this, by have := hc 1 _ rfl; simpa using this⟩
theorem zb {α : Type} {N k : Nat} {c : World → α → List Value → Prop} {w : World} {l : List α} {v : Value} (h : RR N k c w l v) : l.length ≤ 140737488351232 := by
 obtain ⟨_, _, _, _, h, _⟩ := h
 exact h
theorem pL {base : Nat} {ts : List TypeId} {ds : List (DataW H)} {j : Nat} {v : Value} {d : DataW H} {p : List MemPlace} (hv : Value.okWide Tryz.prog W .any base 32 v) (h : DataW.Trod enc Tryz.prog W 0 (fun _ => true) true 32 v d p) (hsz : (DataW.weightsEach Tryz.prog ts ds).all (· ≤ reachBytes) = true) (ht : ts[j]? = some 32) (hd : ds[j]? = some d) : ∃ (s : StM) (ca : Option Addr) (cc : Nat), v = fR s ca cc ∧ ChN W.heap.size W ca s.ch ∧ s.ch.length ≤ 140737488351232 ∧ en s.tag ∧ en s.how := by
 obtain ⟨cs, rfl, hl⟩ := okWide_struct Tryz.underlying32 hv
 obtain ⟨Aa, h⟩ := h
 have hw : ∀ n ∈ d.weights Tryz.prog 32, n ≤ reachBytes := fun n hn => of_decide_eq_true (List.all_eq_true.1 hsz _ (DataW.weights_mem_each ht hd n hn))
 obtain ⟨s, ⟨v4, e, hr⟩, i0, i2⟩ := yA Aa _ d p h hw
 obtain ⟨ca, cc, rfl, _⟩ := hr.form
 obtain ⟨cs⟩ := cs
 have e : cs = [.int .i64 s.tag, .int .i64 s.lit, .int .i64 s.how, .int .i64 s.rule, .slice ca s.ch.length cc] := e
 subst e
 exact ⟨s, ca, cc, rfl, yW hr, zb hr, i0, i2⟩
end
end Go.Proofs.YtmlhcncagdfjfaaGreat
