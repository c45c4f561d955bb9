import Derived.Test.YtmlhcncagdfjfaaGreatSaA
import Derived.Test.YtmlhcncagdfjfaaGreatWkD
set_option maxRecDepth 100000
set_option maxHeartbeats 12800000
namespace Go.Proofs.YtmlhcncagdfjfaaGreat.De
open Go.RowKit Fa
def pt (x y : StM) : Bool := decide (x = y)
theorem tg {w : World} {t q h r t2 q2 h2 r2 : Int} {ch dh : List (Int × Int)} {ca cb : Option Addr} {cc cd : Nat} (ha : Chs w ca ch) (hb : Chs w cb dh) (hl : ch.length ≤ 140737488351232) :
    Calls Tryz.prog 17 #[.agg #[.int .i64 t, .int .i64 q, .int .i64 h, .int .i64 r, .slice ca ch.length cc], .agg #[.int .i64 t2, .int .i64 q2, .int .i64 h2, .int .i64 r2, .slice cb dh.length cd]] w fun e w' => e = .returned (.bool (pt ⟨t, q, h, r, ch⟩ ⟨t2, q2, h2, r2, dh⟩)) ∧ Below w.heap.size w w' := vo ha hb hl
theorem po {w : World} {t q h r t2 q2 h2 r2 : Int} {ch dh : List (Int × Int)} {ca cb : Option Addr} {cc cd : Nat} (ha : Chs w ca ch) (hb : Chs w cb dh) (hl : ch.length ≤ 140737488351232) :
    Calls Tryz.prog 21 #[.agg #[.int .i64 t, .int .i64 q, .int .i64 h, .int .i64 r, .slice ca ch.length cc], .agg #[.int .i64 t2, .int .i64 q2, .int .i64 h2, .int .i64 r2, .slice cb dh.length cd]] w fun e w' => e = .returned (.bool (pt ⟨t, q, h, r, ch⟩ ⟨t2, q2, h2, r2, dh⟩)) ∧ Below w.heap.size w w' := pQ ha hb hl
abbrev H10 (wz : World) (b : Nat) (t q h r t2 q2 h2 r2 : Int) (u v : Value) (X : World) : Prop := X.cell? ⟨b, 0, none⟩ = some (.int .i64 t) ∧ X.cell? ⟨b, 1, none⟩ = some (.int .i64 q) ∧ X.cell? ⟨b, 2, none⟩ = some (.int .i64 h) ∧ X.cell? ⟨b, 3, none⟩ = some (.int .i64 r) ∧ X.cell? ⟨b, 4, none⟩ = some u ∧ X.cell? ⟨b + 1, 0, none⟩ = some (.int .i64 t2) ∧ X.cell? ⟨b + 1, 1, none⟩ = some (.int .i64 q2) ∧ X.cell? ⟨b + 1, 2, none⟩ = some (.int .i64 h2) ∧ X.cell? ⟨b + 1, 3, none⟩ = some (.int .i64 r2) ∧ X.cell? ⟨b + 1, 4, none⟩ = some v ∧ Below wz.heap.size wz X
section
variable {wz X Y : World} {b : Nat} {t q h r t2 q2 h2 r2 : Int} {u v : Value}
theorem H10.lowb (k : H10 wz b t q h r t2 q2 h2 r2 u v X) : Below wz.heap.size wz X := k.2.2.2.2.2.2.2.2.2.2
theorem H10.drew (k : H10 wz b t q h r t2 q2 h2 r2 u v X) : H10 wz b t q h r t2 q2 h2 r2 u v X.drew := by
 obtain ⟨a0, a1, a2, a3, a4, a5, a6, a7, a8, a9, Aa⟩ := k
 exact ⟨a0, a1, a2, a3, a4, a5, a6, a7, a8, a9, Aa.drew⟩
theorem H10.below (k : H10 wz b t q h r t2 q2 h2 r2 u v X) (hb : Below X.heap.size X Y) : H10 wz b t q h r t2 q2 h2 r2 u v Y := by
 obtain ⟨a0, a1, a2, a3, a4, a5, a6, a7, a8, a9, Aa⟩ := k
 have kk : ∀ {p : Addr} {z : Value}, X.cell? p = some z → Y.cell? p = some z := fun h => (World.cell?_of_block (hb.block _ (World.block_lt_of_cell? X _ h))).trans h
 exact ⟨kk a0, kk a1, kk a2, kk a3, kk a4, kk a5, kk a6, kk a7, kk a8, kk a9, Aa.trans (hb.mono Aa.size)⟩
end
theorem same_law {w : World} {t q h r t2 q2 h2 r2 : Int} {ch dh : List (Int × Int)} {ca cb : Option Addr} {cc cd : Nat} (ha : ChN w.heap.size w ca ch) (hb : ChN w.heap.size w cb dh) (hl : ch.length ≤ 140737488351232) :
    Calls Tryz.prog 5 #[fR ⟨t, q, h, r, ch⟩ ca cc, fR ⟨t2, q2, h2, r2, dh⟩ cb cd] w fun e w' => e = .returned (.bool true) ∧ Below w.heap.size w w' := by
 have Ae : Tryz.prog.follows .mixedOrders = true := by kernel_rfl
 have Ad := ac w (.cells #[.int .i64 t, .int .i64 q, .int .i64 h, .int .i64 r, .slice ca ch.length cc] 32)
 have Ac := ac (w.alloc (.cells #[.int .i64 t, .int .i64 q, .int .i64 h, .int .i64 r, .slice ca ch.length cc] 32)) (.cells #[.int .i64 t2, .int .i64 q2, .int .i64 h2, .int .i64 r2, .slice cb dh.length cd] 32)
 have hB := Ad.trans (Ac.mono Ad.size)
 have hx : Fx w.heap.size 32 [.int .i64 t, .int .i64 q, .int .i64 h, .int .i64 r, .slice ca ch.length cc] ((w.alloc (.cells #[.int .i64 t, .int .i64 q, .int .i64 h, .int .i64 r, .slice ca ch.length cc] 32)).alloc (.cells #[.int .i64 t2, .int .i64 q2, .int .i64 h2, .int .i64 r2, .slice cb dh.length cd] 32)) := (Ac.block _ (by simp)).trans (heap_alloc_new w (.cells #[.int .i64 t, .int .i64 q, .int .i64 h, .int .i64 r, .slice ca ch.length cc] 32))
 have hy : Fx (w.heap.size + 1) 32 [.int .i64 t2, .int .i64 q2, .int .i64 h2, .int .i64 r2, .slice cb dh.length cd] ((w.alloc (.cells #[.int .i64 t, .int .i64 q, .int .i64 h, .int .i64 r, .slice ca ch.length cc] 32)).alloc (.cells #[.int .i64 t2, .int .i64 q2, .int .i64 h2, .int .i64 r2, .slice cb dh.length cd] 32)) := by
  have := heap_alloc_new (w.alloc (.cells #[.int .i64 t, .int .i64 q, .int .i64 h, .int .i64 r, .slice ca ch.length cc] 32)) (.cells #[.int .i64 t2, .int .i64 q2, .int .i64 h2, .int .i64 r2, .slice cb dh.length cd] 32)
  simpa [Fx] using this
 have HA := hide (fun X (hX : Below w.heap.size w X) => (ha.keep (w' := X) hX.block).chs)
 have Ab := hide (fun X (hX : Below w.heap.size w X) => (hb.keep (w' := X) hX.block).chs)
 have CW := hide tN
 have HX := hide (fun X (hX : Below ((w.alloc (.cells #[.int .i64 t, .int .i64 q, .int .i64 h, .int .i64 r, .slice ca ch.length cc] 32)).alloc (.cells #[.int .i64 t2, .int .i64 q2, .int .i64 h2, .int .i64 r2, .slice cb dh.length cd] 32)).heap.size ((w.alloc (.cells #[.int .i64 t, .int .i64 q, .int .i64 h, .int .i64 r, .slice ca ch.length cc] 32)).alloc (.cells #[.int .i64 t2, .int .i64 q2, .int .i64 h2, .int .i64 r2, .slice cb dh.length cd] 32)) X) => And.intro (hx.keep (hX.block _ hx.lt)) (hy.keep (hX.block _ hy.lt)))
 have HB := hide hB
 obtain ⟨eb, Af⟩ : ∃ b, pt ⟨t, q, h, r, ch⟩ ⟨t2, q2, h2, r2, dh⟩ = b := ⟨_, rfl⟩
 have Ai : pt ⟨t, q, h, r, ch⟩ ⟨t, q, h, r, ch⟩ = true := decide_eq_true rfl
 clear ha hb Ad Ac hB hx hy
 show Calls Tryz.prog 5 #[.agg #[.int .i64 t, .int .i64 q, .int .i64 h, .int .i64 r, .slice ca ch.length cc], .agg #[.int .i64 t2, .int .i64 q2, .int .i64 h2, .int .i64 r2, .slice cb dh.length cd]] w _
 go_enter Tryz.func5, Tryz.ntmps5
 go_upto_region 1 with fail
 generalize ((w.alloc (.cells #[.int .i64 t, .int .i64 q, .int .i64 h, .int .i64 r, .slice ca ch.length cc] 32)).alloc (.cells #[.int .i64 t2, .int .i64 q2, .int .i64 h2, .int .i64 r2, .slice cb dh.length cd] 32)) = W at *
 obtain ⟨b, hb⟩ : ∃ b, w.heap.size = b := ⟨_, rfl⟩
 have Aa := HX.out W (Below.refl _ _)
 rw [hb] at Aa
 have Ag : H10 w b t q h r t2 q2 h2 r2 (.slice ca ch.length cc) (.slice cb dh.length cd) W := ⟨Aa.1.get (i := 0) rfl, Aa.1.get (i := 1) rfl, Aa.1.get (i := 2) rfl, Aa.1.get (i := 3) rfl, Aa.1.get (i := 4) rfl, Aa.2.get (i := 0) rfl, Aa.2.get (i := 1) rfl, Aa.2.get (i := 2) rfl, Aa.2.get (i := 3) rfl, Aa.2.get (i := 4) rfl, HB.out⟩
 rw [hb]
 have Ah : (eb == eb) = true := by simp
 clear HX Aa hb HB
 go_region_held3 (fun X : World => H10 w b t q h r t2 q2 h2 r2 (.slice ca ch.length cc) (.slice cb dh.length cd) X) (first | exact H10.drew ‹_› | assumption | exact H10.below ‹_› ‹_›) (first | (go_at_call 17; refine (tg (by first | exact HA.out _ (H10.lowb ‹_›) | exact Ab.out _ (H10.lowb ‹_›)) (by first | exact HA.out _ (H10.lowb ‹_›) | exact Ab.out _ (H10.lowb ‹_›)) hl).mono ?_; rintro e w' ⟨rfl, hb⟩) | (go_at_call 21; refine (po (by first | exact HA.out _ (H10.lowb ‹_›) | exact Ab.out _ (H10.lowb ‹_›)) (by first | exact HA.out _ (H10.lowb ‹_›) | exact Ab.out _ (H10.lowb ‹_›)) hl).mono ?_; rintro e w' ⟨rfl, hb⟩) | (go_at_call 22; refine (CW.out _).mono ?_; rintro e w' ⟨rfl, hb⟩))
 all_goals (go_wp2_with fail; go_ret; exact ⟨rfl, H10.lowb ‹_›⟩)
end Go.Proofs.YtmlhcncagdfjfaaGreat.De
