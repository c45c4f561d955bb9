/- theory.Size of a theory that may be. -/
import Derived.Test.YthifoamnmhlghaaLa
import Derived.Deep.RegionHeld3
namespace Go.Proofs.Ythifoamnmhlghaa.Fa
open Go.RowKit

theorem parts_zero {T : Th} (h : (checkM T).1 = 0) : 0 ≤ T.lits ∧ T.lits ≤ 4096 ∧ (foeM T).1 = 0 ∧ (ruleM T).1 = 0 := by
  have hk := check_ok h
  unfold checkM at h
  split at h
  · cases h
  simp only [orM_zero] at h
  exact ⟨hk.l0, hk.l1, h.1, h.2.1⟩
theorem results_tmp4 {fn : Func} {t u v x : Tmp} (h : fn.results = #[.tmp t, .tmp u, .tmp v, .tmp x]) (tmps : Array Value) (P : Program) (w : World) :
    (results fn tmps).run P w = .ok (.tuple #[tmps.getD t undef, tmps.getD u undef, tmps.getD v undef, tmps.getD x undef]) w := by
  simp [results, h]
theorem cell_onS {w w' : World} {p : Addr} {v : Value} (h : w.cell? p = some v) (hb : Below w.heap.size w w') : w'.cell? p = some v := (World.cell?_of_block (hb.block p.block (by
  cases hx : w.heap[p.block]? with
  | none => simp [World.cell?, hx] at h
  | some o => exact (Array.getElem?_eq_some_iff.1 hx).1))).trans h
abbrev S4z (wz : World) (p0 p1 p2 p3 : Addr) (u0 u1 u2 u3 : Value) (X : World) : Prop := X.cell? p0 = some u0 ∧ X.cell? p1 = some u1 ∧ X.cell? p2 = some u2 ∧ X.cell? p3 = some u3 ∧ Below wz.heap.size wz X
section
variable {wz X Y : World} {p0 p1 p2 p3 : Addr} {u0 u1 u2 u3 : Value}
theorem S4z.b (h : S4z wz p0 p1 p2 p3 u0 u1 u2 u3 X) : Below wz.heap.size wz X := h.2.2.2.2
theorem S4z.drew (h : S4z wz p0 p1 p2 p3 u0 u1 u2 u3 X) : S4z wz p0 p1 p2 p3 u0 u1 u2 u3 X.drew := ⟨h.1, h.2.1, h.2.2.1, h.2.2.2.1, (h.2.2.2.2).drew⟩
theorem S4z.below (h : S4z wz p0 p1 p2 p3 u0 u1 u2 u3 X) (hb : Below X.heap.size X Y) : S4z wz p0 p1 p2 p3 u0 u1 u2 u3 Y := ⟨cell_onS (h.1) hb, cell_onS (h.2.1) hb, cell_onS (h.2.2.1) hb, cell_onS (h.2.2.2.1) hb, (S4z.b h).trans (hb.mono (S4z.b h).size)⟩
end
def preK (T : Th) (k : Nat) : Int := sumK (fun r => bL T r) k
theorem preK_in {T : Th} (h : OkT T) : ∀ {k : Nat}, k ≤ T.rules.length → 0 ≤ preK T k ∧ preK T k ≤ 16 * (k : Int)
  | 0, _ => ⟨Int.le_refl _, Int.le_refl _⟩
  | k + 1, hk => by
    have h1 := preK_in h (k := k) (by omega)
    obtain ⟨x, hx⟩ := get_at (l := T.rules) (i := k) (by omega)
    have h2 := (h.rule x (List.mem_of_getElem? hx)).2.2.2.2.1
    have h3 : bL T (k : Nat) = (x.body.length : Nat) := by unfold bL; rw [(kind_at (p := kA) hx).2.2]
    have h4 : preK T (k + 1) = preK T k + bL T (k : Nat) := rfl
    rw [h4, h3]
    omega
set_option maxRecDepth 100000 in
set_option maxHeartbeats 6400000 in
theorem Size_ok {w : World} {T : Th} {fa ra ba : Option Addr} {fc rc bc : Nat} (h : TA w.heap.size w T fa fc ra rc ba bc) (h0 : (checkM T).1 = 0) :
    Calls Try.prog 11 #[tv T fa fc ra rc ba bc] w fun e w' => e = .returned (.tuple #[.int .i64 T.lits, .int .i64 (preS T), .int .i64 (pairsM T : Nat), .int .i64 0]) ∧ Below w.heap.size w w' := by
  have hB := below_new w (.cells #[.int .i64 T.lits, .slice fa T.foes.length fc, .slice ra T.rules.length rc, .slice ba T.beats.length bc] 25)
  have hX := heap_alloc_new w (.cells #[.int .i64 T.lits, .slice fa T.foes.length fc, .slice ra T.rules.length rc, .slice ba T.beats.length bc] 25)
  have hL := TR.go hB h
  have CC := hide (check_any hL)
  obtain ⟨e0, e1, he⟩ : ∃ a b, checkM T = (a, b) := ⟨_, _, rfl⟩
  rw [he] at CC
  unfold dup at CC
  simp only at CC
  obtain rfl : e0 = 0 := by rw [he] at h0; exact h0
  have HOK := hide (check_ok h0)
  obtain ⟨z0, z1, z2, z3⟩ := parts_zero h0
  have HZ := hide (And.intro z0 (And.intro z1 (And.intro z2 z3)))
  have hrl := HOK.out.rl
  obtain ⟨ps, hps⟩ : ∃ ps, preS T = ps := ⟨_, rfl⟩
  obtain ⟨pm, hpm⟩ : ∃ pm, pairsM T = pm := ⟨_, rfl⟩
  rw [hps, hpm]
  have HPS : Hid (preK T T.rules.length = ps) := hide hps
  have HPM := hide hpm
  clear hps hpm
  have HL := hide hL
  have HB := hide hB
  have HX := hide hX
  clear h hB hL h0 he z0 z1 z2 z3
  go_enter Try.func11, Try.ntmps11
  go_upto_region 1 with fail
  generalize w.alloc (.cells #[.int .i64 T.lits, .slice fa T.foes.length fc, .slice ra T.rules.length rc, .slice ba T.beats.length bc] 25) = W at *
  obtain ⟨-, c0, c1, c2, c3⟩ := Bt.of hX
  clear hX
  go_upto_region 5 with (go_at_call 19; refine CC.out.mono ?_; rintro _ w1 ⟨rfl, hw1⟩; have HW1 := hide hw1; clear hw1)
  have HX1 := hide ((HW1.out.block _ (loc_lt HX.out)).trans HX.out)
  have HL1 := hide (TR.go HW1.out HL.out)
  have HB1 := hide (HB.out.trans (HW1.out.mono HB.out.size))
  clear c0 c1 c2 c3 HX HL HB HW1 CC
  obtain ⟨-, c0, c1, c2, c3⟩ := Bt.of HX1.out
  go_upto_region 6 with fail
  clear c0 c1 c2 c3
  go_loopw [8, 22] (fun y x wr => ∃ k : Nat, k ≤ T.rules.length ∧ x = .int .i64 k ∧ y = .int .i64 (preK T k) ∧ Hid (Below w1.heap.size w1 wr)) (fun _ x _ => T.rules.length - (intOf x).toNat)
  case atStart => exact ⟨0, by omega, rfl, rfl, hide (Below.refl _ _)⟩
  case round =>
    obtain ⟨k, hk, rfl, rfl, HW⟩ := hrel
    by_cases hlt : k < T.rules.length
    · obtain ⟨x, hx⟩ := get_at hlt
      obtain ⟨g, of, a2, d2, rfl, -, k0, k1, k2, -, -, -⟩ := at_R (HL1.out.rules.keep HW.out.block) hx
      have hA := below_new wr (.cells #[.int .i64 x.kind, .int .i64 x.head, .slice a2 x.body.length d2] 42)
      have hXr := heap_alloc_new wr (.cells #[.int .i64 x.kind, .int .i64 x.head, .slice a2 x.body.length d2] 42)
      have HW2 := hide (HW.out.trans (hA.mono HW.out.size))
      have hp1 := preK_in HOK.out (k := k) (by omega)
      have hb16 := (HOK.out.rule x (List.mem_of_getElem? hx)).2.2.2.2.1
      have HN : Hid (preK T (k + 1) = preK T k + (x.body.length : Nat)) := hide (by
        have h3 : bL T (k : Nat) = (x.body.length : Nat) := by unfold bL; rw [(kind_at (p := kA) hx).2.2]
        rw [← h3]; rfl)
      generalize preK T k = pk at *
      clear hx hA
      go_upto_region 8 with fail
      generalize wr.alloc (.cells #[.int .i64 x.kind, .int .i64 x.head, .slice a2 x.body.length d2] 42) = W2 at *
      have r2' : W2.cell? ⟨wr.heap.size, 2, none⟩ = some (.slice a2 x.body.length d2) := Fx.get (vs := [.int .i64 x.kind, .int .i64 x.head, .slice a2 x.body.length d2]) hXr rfl
      clear hXr k0 k1 k2 HW
      go_wp2_with fail
      go_roundw
      case rel => exact ⟨k + 1, by omega, by go_num, by rw [HN.out], HW2⟩
      case measure => simp [intOf]; omega
    · have hkn : k = T.rules.length := by omega
      rw [hkn, HPS.out]
      clear hkn
      have HX2 := hide ((HW.out.block _ (loc_lt HX1.out)).trans HX1.out)
      have HL2 := hide (TR.go HW.out HL1.out)
      have HB2 := hide (HB1.out.trans (HW.out.mono HB1.out.size))
      obtain ⟨-, c0, c1, c2, c3⟩ := Bt.of HX2.out
      have HT : S4z wr ⟨w.heap.size, 0, none⟩ ⟨w.heap.size, 1, none⟩ ⟨w.heap.size, 2, none⟩ ⟨w.heap.size, 3, none⟩ (.int .i64 T.lits) (.slice fa T.foes.length fc) (.slice ra T.rules.length rc) (.slice ba T.beats.length bc) wr := ⟨c0, c1, c2, c3, Below.refl _ _⟩
      have CP : Hid (∀ X, Below wr.heap.size wr X → Calls Try.prog 20 #[tv T fa fc ra rc ba bc] X fun e w' => e = .returned (.int .i64 (pm : Nat)) ∧ Below X.heap.size X w') := hide fun X hX => by rw [← HPM.out]; exact pairsOf_any (TR.go hX HL2.out) HZ.out.1 HZ.out.2.1 HZ.out.2.2.1 HZ.out.2.2.2
      clear HX1 HL1 HB1 HX2
      go_upto_region 10 with fail
      go_region_held3 (fun X : World => S4z wr ⟨w.heap.size, 0, none⟩ ⟨w.heap.size, 1, none⟩ ⟨w.heap.size, 2, none⟩ ⟨w.heap.size, 3, none⟩ (.int .i64 T.lits) (.slice fa T.foes.length fc) (.slice ra T.rules.length rc) (.slice ba T.beats.length bc) X) (first | exact S4z.drew ‹_› | assumption | exact S4z.below ‹_› (below_new _ _) | exact S4z.below ‹_› ‹_›) (first | (go_at_call 20; refine (CP.out _ (S4z.b ‹_›)).mono ?_; rintro e w' ⟨rfl, hb⟩))
      go_wp2_with fail
      (try simp only [Exit.inBlock, Exit.then])
      refine bodyPost_ret (results_tmp4 rfl _ _ _) rfl ?_
      have hd : Below wr.heap.size wr wr.drew := (Below.refl wr.heap.size wr).drew
      exact ⟨rfl, HB2.out.trans ((hd.trans (hb.mono hd.size)).mono HB2.out.size)⟩
end Go.Proofs.Ythifoamnmhlghaa.Fa
