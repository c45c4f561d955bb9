/- literals, Differ. -/
import Derived.Test.YtcobmbclhhimjaaGreatFlf
import Derived.Deep.RegionHeld3
import Derived.Test.YtcobmbclhhimjaaGreatFs4
namespace Go.Proofs.YtcobmbclhhimjaaGreat.Fa
open Go.RowKit

/-- Those that are so, rising, among the first. -/
def soL (p : Int → Bool) (k : Nat) : List Int := ((List.range k).filter fun q : Nat => p (q : Int)).map Int.ofNat
theorem soL_succ {p : Int → Bool} {k : Nat} : soL p (k + 1) = if p k then soL p k ++ [(k : Int)] else soL p k := by
  unfold soL
  rw [List.range_succ, List.filter_append, List.map_append]
  cases h : p (k : Int) <;> simp [h]
theorem soL_len {p : Int → Bool} {k : Nat} : (soL p k).length ≤ k := by
  unfold soL
  rw [List.length_map]
  exact Nat.le_trans (List.length_filter_le _ _) (by simp)
section
variable {w : World} {T : Th} {n : Nat} {fa ra ba : Option Addr} {fc rc bc : Nat} {p : Int → Bool} {v : Value}
set_option maxRecDepth 100000 in
set_option maxHeartbeats 6400000 in
theorem literals_any (hl : T.lits = (n : Int)) (hn : n ≤ 4096) (h : Ts w p (fun x => 0 ≤ x ∧ x < (n : Int)) v) :
    Calls Tryz.prog 38 #[tv T fa fc ra rc ba bc, v] w fun e w' => ∃ va vc, e = .returned (.slice va (soL p n).length vc) ∧ w'.ownsRow w.heap.size 3 1 (.slice va (soL p n).length vc) (soL p n).length (ints (soL p n)) ∧ Below w.heap.size w w' := by
  obtain ⟨iI, hiI, zI0, zI1, zI2⟩ := info_parts infoI
  obtain ⟨fn, caps, rfl, hf, hc⟩ := h
  have HC := hide hc
  have hB := below_new w (.cells #[.int .i64 T.lits, .slice fa T.foes.length fc, .slice ra T.rules.length rc, .slice ba T.beats.length bc] 25)
  have hX := heap_alloc_new w (.cells #[.int .i64 T.lits, .slice fa T.foes.length fc, .slice ra T.rules.length rc, .slice ba T.beats.length bc] 25)
  have HB := hide hB
  have HTL := hide hl
  clear hc hB hl
  go_enter Tryz.func38, Tryz.ntmps38
  go_upto_region 1 with fail
  generalize w.alloc (.cells #[.int .i64 T.lits, .slice fa T.foes.length fc, .slice ra T.rules.length rc, .slice ba T.beats.length bc] 25) = W at *
  obtain ⟨-, c0, c1, c2, c3⟩ := Bt.of hX
  rw [HTL.out] at c0
  clear hX c1 c2 c3
  go_upto_region 3 with fail
  clear c0
  go_loopw [5, 9] (fun y x wr => ∃ (k : Nat) (va : Option Addr) (vc : Nat), k ≤ n ∧ x = .int .i64 k ∧ y = .slice va (soL p k).length vc ∧ Hid (wr.ownsRow w.heap.size 3 1 (.slice va (soL p k).length vc) (soL p k).length (ints (soL p k))) ∧ Hid (Below w.heap.size w wr)) (fun _ x _ => n - (intOf x).toNat)
  case atStart => exact ⟨0, none, 0, by omega, rfl, rfl, hide (World.ownsRow_nil _ _ _ _), HB⟩
  case round =>
    obtain ⟨k, va, vc, hk, rfl, rfl, HRow, HBr⟩ := hrel
    by_cases hlt : k < n
    · have C := hide (HC.out (k : Int) wr ⟨by omega, by omega⟩ HBr.out)
      have hlen := soL_len (p := p) (k := k)
      cases hb : p (k : Int) with
      | true =>
        have HS : Hid (soL p (k + 1) = soL p k ++ [(k : Int)]) := hide (by rw [soL_succ, hb]; rfl)
        rw [hb] at C
        clear hb
        go_wp2_with fail
        refine C.out.mono ?_
        rintro _ w2 ⟨rfl, hb2⟩
        have HB2 := hide (HBr.out.trans (hb2.mono HBr.out.size))
        have HR2 := hide (owns_keep HRow.out fun g hg => hb2.block g (owns_lt HRow.out hg))
        clear hb2
        have hA := below_new w2 (.cells #[.int .i64 k] 3)
        have HROW := hide (owns_keep HR2.out fun g hg => hA.block g (owns_lt HR2.out hg))
        have hw2 : w.heap.size ≤ w2.heap.size := HB2.out.size
        have HHI : Hid (∀ g, Value.ownBlock (.slice va (soL p k).length vc) = some g → w.heap.size ≤ g) := hide fun g e => (HR2.out.lt g e).1
        have HA2 := hide hA
        have HT : Hid (ints (soL p k) ++ [.int .i64 (k : Int)] = ints (soL p (k + 1))) := hide (by rw [HS.out]; unfold ints; simp)
        have HLN : Hid ((soL p k).length + 1 = (soL p (k + 1)).length) := hide (by rw [HS.out]; simp)
        generalize (soL p k).length = sl0 at *
        clear hA
        go_wp2_with (at_builtin; go_must (refine wpList_append_two _ rfl _ _ 26 rfl w.heap.size 3 iI _ 1 8 Tryz.underlying26 hiI zI0 zI1 zI2 rfl (by decide) (.slice va sl0 vc) sl0 (ints (soL p k)) rfl HROW.out ⟨w2.heap.size, 0, none⟩ 1 [.int .i64 k] rfl rfl (cell_one_new _ _ _) (by intro u hu; simp at hu; subst hu; rfl) (by unfold maxLen; omega) (by omega) (by simp; omega) ?_); intro g4 cap4 w4 hown4 hg4; rw [HT.out, HLN.out] at hown4; have HO4 := hide hown4; have HB4 : Hid (Below w.heap.size w w4) := (hide (HB2.out.trans ((HA2.out.mono HB2.out.size).trans (by rcases hg4 with ⟨h1, h2⟩ | ⟨h1, h2⟩; exact (Fr.of_grown (Z := fun k => w.heap.size ≤ k) h2 (fun k e => by cases e; exact HHI.out _ h1)).below fun k hk => ⟨by simp; omega, by omega⟩; exact (Fr.of_grown (Z := fun k => w.heap.size ≤ k) h2 (fun k e => by cases e)).below fun k hk => ⟨by simp; omega, by omega⟩)))); clear hown4 hg4)
        go_roundw
        case rel => exact ⟨k + 1, some ⟨g4, 0, none⟩, cap4, by omega, by go_num, by rw [HLN.out], HO4, HB4⟩
        case measure => simp [intOf]; omega
      | false =>
        have HS : Hid (soL p (k + 1) = soL p k) := hide (by rw [soL_succ, hb]; rfl)
        rw [hb] at C
        clear hb
        go_wp2_with fail
        refine C.out.mono ?_
        rintro _ w2 ⟨rfl, hb2⟩
        have HB2 := hide (HBr.out.trans (hb2.mono HBr.out.size))
        have HR2 := hide (owns_keep HRow.out fun g hg => hb2.block g (owns_lt HRow.out hg))
        clear hb2
        go_wp2_with fail
        go_roundw
        case rel => exact ⟨k + 1, va, vc, by omega, by go_num, by rw [HS.out], by rw [HS.out]; exact HR2, HB2⟩
        case measure => simp [intOf]; omega
    · have hkn : k = n := by omega
      subst hkn
      go_wp2_with fail
      go_ret
      exact ⟨va, vc, rfl, HRow.out, HBr.out⟩
end
end Go.Proofs.YtcobmbclhhimjaaGreat.Fa
/- Differ. -/
namespace Go.Proofs.YtcobmbclhhimjaaGreat.Fa
open Go.RowKit

/-- Marks in a box. -/
structure Mb (b n : Nat) (m : List Int) (w : World) : Prop where
  ln : m.length = n
  bx : ∃ va vc, Fx b 29 [.slice va n vc] w ∧ At1 w va (u8s m)
theorem Mb.go {b n : Nat} {m : List Int} {w w' : World} (h : Mb b n m w) (hb : Below w.heap.size w w') : Mb b n m w' := by
  obtain ⟨va, vc, h1, h2⟩ := h.bx
  exact ⟨h.ln, va, vc, h1.keep (hb.block _ h1.lt), h2.below hb⟩
def difP (m m2 : List Int) (x : Int) : Bool := m.getD x.toNat 0 != m2.getD x.toNat 0
set_option maxRecDepth 100000 in
set_option maxHeartbeats 3200000 in
theorem dif_call {b1 b2 n : Nat} {m m2 : List Int} {w : World} (h1 : Mb b1 n m w) (h2 : Mb b2 n m2 w) (_ : n ≤ 4096) {x : Nat} (hx : x < n) : Calls Tryz.prog 42 #[.int .i64 x, ptr b1, ptr b2] w fun e w' => e = .returned (.bool (difP m m2 x)) ∧ Below w.heap.size w w' := by
  obtain ⟨va, vc, f1, a1⟩ := h1.bx
  obtain ⟨ua, uc, f2, a2⟩ := h2.bx
  obtain ⟨g, o, rfl, c1⟩ := a1 x _ (u8s_at (by rw [h1.ln]; exact hx))
  obtain ⟨g2, o2, rfl, c2⟩ := a2 x _ (u8s_at (by rw [h2.ln]; exact hx))
  have d1 := f1.get (i := 0) rfl
  have d2 := f2.get (i := 0) rfl
  have HE : Hid (difP m m2 x = (m.getD x 0 != m2.getD x 0)) := hide (by unfold difP; rw [Int.toNat_natCast])
  rw [HE.out]
  generalize m.getD x 0 = y1 at *
  generalize m2.getD x 0 = y2 at *
  clear h1 h2 f1 f2 a1 a2 HE
  go_enter Tryz.func42, Tryz.ntmps42
  go_wp2_with fail
  go_quiet (fail)
  go_wp2_with fail
  go_ret
  exact ⟨rfl, (below_drewN w _)⟩
theorem dif_ts {b1 b2 n : Nat} {m m2 : List Int} {w : World} (h1 : Mb b1 n m w) (h2 : Mb b2 n m2 w) (hn : n ≤ 4096) : Ts w (difP m m2) (fun x => 0 ≤ x ∧ x < (n : Int)) (.func (.func 42) #[] #[ptr b1, ptr b2]) := by
  refine ⟨42, #[ptr b1, ptr b2], rfl, enters_go Tryz.func42 (by kernel_rfl) (by kernel_rfl), fun x w' hx hb => ?_⟩
  obtain ⟨q, rfl⟩ := Int.eq_ofNat_of_zero_le hx.1
  exact dif_call (h1.go hb) (h2.go hb) hn (by omega)
end Go.Proofs.YtcobmbclhhimjaaGreat.Fa
