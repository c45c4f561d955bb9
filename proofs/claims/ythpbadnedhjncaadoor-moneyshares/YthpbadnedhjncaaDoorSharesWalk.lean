/- MoneyShares, walked. -/
import Derived.Test.YthpbadnedhjncaaDoorWorks
import Derived.Test.YthpbadnedhjncaaDoorStableAny
import Derived.Test.YthpbadnedhjncaaDoorSumsWalk
import Derived.Test.YthpbadnedhjncaaDoorAppend
namespace Go.Proofs.YthpbadnedhjncaaDoor
open Go.RowKit

theorem share_any (t : Int) (a : Option Addr) (len cap : Nat) (zs : List Int) (w : World) (hl : zs.length = len) (h : Nums .i64 w a zs) :
    Calls Tryd.prog 27 #[.int .i64 t, .slice a len cap] w fun e w' => ShareEnds w t zs e w' :=
  share_sorts t a len cap zs w hl h (fun k h1 h2 => sorts_any k (by omega) _)

theorem src_of_nums {w : World} {a : Option Addr} {len cap : Nat} {zs : List Int} (hl : zs.length = len) (h : Nums .i64 w a zs) : Src Tryd.prog 1 51 (.slice a len cap) len (zs.map (Value.int .i64)) w := by
  subst hl
  by_cases hz : zs = []
  · subst hz
    cases a with
    | none => exact Src.ofNil w Tryd.underlying51 cap
    | some x => exact Src.ofSlice w Tryd.underlying51 x 0 cap [] rfl (by simp) (by simp)
  · obtain ⟨b, off, rfl, hc⟩ := h.cells hz
    refine Src.ofSlice w Tryd.underlying51 ⟨b, off, none⟩ zs.length cap _ (by simp) (fun j u hu => ?_) (fun u hu => ?_)
    · have hj : j < zs.length := by
        have := (List.getElem?_eq_some_iff.1 hu).1
        simpa using this
      rw [Addr.add_lit, hc j hj, ← hu]
      simp [List.getD, hj]
    · obtain ⟨z, _, rfl⟩ := List.mem_map.1 hu
      rfl

theorem own_empty (w : World) : (w.alloc (.cells #[] 2)).ownsRow w.heap.size 2 1 (.slice (some ⟨w.heap.size, 0, none⟩) 0 0) 0 [] :=
  ⟨rfl, .inr ⟨w.heap.size, 0, #[], rfl, Nat.le_refl _, heap_alloc_new w _, Nat.le_refl _, by unfold maxLen; omega, rfl, rfl⟩⟩

theorem infoInt64 : (Tryd.prog.info? 2).map (fun i => (i.zero, i.size, i.bytes)) = some (some (.int .i64 0), 1, 8) := by kernel_rfl

set_option maxRecDepth 100000 in
set_option maxHeartbeats 4000000 in
theorem shares_walk (t : Int) (a : Option Addr) (len cap : Nat) (zs : List Int) (w : World) (hl : zs.length = len) (hlen : len ≤ 17592186044416) (h : Nums .i64 w a zs) (ht : Tab w) :
    Calls Tryd.prog 7 #[.int .i64 t, .slice a len cap] w fun e w' => e = .returned (.bool true) ∧ Below w.heap.size w w' := by
  obtain ⟨ii, hi, hz0, hz1, hz2⟩ := info_parts infoInt64
  have CN := hide num_any
  have CW := hide works_any
  have HT := hide ht
  have HR := hide h
  have HL := hide hl
  have HO0 := hide (own_empty w)
  have HB0 : Hid (Below w.heap.size w (w.alloc (.cells #[] 2))) := (Below.refl _ w).alloc (Nat.le_refl _) _
  have HSR := hide (src_of_nums (cap := cap) hl (h.below HB0.out (Nat.le_refl _)))
  clear ht h hl
  go_enter Tryd.func7, Tryd.ntmps7
  go_wp2_with (at_builtin; go_must (refine wpList_append_src _ rfl (.tmp 11) (.tmp 12) 51 51 rfl w.heap.size 2 ii (.int .i64 0) Tryd.underlying51 hi hz0 hz1 hz2 rfl _ 0 _ rfl HO0.out _ len (zs.map (Value.int .i64)) rfl HSR.out (by omega) HB0.out.size ?_))
  intro v1 w1 hown1 hgrow1
  have hb1 : Below w.heap.size w w1 := HB0.out.grown hgrow1 HB0.out.size (fun k hk => (HO0.out.lt k hk).1)
  obtain ⟨x, cx, hv⟩ := own_shape hown1
  subst hv
  have HN1 := hide (nums_of_own hown1)
  clear hgrow1 HSR HO0 HB0 hown1
  have CS := hide (share_any t x len cx zs w1 HL.out HN1.out)
  go_wp2_with fail
  refine CS.out.mono ?_
  rintro _ w2 ⟨x2, n2, cx2, rfl, hn2', _, ho2, hb2⟩
  have hn2 : Hid (n2 = (shareM t zs).length) := hn2'
  clear hn2'
  have HB2 : Hid (Below w.heap.size w w2) := hb1.trans (hb2.mono hb1.size)
  have HR2 := hide (HR.out.below HB2.out (Nat.le_refl _))
  have HN2 := hide (nums_of_own ho2)
  have CRS := hide (refShare_any t a len cap zs w2 HL.out (by omega) HR2.out)
  clear CS ho2
  go_wp2_with fail
  refine CRS.out.mono ?_
  rintro _ w3 ⟨x3, n3, cx3, rfl, hn3', _, ho3, hb3⟩
  have hn3 : Hid (n3 = (shareM t zs).length) := hn3'
  clear hn3'
  have HB3 : Hid (Below w.heap.size w w3) := HB2.out.trans (hb3.mono HB2.out.size)
  have HR3 := hide (HR.out.below HB3.out (Nat.le_refl _))
  have HO3 := hide (HN1.out.below (hb2.trans (hb3.mono hb2.size)) (Nat.le_refl _))
  have HP3 := hide (HN2.out.below hb3 (Nat.le_refl _))
  have HQ3 := hide (nums_of_own ho3)
  have HT3 := hide (HT.out.below HB3.out (Nat.le_refl _))
  have hml : (shareM t zs).length ≤ 140737488355328 := by
    unfold shareM
    split
    · rw [shareOut_len]; rw [HL.out]; omega
    · exact Nat.zero_le _
  have CSM := hide (fun W (hW : Below w3.heap.size w3 W) => sameMoney_any x2 x3 n2 cx2 n3 cx3 (shareM t zs) (shareM t zs) W hn2.out.symm hn3.out.symm (by rw [hn2.out]; exact hml) (HP3.out.below hW (Nat.le_refl _)) (HQ3.out.below hW (Nat.le_refl _)))
  rw [decide_eq_true rfl] at CSM
  clear hml CRS ho3 hb1 hb2 hb3 HR2 HN2 HN1 HP3 HQ3 hn2 hn3
  generalize shareErr t zs = se at *
  go_wp2_with fail
  go_loopw [10] (fun i wr => ∃ k : Nat, k ≤ len ∧ i = .int .i64 k ∧ Below w3.heap.size w3 wr) (fun i _ => len - (intOf i).toNat)
  case atStart => exact ⟨0, Nat.zero_le _, rfl, Below.refl _ _⟩
  case round =>
    obtain ⟨k, hk, rfl, hbel⟩ := hrel
    by_cases hlt : k < len
    · obtain ⟨b1, o1, c1, ha1, hc1, HT1, HC1, _⟩ := Nums.get HR3.out HL.out hbel hlt
      obtain ⟨b2, o2, c2, ha2, hc2, HT2, HC2, _⟩ := Nums.get HO3.out HL.out hbel hlt
      have hcc : c2 = c1 := HC2.out.trans HC1.out.symm
      subst hcc
      subst ha1
      subst ha2
      go_wp2_with fail
      go_region
      go_wp2_with fail
      go_roundw
      case rel => exact ⟨k + 1, by omega, by go_num, hbel.drew⟩
      case measure => simp [intOf]; omega
    · have hke : k = len := by omega
      subst hke
      have HB3r : Hid (Below w.heap.size w wr) := HB3.out.trans (hbel.mono HB3.out.size)
      go_wp2_with fail
      refine (CSM.out _ hbel).mono ?_
      rintro _ w4 ⟨rfl, hb4⟩
      go_wp2_with fail
      refine (CN.out _ _).mono ?_
      rintro _ w5 ⟨rfl, hww⟩
      subst w5
      go_wp2_with fail
      have HB4 : Hid (Below w.heap.size w w4) := HB3r.out.trans (hb4.mono HB3r.out.size)
      have HT4 := hide (HT.out.below HB4.out (Nat.le_refl _))
      clear hb4
      refine (CW.out _ HT4.out).mono ?_
      rintro _ w6 ⟨rfl, hb6⟩
      go_wp2_with fail
      go_ret
      exact ⟨rfl, HB4.out.trans (hb6.mono HB4.out.size)⟩

end Go.Proofs.YthpbadnedhjncaaDoor
