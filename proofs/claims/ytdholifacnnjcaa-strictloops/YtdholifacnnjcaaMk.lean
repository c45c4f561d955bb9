/- marked. -/
import Derived.Test.YtdholifacnnjcaaWrk
namespace Go.Proofs.Ytdholifacnnjcaa
open Go.RowKit

/-- The marks of a list. -/
structure Mks (n : Nat) (l : List Int) (R : List Bool) : Prop where
  ln : R.length = n
  at_ : ∀ z : Nat, z < n → R.getD z false = decide ((z : Int) ∈ l)
theorem Mks.start (n : Nat) : Mks n [] (List.replicate n false) := ⟨by simp, fun z hz => by rw [repF]; simp⟩
theorem Mks.add {n : Nat} {l : List Int} {R : List Bool} {y : Nat} (h : Mks n l R) (hy : y < n) : Mks n (l ++ [(y : Int)]) (R.set y true) := by
  refine ⟨by rw [List.length_set]; exact h.ln, fun z hz => ?_⟩
  rw [getD_set (by rw [h.ln]; exact hy)]
  by_cases e : z = y
  · subst e; rw [if_pos rfl]; simp
  · rw [if_neg e, h.at_ z hz]
    have : ((z : Int) = (y : Int)) ↔ False := by constructor; intro h; omega; exact False.elim
    simp [this]
set_option maxRecDepth 100000 in
set_option maxHeartbeats 6400000 in
theorem marked_any {w : World} {n : Nat} {l : List Int} {a : Option Addr} {c : Nat} (hl : At1 w a (ints l)) (hn : n ≤ 4096) (hll : l.length ≤ 140737488351232) (hin : ∀ x ∈ l, 0 ≤ x ∧ x < (n : Int)) (hp : l.Pairwise (· < ·)) :
    Calls Try.prog 11 #[.int .i64 n, .slice a l.length c] w fun e w' => ∃ g R, e = .returned (.tuple #[.slice (some ⟨g, 0, none⟩) n n, .bool true]) ∧ Mks n l R ∧ Fx g 4 (bools R) w' ∧ w.heap.size ≤ g ∧ Below w.heap.size w w' := by
  obtain ⟨iB, hiB, zB0, zB1, zB2⟩ := info_parts infoBo
  have hm := fun W => run_make_fix (P := Try.prog) Try.underlying31 hiB zB0 zB1 rfl n (by rw [zB2]; omega) (by unfold maxLen; omega) W
  have HL := hide hl
  have HIN := hide hin
  have HP := hide hp
  clear hl hin hp
  go_enter Try.func11, Try.ntmps11
  go_upto_region 3 with fail
  have hA := below_new w (.cells (Array.replicate n (.bool false)) 4)
  have HF : Hid (Fx w.heap.size 4 (bools (List.replicate n false)) (w.alloc (.cells (Array.replicate n (.bool false)) 4))) := hide (by unfold Fx; rw [heap_alloc_new, bools_rep])
  have HB := hide hA
  generalize w.alloc (.cells (Array.replicate n (.bool false)) 4) = W at *
  clear hA hm
  generalize hg : w.heap.size = g at *
  have HG := hide hg
  clear hg
  go_loopw [7] (fun x wr => ∃ (k : Nat) (R : List Bool), k ≤ l.length ∧ x = .int .i64 k ∧ Hid (Mks n (l.take k) R) ∧ Hid (Fx g 4 (bools R) wr) ∧ Hid (Below g w wr)) (fun x _ => l.length - (intOf x).toNat)
  case atStart => exact ⟨0, _, by omega, rfl, hide (Mks.start n), HF, HB⟩
  case round =>
    clear HF HB
    obtain ⟨k, R, hk, rfl, HMK, HF, HB⟩ := hrel
    by_cases hlt : k < l.length
    · obtain ⟨x, hx⟩ := get_at hlt
      have hx0 := HIN.out x (List.mem_of_getElem? hx)
      obtain ⟨xm, rfl⟩ := Int.eq_ofNat_of_zero_le hx0.1
      have hxn : xm < n := by omega
      have HATw : Hid (At1 wr a (ints l)) := hide (HL.out.below (by have := HB.out; rw [← HG.out] at this; exact this))
      obtain ⟨ga, oa, ea, cx⟩ := HATw.out.get hx
      have HMK2 : Hid (Mks n (l.take (k + 1)) (R.set xm true)) := hide (by rw [take_snoc hx]; exact HMK.out.add hxn)
      have HXG : Hid (∀ y : Int, k ≠ 0 → l[k - 1]? = some y → y < (xm : Int)) := hide (by
        intro y h0 hy
        have := List.pairwise_iff_getElem.1 HP.out (k - 1) k (List.getElem?_eq_some_iff.1 hy).1 hlt (by omega)
        obtain ⟨_, e1⟩ := List.getElem?_eq_some_iff.1 hy
        obtain ⟨_, e2⟩ := List.getElem?_eq_some_iff.1 hx
        rw [e1, e2] at this
        exact this)
      subst ea
      have hoa : oa + k + 0 = oa + k := rfl
      clear hoa
      generalize hv : (xm : Int) = xv at *
      have HV := hide hv
      have d1 : decide (xv < 0) = false := by simp; omega
      have d3 : decide ((n : Int) ≤ xv) = false := by simp; omega
      by_cases hk0 : k = 0
      · have e1 : decide (0 < (k : Int)) = false := by simp; omega
        have e2 : decide (0 < k) = false := by simp; omega
        have HK0 := hide hk0
        have HLT := hide hlt
        clear hx hx0 hk0 hv
        go_upto_region 5 with fail
        go_quiet (fail)
        have cx' : (wr.drewN nq).cell? ⟨ga, oa + k, none⟩ = some (.int .i64 xv) := cx
        have HF' : Hid (Fx g 4 (bools R) (wr.drewN nq)) := hide HF.out
        have HB' : Hid (Below g w (wr.drewN nq)) := hide ⟨HB.out.os, HB.out.tape, HB.out.output, HB.out.size, HB.out.block⟩
        clear cx HF HB d1 d3 e1 e2
        generalize wr.drewN nq = w2 at *
        have hv := HV.out
        subst hv
        have cg := HF'.out.get (bool_at (R := R) (k := xm) (by rw [HMK.out.ln]; exact hxn))
        have fg := HF'.out.frz xm
        have HF2 : Hid (Fx g 4 (bools (R.set xm true)) (w2.setCell ⟨g, xm, none⟩ (.bool true))) := hide (by rw [← bools_set]; exact HF'.out.set xm _)
        have HB2 := hide (HB'.out.setCell (p := ⟨g, xm, none⟩) (Nat.le_refl g) (.bool true))
        go_wp2_with fail
        go_roundw
        case rel => exact ⟨k + 1, _, by have := HLT.out; omega, by go_num, HMK2, HF2, HB2⟩
        case measure => have := HLT.out; simp [intOf]; omega
      · obtain ⟨kp, hkp⟩ : ∃ kp, k = kp + 1 := ⟨k - 1, by omega⟩
        obtain ⟨y, hy⟩ := get_at (l := l) (i := kp) (by omega)
        have hyx := HXG.out y hk0 (by rw [hkp]; exact hy)
        obtain ⟨ga2, oa2, ea2, cy⟩ := HATw.out.get hy
        cases ea2
        have e1 : decide (0 < (k : Int)) = true := by simp; omega
        have e2 : decide (0 < k) = true := by simp; omega
        have e3 : decide (xv ≤ y) = false := by simp; omega
        have hw1 : IntKind.i64.wrap ((k : Int) - 1) = (kp : Int) := by rw [IntWalk.i64_in _ (by omega)]; omega
        have hkl : kp < l.length := by omega
        have HLT := hide hlt
        clear hx hx0 hk0 hv hy hkp hyx
        go_upto_region 5 with fail
        go_quiet (fail)
        have cx' : (wr.drewN nq).cell? ⟨ga, oa + k, none⟩ = some (.int .i64 xv) := cx
        have HF' : Hid (Fx g 4 (bools R) (wr.drewN nq)) := hide HF.out
        have HB' : Hid (Below g w (wr.drewN nq)) := hide ⟨HB.out.os, HB.out.tape, HB.out.output, HB.out.size, HB.out.block⟩
        clear cx HF HB d1 d3 e1 e2 e3 hw1 hkl cy
        generalize wr.drewN nq = w2 at *
        have hv := HV.out
        subst hv
        have cg := HF'.out.get (bool_at (R := R) (k := xm) (by rw [HMK.out.ln]; exact hxn))
        have fg := HF'.out.frz xm
        have HF2 : Hid (Fx g 4 (bools (R.set xm true)) (w2.setCell ⟨g, xm, none⟩ (.bool true))) := hide (by rw [← bools_set]; exact HF'.out.set xm _)
        have HB2 := hide (HB'.out.setCell (p := ⟨g, xm, none⟩) (Nat.le_refl g) (.bool true))
        go_wp2_with fail
        go_roundw
        case rel => exact ⟨k + 1, _, by have := HLT.out; omega, by go_num, HMK2, HF2, HB2⟩
        case measure => have := HLT.out; simp [intOf]; omega
    · have HMK2 : Hid (Mks n l R) := hide (by have := HMK.out; rw [List.take_of_length_le (by omega)] at this; exact this)
      go_wp2_with fail
      go_ret2
      have hb := HB.out
      rw [← HG.out] at hb
      exact ⟨g, R, rfl, HMK2.out, HF.out, by rw [HG.out]; exact Nat.le_refl _, hb⟩
theorem selM_in {sg : List Int} {i : Int} : (∀ x ∈ selM sg i, 0 ≤ x ∧ x < (sg.length : Int)) ∧ (selM sg i).Pairwise (· < ·) ∧ ∀ z : Nat, z < sg.length → ((z : Int) ∈ selM sg i ↔ sg.getD z 0 = i) := by
  unfold selM
  refine ⟨fun x hx => ?_, ?_, fun z hz => ?_⟩
  · obtain ⟨a, ha, rfl⟩ := List.mem_map.1 hx
    have := List.mem_range.1 (List.mem_filter.1 ha).1
    exact ⟨Int.natCast_nonneg _, by show (a : Int) < _; omega⟩
  · rw [List.pairwise_map]
    exact List.Pairwise.imp (fun {a b} (h : a < b) => by show (a : Int) < (b : Int); omega) (List.Pairwise.filter _ List.pairwise_lt_range)
  · constructor
    · intro h
      obtain ⟨a, ha, e⟩ := List.mem_map.1 h
      have : a = z := Int.ofNat.inj e
      subst this
      simpa using (List.mem_filter.1 ha).2
    · intro h
      exact List.mem_map.2 ⟨z, List.mem_filter.2 ⟨List.mem_range.2 hz, by simpa using h⟩, rfl⟩
theorem selM_len {sg : List Int} {i : Int} : (selM sg i).length ≤ sg.length := selK_len (k := sg.length)
end Go.Proofs.Ytdholifacnnjcaa
