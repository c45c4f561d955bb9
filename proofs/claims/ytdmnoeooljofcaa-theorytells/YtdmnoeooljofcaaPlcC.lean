/- placesOf. -/
import Derived.Test.YtdmnoeooljofcaaCnmC
import Derived.Test.YtdmnoeooljofcaaPrs
namespace Go.Proofs.Ytdmnoeooljofcaa.Cz
open Go.RowKit

def placesK (R : List Bool) (k : Nat) : List Int := ((List.range k).filter fun i => R.getD i false).map Int.ofNat
abbrev placesM (R : List Bool) : List Int := placesK R R.length
theorem placesK_yes {R : List Bool} {k : Nat} (h : R.getD k false = true) : placesK R (k + 1) = placesK R k ++ [(k : Int)] := by
  unfold placesK
  have e : List.filter (fun i => R.getD i false) [k] = [k] := by rw [List.filter_cons, if_pos h]; rfl
  rw [List.range_succ, List.filter_append, List.map_append, e]
  rfl
theorem placesK_no {R : List Bool} {k : Nat} (h : R.getD k false = false) : placesK R (k + 1) = placesK R k := by
  unfold placesK
  have e : List.filter (fun i => R.getD i false) [k] = [] := by rw [List.filter_cons, if_neg (by rw [h]; decide)]; rfl
  rw [List.range_succ, List.filter_append, List.map_append, e]
  simp
theorem boolz_at {R : List Bool} {k : Nat} (h : k < R.length) : (bools R)[k]? = some (.bool (R.getD k false)) := by
  unfold bools
  rw [List.getElem?_map, List.getD_eq_getElem?_getD, List.getElem?_eq_getElem h]
  rfl
set_option maxRecDepth 100000 in
set_option maxHeartbeats 3200000 in
theorem placesOf_any {g c : Nat} {R : List Bool} {w : World} (h : Fx g 4 (bools R) w) (hl : R.length ≤ 4096) :
    Calls Try.prog 58 #[.slice (some ⟨g, 0, none⟩) R.length c] w fun e w' => ∃ a d, e = .returned (.slice a (placesM R).length d) ∧ w'.ownsRow w.heap.size 3 1 (.slice a (placesM R).length d) (placesM R).length (ints (placesM R)) ∧ Below w.heap.size w w' := by
  obtain ⟨iI, hiI, zI0, zI1, zI2⟩ := info_parts infoI
  have HF := hide h
  obtain ⟨n, hn⟩ : ∃ n, R.length = n := ⟨_, rfl⟩
  have HN := hide hn
  rw [hn] at hl
  unfold placesM
  rw [hn]
  clear h hn
  go_enter Try.func58, Try.ntmps58
  go_wp2_with fail
  go_loopw [3, 8] (fun y x wr => ∃ (k : Nat) (acc : List Int) (a : Option Addr) (d : Nat), k ≤ n ∧ x = .int .i64 k ∧ y = .slice a acc.length d ∧ acc.length ≤ k ∧ Hid (acc = placesK R k) ∧ Hid (wr.ownsRow w.heap.size 3 1 (.slice a acc.length d) acc.length (ints acc)) ∧ Hid (Below w.heap.size w wr)) (fun _ x _ => n - (intOf x).toNat)
  case atStart => exact ⟨0, [], none, 0, by omega, rfl, rfl, by simp, hide rfl, hide ⟨rfl, .inl ⟨rfl, rfl⟩⟩, hide (Below.refl _ _)⟩
  case round =>
    obtain ⟨k, acc, a, d, hk, rfl, rfl, hal, HA, HRow, HB⟩ := hrel
    by_cases hlt : k < n
    · have hF := HF.out.keep (HB.out.block g HF.out.lt)
      cases hr : R.getD k false with
      | true =>
        have cx := hF.get (boolz_at (R := R) (k := k) (by rw [HN.out]; exact hlt))
        rw [hr] at cx
        have HP := hide (placesK_yes hr)
        have hA := below_new wr (.cells #[.int .i64 k] 3)
        have HROW := hide (owns_keep HRow.out fun g hg => hA.block g (owns_lt HRow.out hg))
        have hw2 : w.heap.size ≤ wr.heap.size := HB.out.size
        clear hr hF hA
        go_upto_region 7 with (at_builtin; go_must (refine wpList_append_two _ rfl _ _ 38 rfl w.heap.size 3 iI _ 1 8 Try.underlying38 hiI zI0 zI1 zI2 rfl (by decide) _ _ (ints acc) rfl HROW.out ⟨wr.heap.size, 0, none⟩ 1 [.int .i64 k] rfl rfl (cell_one_new _ _ _) (by intro u hu; simp at hu; subst hu; rfl) (by unfold maxLen; omega) (by omega) (by simp; omega) ?_); intro g4 cap4 w4 hown4 hg4)
        have hg5 : (Value.ownBlock (.slice a acc.length d) = some g4 ∧ (wr.alloc (.cells #[.int .i64 k] 3)).grownBy w4 (some g4)) ∨ (g4 = wr.heap.size + 1 ∧ (wr.alloc (.cells #[.int .i64 k] 3)).grownBy w4 none) := by
          rcases hg4 with h | ⟨h1, h2⟩
          · exact .inl h
          · exact .inr ⟨by simpa using h1, h2⟩
        have HF4 := hide (HB.out.trans ((grown_fr (Z := fun k => w.heap.size ≤ k) rfl hg5 fun g e => (HRow.out.lt g e).1).below fun k hk => ⟨by omega, by omega⟩))
        have HO4 := hide hown4
        clear hown4 hg4 hg5 cx
        go_wp2_with fail
        go_roundw
        case rel => exact ⟨k + 1, acc ++ [(k : Int)], some ⟨g4, 0, none⟩, cap4, by omega, by go_num, by rw [List.length_append]; rfl, by rw [List.length_append]; simp; omega, hide (by rw [HA.out]; exact HP.out.symm), hide (by rw [List.length_append, ints_snoc]; exact HO4.out), HF4⟩
        case measure => simp [intOf]; omega
      | false =>
        have cx := hF.get (boolz_at (R := R) (k := k) (by rw [HN.out]; exact hlt))
        rw [hr] at cx
        have HP := hide (placesK_no hr)
        clear hr hF
        go_wp2_with fail
        go_roundw
        case rel => exact ⟨k + 1, acc, a, d, by omega, by go_num, rfl, by omega, hide (by rw [HA.out]; exact HP.out.symm), HRow, HB⟩
        case measure => simp [intOf]; omega
    · have hkn : k = n := by omega
      subst hkn
      go_wp2_with fail
      go_ret
      rw [← HA.out]
      exact ⟨a, d, rfl, HRow.out, HB.out⟩
end Go.Proofs.Ytdmnoeooljofcaa.Cz
