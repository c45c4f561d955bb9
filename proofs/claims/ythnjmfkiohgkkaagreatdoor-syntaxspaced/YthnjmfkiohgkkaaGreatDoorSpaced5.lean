/- The law's 'spaced': tokens told anew, with other things between. -/
import Derived.Test.YthnjmfkiohgkkaaGreatDoorRowT
import Derived.Test.YthnjmfkiohgkkaaGreatDoorGapAll
import Derived.Test.YthnjmfkiohgkkaaGreatDoorMo
namespace Go.Proofs.YthnjmfkiohgkkaaGreatDoor.Sy
open Go.RowKit

/-- Which gap stands behind the token k. -/
def gapOf (x : Int) : Nat := if (bits BinOp.and IntKind.i64 x 3 == 0) = true then 0 else if (bits BinOp.and IntKind.i64 x 3 == 1) = true then 1 else if (bits BinOp.and IntKind.i64 x 3 == 2) = true then 2 else 3
def gapAt (gs : List Int) (k : Nat) : Nat := if gs = [] then 0 else gapOf (gs.getD (k % gs.length) 0)

theorem spacedL_snoc (g : Nat → Nat) : ∀ (l : List Tok) (k : Nat) (t : Tok), spacedL g k (l ++ [t]) = spacedL g k l ++ (writtenF (t.kind : Int) t.text ++ gapB (g (k + l.length)))
  | [], k, t => by simp [spacedL]
  | x :: r, k, t => by
    have e : k + (x :: r).length = k + 1 + r.length := by simp; omega
    simp only [List.cons_append, spacedL, spacedL_snoc g r (k + 1) t, e, List.append_assoc]

theorem spaced_next {gs : List Int} {tk : List Tok} {k : Nat} {t : Tok} {O y gap : ByteArray} (e : tk[k]? = some t) (hO : O.size ≤ 1 + k * 70000) (HO : O.data.toList = 10 :: spacedL (gapAt gs) 0 (tk.take k))
    (hy : y.data.toList = writtenF (t.kind : Int) t.text) (hyl : y.size ≤ 65540) (hg : gap.data.toList = gapB (gapAt gs k)) (hgl : gap.size ≤ 20) :
    (O ++ y ++ gap : ByteArray).size ≤ 1 + (k + 1) * 70000 ∧ Hid ((O ++ y ++ gap : ByteArray).data.toList = 10 :: spacedL (gapAt gs) 0 (tk.take (k + 1))) := by
  obtain ⟨hk, et⟩ := List.getElem?_eq_some_iff.1 e
  have h1 : tk.take (k + 1) = tk.take k ++ [t] := by rw [List.take_succ_eq_append_getElem hk, et]
  have hln : (tk.take k).length = k := by simp; omega
  refine ⟨by rw [ByteArray.size_append, ByteArray.size_append]; omega, ?_⟩
  show (O ++ y ++ gap : ByteArray).data.toList = _
  rw [h1, spacedL_snoc, Nat.zero_add, hln, ← hy, ← hg]
  simp [HO]

set_option maxRecDepth 100000 in
set_option maxHeartbeats 6400000 in
theorem spaced_any (a ga : Option Addr) (c gc : Nat) (tk : List Tok) (gs : List Int) (w : World) (hr : RowT w a tk) (hg : Mo.Nums .i64 w ga gs) (hl : tk.length ≤ 3000) (ht : ∀ t ∈ tk, t.text.length ≤ 65536) (hgl : gs.length ≤ 140737488351232) :
    Calls Tryz.prog 14 #[.slice a tk.length c, .slice ga gs.length gc] w fun e w' => ∃ o : ByteArray, e = .returned (.string o) ∧ o.data.toList = 10 :: spacedL (gapAt gs) 0 tk ∧ o.size ≤ 300000000 ∧ Below w.heap.size w w' := by
  have HR := hide hr
  have HG := hide hg
  have HT := hide ht
  clear hr hg ht
  go_enter Tryz.func14, Tryz.ntmps14
  go_wp2_with fail
  go_loopw [5, 6] (fun x z wr => ∃ (k : Nat) (o : ByteArray), k ≤ tk.length ∧ z = .int .i64 k ∧ x = .string o ∧ o.size ≤ 1 + k * 70000 ∧ Hid (o.data.toList = 10 :: spacedL (gapAt gs) 0 (tk.take k)) ∧ Hid (Below w.heap.size w wr)) (fun _ z _ => tk.length - (intOf z).toNat)
  case atStart => exact ⟨0, ⟨#[10]⟩, Nat.zero_le _, rfl, rfl, by decide, rfl, Below.refl _ _⟩
  case round =>
    obtain ⟨k, O, hk, rfl, rfl, hO, HO, HW⟩ := hrel
    by_cases hlt : k < tk.length
    · obtain ⟨t, e, hmem⟩ : ∃ t, tk[k]? = some t ∧ t ∈ tk := ⟨tk[k], by simp [hlt], List.getElem_mem hlt⟩
      obtain ⟨b, o, rfl, a0, a1, a2⟩ := HR.out k t e
      have a0' := (HW.out.cell (p := ⟨b, o + k * 3, none⟩) (World.block_lt_of_cell? _ _ a0)).trans a0
      have a1' := (HW.out.cell (p := ⟨b, o + k * 3 + 1, none⟩) (World.block_lt_of_cell? _ _ a1)).trans a1
      have htx := HT.out t hmem
      clear a0 a1 a2 hmem HR HT
      simp only [strV] at a1'
      obtain ⟨tB, htB⟩ : ∃ g : ByteArray, ⟨t.text.toArray⟩ = g := ⟨_, rfl⟩
      have HTB : Hid (tB.data.toList = t.text) := by unfold Hid; rw [← htB]
      have htl : tB.size ≤ 65536 := by rw [← htB]; exact htx
      rw [htB] at a1'
      clear htB
      by_cases h5 : (t.kind : Int) = 5
      · rw [h5] at a0'
        have HY : Hid ((⟨#[34]⟩ ++ tB ++ ⟨#[34]⟩ : ByteArray).data.toList = writtenF (t.kind : Int) t.text) := by unfold Hid writtenF; rw [if_pos h5, ← HTB.out]; simp
        have hyl : (⟨#[34]⟩ ++ tB ++ ⟨#[34]⟩ : ByteArray).size ≤ 65540 := by rw [ByteArray.size_append, ByteArray.size_append]; have e1 : (⟨#[34]⟩ : ByteArray).size = 1 := rfl; omega
        clear h5
        by_cases hg0 : gs = []
        · subst hg0
          have HX : Hid (gapB (gapAt [] k) = [32]) := rfl
          go_wp2_with fail
          go_roundw
          case rel =>
            obtain ⟨q1, q2⟩ := spaced_next (gap := ⟨#[32]⟩) e hO HO.out HY.out hyl (by rw [HX.out]) (by decide)
            exact ⟨k + 1, _, by omega, by go_num, rfl, q1, q2, HW⟩
          case measure => simp [intOf]; omega
        · obtain ⟨gb, gf, rfl, hc⟩ := HG.out.cells hg0
          have hpos : 0 < gs.length := List.length_pos_iff.2 hg0
          have hm : k % gs.length < gs.length := Nat.mod_lt _ hpos
          have g0 := (HW.out.cell (p := ⟨gb, gf + k % gs.length, none⟩) (World.block_lt_of_cell? _ _ (hc _ hm))).trans (hc _ hm)
          have HGA : Hid (gapAt gs k = gapOf (gs.getD (k % gs.length) 0)) := by unfold Hid gapAt; rw [if_neg hg0]
          generalize gs.getD (k % gs.length) 0 = x at g0 HGA
          have hmod : Int.tmod (k : Int) (gs.length : Int) = ((k % gs.length : Nat) : Int) := by rw [Int.tmod_eq_emod_of_nonneg (by omega)]; omega
          generalize k % gs.length = m at g0 hmod hm
          generalize gs.length = gn at *
          clear hc
          go_wp2_with fail
          · next h0 =>
            have HX : Hid (gapB (gapAt gs k) = [32]) := by unfold Hid; rw [HGA.out]; unfold gapOf; rw [if_pos h0]; rfl
            go_roundw
            case rel =>
              obtain ⟨q1, q2⟩ := spaced_next (gap := ⟨#[32]⟩) e hO HO.out HY.out hyl (by rw [HX.out]) (by decide)
              exact ⟨k + 1, _, by omega, by go_num, rfl, q1, q2, HW⟩
            case measure => simp [intOf]; omega
          · next h0 h1 =>
            have HX : Hid (gapB (gapAt gs k) = [10, 9]) := by unfold Hid; rw [HGA.out]; unfold gapOf; rw [if_neg (by rw [h0]; decide)]; rw [if_pos h1]; rfl
            go_roundw
            case rel =>
              obtain ⟨q1, q2⟩ := spaced_next (gap := ⟨#[10, 9]⟩) e hO HO.out HY.out hyl (by rw [HX.out]) (by decide)
              exact ⟨k + 1, _, by omega, by go_num, rfl, q1, q2, HW⟩
            case measure => simp [intOf]; omega
          · next h0 h1 h2 =>
            have HX : Hid (gapB (gapAt gs k) = [32, 35, 32, 97, 32, 114, 101, 109, 97, 114, 107, 46, 32, 107, 105, 110, 100, 10]) := by unfold Hid; rw [HGA.out]; unfold gapOf; rw [if_neg (by rw [h0]; decide)]; rw [if_neg (by rw [h1]; decide)]; rw [if_pos h2]; rfl
            go_roundw
            case rel =>
              obtain ⟨q1, q2⟩ := spaced_next (gap := ⟨#[32, 35, 32, 97, 32, 114, 101, 109, 97, 114, 107, 46, 32, 107, 105, 110, 100, 10]⟩) e hO HO.out HY.out hyl (by rw [HX.out]) (by decide)
              exact ⟨k + 1, _, by omega, by go_num, rfl, q1, q2, HW⟩
            case measure => simp [intOf]; omega
          · next h0 h1 h2 =>
            have HX : Hid (gapB (gapAt gs k) = [32, 32, 13, 10]) := by unfold Hid; rw [HGA.out]; unfold gapOf; rw [if_neg (by rw [h0]; decide)]; rw [if_neg (by rw [h1]; decide)]; rw [if_neg (by rw [h2]; decide)]; rfl
            go_roundw
            case rel =>
              obtain ⟨q1, q2⟩ := spaced_next (gap := ⟨#[32, 32, 13, 10]⟩) e hO HO.out HY.out hyl (by rw [HX.out]) (by decide)
              exact ⟨k + 1, _, by omega, by go_num, rfl, q1, q2, HW⟩
            case measure => simp [intOf]; omega
      · have HY : Hid (tB.data.toList = writtenF (t.kind : Int) t.text) := by unfold Hid writtenF; rw [if_neg h5, HTB.out]
        have hyl : tB.size ≤ 65540 := by omega
        by_cases hg0 : gs = []
        · subst hg0
          have HX : Hid (gapB (gapAt [] k) = [32]) := rfl
          go_wp2_with fail
          go_roundw
          case rel =>
            obtain ⟨q1, q2⟩ := spaced_next (gap := ⟨#[32]⟩) e hO HO.out HY.out hyl (by rw [HX.out]) (by decide)
            exact ⟨k + 1, _, by omega, by go_num, rfl, q1, q2, HW⟩
          case measure => simp [intOf]; omega
        · obtain ⟨gb, gf, rfl, hc⟩ := HG.out.cells hg0
          have hpos : 0 < gs.length := List.length_pos_iff.2 hg0
          have hm : k % gs.length < gs.length := Nat.mod_lt _ hpos
          have g0 := (HW.out.cell (p := ⟨gb, gf + k % gs.length, none⟩) (World.block_lt_of_cell? _ _ (hc _ hm))).trans (hc _ hm)
          have HGA : Hid (gapAt gs k = gapOf (gs.getD (k % gs.length) 0)) := by unfold Hid gapAt; rw [if_neg hg0]
          generalize gs.getD (k % gs.length) 0 = x at g0 HGA
          have hmod : Int.tmod (k : Int) (gs.length : Int) = ((k % gs.length : Nat) : Int) := by rw [Int.tmod_eq_emod_of_nonneg (by omega)]; omega
          generalize k % gs.length = m at g0 hmod hm
          generalize gs.length = gn at *
          clear hc
          go_wp2_with fail
          · next h0 =>
            have HX : Hid (gapB (gapAt gs k) = [32]) := by unfold Hid; rw [HGA.out]; unfold gapOf; rw [if_pos h0]; rfl
            go_roundw
            case rel =>
              obtain ⟨q1, q2⟩ := spaced_next (gap := ⟨#[32]⟩) e hO HO.out HY.out hyl (by rw [HX.out]) (by decide)
              exact ⟨k + 1, _, by omega, by go_num, rfl, q1, q2, HW⟩
            case measure => simp [intOf]; omega
          · next h0 h1 =>
            have HX : Hid (gapB (gapAt gs k) = [10, 9]) := by unfold Hid; rw [HGA.out]; unfold gapOf; rw [if_neg (by rw [h0]; decide)]; rw [if_pos h1]; rfl
            go_roundw
            case rel =>
              obtain ⟨q1, q2⟩ := spaced_next (gap := ⟨#[10, 9]⟩) e hO HO.out HY.out hyl (by rw [HX.out]) (by decide)
              exact ⟨k + 1, _, by omega, by go_num, rfl, q1, q2, HW⟩
            case measure => simp [intOf]; omega
          · next h0 h1 h2 =>
            have HX : Hid (gapB (gapAt gs k) = [32, 35, 32, 97, 32, 114, 101, 109, 97, 114, 107, 46, 32, 107, 105, 110, 100, 10]) := by unfold Hid; rw [HGA.out]; unfold gapOf; rw [if_neg (by rw [h0]; decide)]; rw [if_neg (by rw [h1]; decide)]; rw [if_pos h2]; rfl
            go_roundw
            case rel =>
              obtain ⟨q1, q2⟩ := spaced_next (gap := ⟨#[32, 35, 32, 97, 32, 114, 101, 109, 97, 114, 107, 46, 32, 107, 105, 110, 100, 10]⟩) e hO HO.out HY.out hyl (by rw [HX.out]) (by decide)
              exact ⟨k + 1, _, by omega, by go_num, rfl, q1, q2, HW⟩
            case measure => simp [intOf]; omega
          · next h0 h1 h2 =>
            have HX : Hid (gapB (gapAt gs k) = [32, 32, 13, 10]) := by unfold Hid; rw [HGA.out]; unfold gapOf; rw [if_neg (by rw [h0]; decide)]; rw [if_neg (by rw [h1]; decide)]; rw [if_neg (by rw [h2]; decide)]; rfl
            go_roundw
            case rel =>
              obtain ⟨q1, q2⟩ := spaced_next (gap := ⟨#[32, 32, 13, 10]⟩) e hO HO.out HY.out hyl (by rw [HX.out]) (by decide)
              exact ⟨k + 1, _, by omega, by go_num, rfl, q1, q2, HW⟩
            case measure => simp [intOf]; omega
    · have ek : k = tk.length := by omega
      subst ek
      rw [List.take_length] at HO
      go_wp2_with fail
      go_ret
      exact ⟨O, rfl, HO.out, by omega, HW.out⟩
end Go.Proofs.YthnjmfkiohgkkaaGreatDoor.Sy
