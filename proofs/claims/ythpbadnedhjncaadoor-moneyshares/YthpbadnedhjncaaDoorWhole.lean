/- The program's wholeParts: of each weight its share's whole cents, and the rest. -/
import Derived.Test.YthpbadnedhjncaaDoorShare
import Derived.Test.YthpbadnedhjncaaDoorDivB
namespace Go.Proofs.YthpbadnedhjncaaDoor
open Go.RowKit

theorem infoU64 : (Tryd.prog.info? 68).map (fun i => (i.zero, i.size, i.bytes)) = some (some (.int .u64 0), 1, 8) := by kernel_rfl

theorem made_zero (q : IntKind) (n : Nat) : (madeCells (Value.int q 0).cells (n * 1)).toList = (List.replicate n (0 : Int)).map (Value.int q) := by
  unfold madeCells
  apply List.ext_getElem
  · simp [Value.cells]
  · intro i h1 h2
    simp [Value.cells, Nat.mod_one]

theorem set_take {P : List Int} {i : Nat} {x : Int} (h : i < P.length) : (P.set i x).take (i + 1) = P.take i ++ [x] := by
  rw [List.take_add_one, List.getElem?_set_self h, List.take_set_of_le (Nat.le_refl _)]
  rfl

set_option maxRecDepth 100000 in
set_option maxHeartbeats 4000000 in
theorem wholeParts_any (t s : Int) (a : Option Addr) (len cap : Nat) (zs : List Int) (w : World) (hl : zs.length = len) (h1 : 1 ≤ len) (h2 : len ≤ 4096) (h : Nums .i64 w a zs) (ht0 : 0 ≤ t) (ht1 : t ≤ 1000000000000000)
    (hs0 : 1 ≤ s) (hs1 : s ≤ 4096000000000000000) (hf : ∀ z ∈ zs, fitW z ∧ z ≤ s) :
    Calls Tryd.prog 43 #[.int .i64 t, .slice a len cap, .int .u64 s] w fun e w' => ∃ g j, e = .returned (.tuple #[.slice (some ⟨g, 0, none⟩) len len, .slice (some ⟨j, 0, none⟩) len len]) ∧
      w'.ownsRow w.heap.size 22 1 (.slice (some ⟨g, 0, none⟩) len len) len ((quots t s zs).map (Value.int .i64)) ∧ w'.ownsRow w.heap.size 68 1 (.slice (some ⟨j, 0, none⟩) len len) len ((rests t s zs).map (Value.int .u64)) ∧ Below w.heap.size w w' := by
  obtain ⟨iA, hiA, hzA0, hzA1, hzA2⟩ := info_parts infoMoney
  obtain ⟨iB, hiB, hzB0, hzB1, hzB2⟩ := info_parts infoU64
  have HL := hide hl
  have HR := hide h
  have HF := hide hf
  clear hl h hf
  go_enter Tryd.func43, Tryd.ntmps43
  go_wp2_with (first
    | (at_make; refine wpList_make_full _ rfl _ _ 41 rfl w.heap.size 22 iA (.int .i64 0) 1 Tryd.underlying41 hiA hzA0 hzA1 .i64 .i64 _ _ len rfl rfl rfl rfl (by rw [hzA2]; omega) (by unfold maxLen; omega) (Nat.le_refl _) ?_; intro w1 hown hgrow)
    | (at_make; refine wpList_make_full _ rfl _ _ 80 rfl w.heap.size 68 iB (.int .u64 0) 1 Tryd.underlying80 hiB hzB0 hzB1 .i64 .i64 _ _ len rfl rfl rfl rfl (by rw [hzB2]; omega) (by unfold maxLen; omega) (World.grownBy.size (by assumption)) ?_; intro w2 hownR hgrow2))
  rw [made_zero] at hown hownR
  have hown2 := hown.kept hgrow2 (.inr (by simp [Value.ownBlock]))
  have hbel : Below w.heap.size w w2 := ((Below.refl w.heap.size w).grown hgrow (Nat.le_refl _) (by simp)).grown hgrow2 hgrow.size (by simp)
  have hgj : w.heap.size ≠ w1.heap.size := by
    have h := own_apart hown2 hownR (by decide)
    simp [Value.ownBlock] at h
    omega
  have hjle := hgrow.size
  generalize w1.heap.size = j at *
  clear hown hgrow hgrow2
  go_loopw [12, 13, 14, 15, 10, 11, 24] (fun _ _ _ _ _ _ i wr => ∃ (k : Nat) (ps rs : List Int), k ≤ len ∧ i = .int .i64 k ∧ ps.length = len ∧ rs.length = len ∧ Hid (ps.take k = quots t s (zs.take k)) ∧ Hid (rs.take k = rests t s (zs.take k)) ∧
      wr.ownsRow w.heap.size 22 1 (.slice (some ⟨w.heap.size, 0, none⟩) len len) len (ps.map (Value.int .i64)) ∧ wr.ownsRow w.heap.size 68 1 (.slice (some ⟨j, 0, none⟩) len len) len (rs.map (Value.int .u64)) ∧ Below w.heap.size w wr) (fun _ _ _ _ _ _ i _ => len - (intOf i).toNat)
  case atStart => exact ⟨0, List.replicate len 0, List.replicate len 0, by omega, rfl, by simp, by simp, by simp [Hid, quots], by simp [Hid, rests], hown2, hownR, hbel⟩
  case round =>
    clear hown2 hownR hbel
    obtain ⟨k, ps, rs, hk, rfl, hps, hrs, HPS, HRS, hown, hownR, hbel⟩ := hrel
    by_cases hlt : k < len
    · obtain ⟨b, off, c, ha, hcx, HT, HC, HI⟩ := Nums.get HR.out HL.out hbel hlt
      subst ha
      have hf := HF.out c HI.out
      have hc0 := hf.1.1
      have hc1 := hf.1.2
      have hcs := hf.2
      have hqb := quot_bounds ht0 hc0 hcs hs0
      have HT1 := hide (quot_take (t := t) (s := s) HT.out rfl)
      have HT2 := hide (rest_take (t := t) (s := s) HT.out rfl)
      have CM := hide (fun w => mul64_any t c w ht0 hc0 (by omega) (by omega))
      obtain ⟨p, hp⟩ : ∃ p, p = t * c := ⟨_, rfl⟩
      have bp : 0 ≤ p ∧ p ≤ 1000000000000000 * s := by
        rw [hp]
        refine ⟨Int.mul_nonneg ht0 hc0, ?_⟩
        have x1 : t * c ≤ 1000000000000000 * c := Int.mul_le_mul_of_nonneg_right ht1 hc0
        omega
      rw [← hp] at CM hqb HT1 HT2
      obtain ⟨hi, ehi⟩ : ∃ x, p / 18446744073709551616 = x := ⟨_, rfl⟩
      obtain ⟨lo, elo⟩ : ∃ x, p % 18446744073709551616 = x := ⟨_, rfl⟩
      rw [ehi, elo] at CM
      have bhi : 0 ≤ hi ∧ hi < s := by omega
      have blo : 0 ≤ lo ∧ lo ≤ 18446744073709551615 := by omega
      have CV := hide (fun w => div64_any hi lo s w bhi.1 bhi.2 (by omega) blo.1 blo.2)
      rw [show hi * 18446744073709551616 + lo = p by omega] at CV
      generalize p / s = q at *
      generalize p % s = r at *
      clear ehi elo hp bp
      have hck : wr.cell? ⟨w.heap.size, k, none⟩ = some (.int .i64 (ps.getD k 0)) := by
        rw [hown.cellAt k (by omega)]; simp [List.getD, show k < ps.length by omega]
      have hrk : wr.cell? ⟨j, k, none⟩ = some (.int .u64 (rs.getD k 0)) := by
        rw [hownR.cellAt k (by omega)]; simp [List.getD, show k < rs.length by omega]
      generalize ps.getD k 0 = x1 at *
      generalize rs.getD k 0 = x2 at *
      have hf1 := hown.frozenAt k
      have hf2 := hownR.frozenAt k
      obtain ⟨ho2, hg2⟩ := hown.stored k (.int .i64 q)
      have hr2 := hownR.kept hg2 (.inr (by simp [Value.ownBlock]; omega))
      obtain ⟨hr3, hg3⟩ := hr2.stored k (.int .u64 r)
      have ho3 := ho2.kept hg3 (.inr (by simp [Value.ownBlock]; omega))
      have hb3 : Below w.heap.size w ((wr.setCell ⟨w.heap.size, k, none⟩ (.int .i64 q)).setCell ⟨j, k, none⟩ (.int .u64 r)) := (hbel.setCell (by simp) _).setCell (by simpa using hjle) _
      have hrk2 : (wr.setCell ⟨w.heap.size, k, none⟩ (.int .i64 q)).cell? ⟨j, k, none⟩ = some (.int .u64 x2) := by
        rw [World.cell?_setCell_other _ _ _ _ (by intro e; simp only [Addr.mk.injEq] at e; omega)]; exact hrk
      rw [← List.map_set] at ho3 hr3
      have HO := hide ho3
      have HRR := hide hr3
      have HB := hide hb3
      clear ho3 hr3 hb3 ho2 hr2 hg2 hg3 hown hownR
      go_wp2_with fail
      refine (CM.out _).mono ?_
      rintro e w3 ⟨rfl, hww⟩; subst w3
      go_wp2_with fail
      refine (CV.out _).mono ?_
      rintro e w3 ⟨rfl, rfl | rfl⟩
      · go_wp2_with fail
        go_roundw
        case rel => exact ⟨k + 1, ps.set k q, rs.set k r, by omega, by go_num, by rw [List.length_set]; exact hps, by rw [List.length_set]; exact hrs, by unfold Hid; rw [set_take (by omega), HPS.out, HT1.out], by unfold Hid; rw [set_take (by omega), HRS.out, HT2.out], HO.out, HRR.out, HB.out⟩
        case measure => simp [intOf]; omega
      · go_wp2_with fail
        go_roundw
        case rel => exact ⟨k + 1, ps.set k q, rs.set k r, by omega, by go_num, by rw [List.length_set]; exact hps, by rw [List.length_set]; exact hrs, by unfold Hid; rw [set_take (by omega), HPS.out, HT1.out], by unfold Hid; rw [set_take (by omega), HRS.out, HT2.out], HO.out.drew, HRR.out.drew, HB.out.drew⟩
        case measure => simp [intOf]; omega
    · have hke : k = len := by omega
      subst hke
      have e1 : ps = quots t s zs := by
        have := HPS.out; rwa [List.take_of_length_le (by omega), List.take_of_length_le (by rw [HL.out]; omega)] at this
      have e2 : rs = rests t s zs := by
        have := HRS.out; rwa [List.take_of_length_le (by omega), List.take_of_length_le (by rw [HL.out]; omega)] at this
      subst e1 e2
      have HO := hide hown
      have HRR := hide hownR
      clear hown hownR
      go_wp2_with fail
      go_ret2
      exact ⟨_, _, rfl, HO.out, HRR.out, hbel⟩

end Go.Proofs.YthpbadnedhjncaaDoor
