/- FastCone, walked. -/
import Derived.Test.YthifoamnmhlghaaDifr
import Derived.Test.YthifoamnmhlghaaCnp
import Derived.Test.YthifoamnmhlghaaCn1C
import Derived.Test.YthifoamnmhlghaaWks
namespace Go.Proofs.Ythifoamnmhlghaa.Fa
open Go.RowKit

theorem rep_rowB {n : Nat} : Array.replicate n (Value.bool false) = (rowB n fun _ => false).toArray := by
  unfold rowB
  rw [List.map_const', List.length_range, List.toArray_replicate]
def inI (l : List Int) (q : Int) : Int := if q ∈ l then 1 else 0
theorem inI_le {l : List Int} {q : Int} : 0 ≤ inI l q ∧ inI l q ≤ 1 := by unfold inI; split <;> omega
theorem take_mem {l : List Int} {k : Nat} {x q : Int} (hx : l[k]? = some x) : q ∈ l.take (k + 1) ↔ q ∈ l.take k ∨ q = x := by
  rw [take_snoc hx]
  simp
theorem inI_next {l : List Int} {k : Nat} {x : Int} (hn : l.Nodup) (hx : l[k]? = some x) : inI (l.take k) x = 0 ∧ ∀ q, inI (l.take (k + 1)) q = upd (inI (l.take k)) x 1 q := by
  have hnot : x ∉ l.take k := fun hm => by
    have h1 : (l.take (k + 1)).Nodup := (List.take_sublist _ _).nodup hn
    rw [take_snoc hx, List.nodup_append] at h1
    exact h1.2.2 _ hm _ (List.mem_singleton.2 rfl) rfl
  refine ⟨by unfold inI; rw [if_neg hnot], fun q => ?_⟩
  by_cases e : q = x
  · subst e
    rw [upd_at]
    unfold inI
    rw [if_pos ((take_mem hx).2 (.inr rfl))]
  · rw [upd_off e]
    unfold inI
    have : q ∈ l.take (k + 1) ↔ q ∈ l.take k := by rw [take_mem hx]; simp [e]
    by_cases h2 : q ∈ l.take k
    · rw [if_pos (this.2 h2), if_pos h2]
    · rw [if_neg fun h3 => h2 (this.1 h3), if_neg h2]
theorem rises_nd {l : List Int} {b : Int} (h : risesM l b = true) : l.Nodup ∧ ∀ x ∈ l, 0 ≤ x ∧ x < b := by
  obtain ⟨h1, h2⟩ := risesF_in2 (by omega) h
  exact ⟨pw_nodup h2, fun x hx => by have := h1 x hx; omega⟩
theorem fault_rises {T : Th} {F : List Int} (h : faultM T F = 0) : (checkM T).1 = 0 ∧ risesM F T.lits = true := by
  unfold faultM at h
  by_cases hc : (checkM T).1 ≠ 0
  · rw [if_pos hc] at h; exact absurd h hc
  · rw [if_neg hc] at h
    refine ⟨Classical.not_not.1 hc, ?_⟩
    cases e : risesM F T.lits with
    | true => rfl
    | false => rw [e] at h; simp at h
/-- What differs lies in the cone. -/
theorem differ_in {T : Th} {A B mA mB : List Int} {n kA kB : Nat} {R : List Bool} (hA : Pf T A n) (hB : Pf T B n) (hsA : Sol T A mA kA) (hsB : Sol T B mB kB) (hR : ∀ y, 0 ≤ y → (Cz.hit R y = true ↔ Cz.Rch T (soL (fun q => inI A q - inI B q != 0) n) y)) {x : Int} (hx : x ∈ soL (difP mA mB) n) : Cz.hit R x = true := by
  obtain ⟨q, rfl, hq, hd⟩ := soL_mem.1 hx
  apply Classical.byContradiction
  intro hn
  have hnr : ¬ Cz.Rch T (soL (fun q => inI A q - inI B q != 0) n) (q : Int) := fun hr => hn ((hR q (by omega)).2 hr)
  have hAB : ∀ x, ¬ Cz.Rch T (soL (fun q => inI A q - inI B q != 0) n) x → (x ∈ A ↔ x ∈ B) := fun x hx => by
    by_cases h0 : 0 ≤ x ∧ x < (n : Int)
    · obtain ⟨y, rfl⟩ := Int.eq_ofNat_of_zero_le h0.1
      have hno : ¬ ((y : Int) ∈ soL (fun q => inI A q - inI B q != 0) n) := fun hm => hx (.base hm)
      have hz : inI A (y : Int) - inI B (y : Int) = 0 := by
        apply Classical.byContradiction
        intro h1
        exact hno (soL_mem.2 ⟨y, rfl, by omega, by simpa using h1⟩)
      unfold inI at hz
      by_cases h1 : (y : Int) ∈ A <;> by_cases h2 : (y : Int) ∈ B
      · simp [h1, h2]
      · rw [if_pos h1, if_neg h2] at hz; omega
      · rw [if_neg h1, if_pos h2] at hz; omega
      · simp [h1, h2]
    · exact ⟨fun h1 => absurd (hA.fact x h1) h0, fun h1 => absurd (hB.fact x h1) h0⟩
  have := cone_same hA hB hsA hsB hAB hq hnr
  unfold difP at hd
  rw [Int.toNat_natCast, this] at hd
  simp at hd
theorem places_in {R : List Bool} {n : Nat} (hl : R.length = n) {x : Int} : x ∈ Cz.placesM R ↔ 0 ≤ x ∧ x < (n : Int) ∧ Cz.hit R x = true := by
  show x ∈ Cz.placesK R R.length ↔ _
  unfold Cz.placesK Cz.hit
  rw [List.mem_map]
  constructor
  · rintro ⟨q, hq, rfl⟩
    obtain ⟨h1, h2⟩ := List.mem_filter.1 hq
    have := List.mem_range.1 h1
    exact ⟨Int.natCast_nonneg _, by show (q : Int) < (n : Int); omega, h2⟩
  · rintro ⟨h0, h1, h2⟩
    obtain ⟨q, rfl⟩ := Int.eq_ofNat_of_zero_le h0
    exact ⟨q, List.mem_filter.2 ⟨List.mem_range.2 (by omega), h2⟩, rfl⟩
set_option maxRecDepth 100000 in
set_option maxHeartbeats 12800000 in
theorem cone_law {w : World} {T : Th} {A B : List Int} {fa ra ba ea xa : Option Addr} {fc rc bc ec xc : Nat} (h : TA w.heap.size w T fa fc ra rc ba bc) (hA : Ints w.heap.size w A (.slice ea A.length ec)) (hB : Ints w.heap.size w B (.slice xa B.length xc)) :
    Calls Try.prog 7 #[tv T fa fc ra rc ba bc, .slice ea A.length ec, .slice xa B.length xc] w fun e w' => e = .returned (.bool true) ∧ Below w.heap.size w w' := by
  obtain ⟨iI, hiI, zI0, zI1, zI2⟩ := info_parts infoI
  obtain ⟨iB, hiB, zB0, zB1, zB2⟩ := info_parts infoBo
  have hBw := below_new w (.cells #[.int .i64 T.lits, .slice fa T.foes.length fc, .slice ra T.rules.length rc, .slice ba T.beats.length bc] 25)
  have hX := heap_alloc_new w (.cells #[.int .i64 T.lits, .slice fa T.foes.length fc, .slice ra T.rules.length rc, .slice ba T.beats.length bc] 25)
  have HTA := hide (TR.go hBw h)
  have HA := hide (Ints.go hBw hA)
  have HB := hide (Ints.go hBw hB)
  have HBw := hide hBw
  have HX := hide hX
  clear h hBw hA hB
  go_enter Try.func7, Try.ntmps7
  go_upto_region 1 with fail
  generalize w.alloc (.cells #[.int .i64 T.lits, .slice fa T.foes.length fc, .slice ra T.rules.length rc, .slice ba T.beats.length bc] 25) = W at *
  clear hX
  have CA := hide (works_any (w := W))
  go_upto_region 3 with (go_at_call 8; refine CA.out.mono ?_; rintro _ w1 ⟨rfl, hw1⟩; have HW1 := hide hw1; clear hw1)
  have HX1 := hide ((HW1.out.block _ (loc_lt HX.out)).trans HX.out)
  have HTA1 := hide (TR.go HW1.out HTA.out)
  have HA1 := hide (Ints.go HW1.out HA.out)
  have HB1 := hide (Ints.go HW1.out HB.out)
  have HBw1 := hide (HBw.out.trans (HW1.out.mono HBw.out.size))
  clear CA HX HTA HA HB HBw HW1
  obtain ⟨-, c0, c1, c2, c3⟩ := Bt.of HX1.out
  by_cases hbad : faultM T A ≠ 0 ∨ faultM T A = 0 ∧ risesM B T.lits = false
  · have CD := hide (Differ_bad HTA1.out HA1.out HB1.out hbad)
    clear hbad
    go_wp2_with (go_at_call 14; refine CD.out.mono ?_; rintro _ w2 ⟨c, hc, rfl, hw2⟩; have HW2 := hide hw2; clear hw2)
    go_ret
    exact ⟨rfl, HBw1.out.trans (HW2.out.mono HBw1.out.size)⟩
  · have h0 : faultM T A = 0 := Classical.byContradiction fun h5 => hbad (.inl h5)
    have hr : risesM B T.lits = true := by
      cases e : risesM B T.lits with
      | true => rfl
      | false => exact absurd (.inr ⟨h0, e⟩) hbad
    obtain ⟨hck, hrA⟩ := fault_rises h0
    have h1 : faultM T B = 0 := by unfold faultM; rw [if_neg (by rw [hck]; decide), hr]; rfl
    obtain ⟨n, hn⟩ : ∃ n, T.lits.toNat = n := ⟨_, rfl⟩
    have hpA : Pf T A n := by rw [← hn]; exact pf_of h0
    have hpB : Pf T B n := by rw [← hn]; exact pf_of h1
    obtain ⟨mA, kA, hsA⟩ := sol_exists hpA
    obtain ⟨mB, kB, hsB⟩ := sol_exists hpB
    have CD := hide (Differ_ok HTA1.out HA1.out HB1.out h0 h1 hn hsA hsB)
    have HPA := hide hpA
    have HPB := hide hpB
    have HDI := hide fun (R : List Bool) (hR : ∀ y, 0 ≤ y → (Cz.hit R y = true ↔ Cz.Rch T (soL (fun q => inI A q - inI B q != 0) n) y)) (x : Int) (hx : x ∈ soL (difP mA mB) n) => differ_in hpA hpB hsA hsB hR hx
    have HLN := hide hpA.ln
    have hn4 := hpA.n4
    have HNA := hide (rises_nd hrA)
    have HNB := hide (rises_nd hr)
    have HCK := hide hck
    have hal : A.length ≤ n := by have := nodup_le (L := (List.range n).map Int.ofNat) (rises_nd hrA).1 (fun x hx => by obtain ⟨x0, x1⟩ := hpA.fact x hx; obtain ⟨q, rfl⟩ := Int.eq_ofNat_of_zero_le x0; exact List.mem_map.2 ⟨q, List.mem_range.2 (by omega), rfl⟩); simpa using this
    have hbl : B.length ≤ n := by have := nodup_le (L := (List.range n).map Int.ofNat) (rises_nd hr).1 (fun x hx => by obtain ⟨x0, x1⟩ := hpB.fact x hx; obtain ⟨q, rfl⟩ := Int.eq_ofNat_of_zero_le x0; exact List.mem_map.2 ⟨q, List.mem_range.2 (by omega), rfl⟩); simpa using this
    clear hbad h0 h1 hr hrA hck hn hpA hpB hsA hsB
    obtain ⟨DL, hDL⟩ : ∃ DL, soL (difP mA mB) n = DL := ⟨_, rfl⟩
    have hdl : DL.length ≤ n := by rw [← hDL]; exact soL_len
    have HDM : Hid (∀ x ∈ DL, 0 ≤ x ∧ x < (n : Int)) := hide fun x hx => by
      rw [← hDL] at hx
      obtain ⟨q, rfl, hq, -⟩ := soL_mem.1 hx
      omega
    rw [hDL] at CD HDI
    clear hDL
    go_upto_region 4 with (go_at_call 14; refine CD.out.mono ?_; rintro _ w2 ⟨da, dc, rfl, hown, hw2⟩; have HDO := hide hown; have HW2 := hide hw2; clear hown hw2)
    have HX2 := hide ((HW2.out.block _ (loc_lt HX1.out)).trans HX1.out)
    have HTA2 := hide (TR.go HW2.out HTA1.out)
    have HA2 := hide (Ints.go HW2.out HA1.out)
    have HB2 := hide (Ints.go HW2.out HB1.out)
    have HBw2 := hide (HBw1.out.trans (HW2.out.mono HBw1.out.size))
    have HD2 := hide (owns_down HDO.out (Nat.zero_le _))
    clear c0 c1 c2 c3 CD HX1 HTA1 HA1 HB1 HBw1 HW2 HDO
    have HCT : Hid (∀ X, Below w2.heap.size w2 X → X.cell? ⟨w.heap.size, 0, none⟩ = some (.int .i64 (n : Int)) ∧ X.cell? ⟨w.heap.size, 1, none⟩ = some (.slice fa T.foes.length fc) ∧ X.cell? ⟨w.heap.size, 2, none⟩ = some (.slice ra T.rules.length rc) ∧ X.cell? ⟨w.heap.size, 3, none⟩ = some (.slice ba T.beats.length bc)) := hide fun X hX => by
      obtain ⟨-, c0, c1, c2, c3⟩ := Bt.of ((hX.block _ (loc_lt HX2.out)).trans HX2.out)
      rw [HLN.out] at c0
      exact ⟨c0, c1, c2, c3⟩
    obtain ⟨c0, -, -, -⟩ := HCT.out w2 (Below.refl _ _)
    have hm1 := fun W => run_make_fix (P := Try.prog) Try.underlying26 hiI zI0 zI1 rfl n (by rw [zI2]; omega) (by unfold maxLen; omega) W
    go_upto_region 8 with fail
    clear c0 hm1
    have hA0 := below_new w2 (.cells (Array.replicate n (.int .i64 0)) 3)
    have hF0 : Fx w2.heap.size 3 (rowI n (inI (A.take 0))) (w2.alloc (.cells (Array.replicate n (.int .i64 0)) 3)) := by
      have e1 : rowI n (inI (A.take 0)) = rowI n fun _ => 0 := by unfold rowI; refine List.map_congr_left fun q _ => ?_; unfold inI; simp
      have e := heap_alloc_new w2 (.cells (Array.replicate n (.int .i64 0)) 3)
      unfold Fx
      rw [e1, ← rep_rowI]
      exact e
    have HF0 := hide hF0
    have HL0 := hide hA0
    clear hF0 hA0
    generalize hsb : w2.heap.size = sb at *
    go_loopw [10] (fun x wr => ∃ k : Nat, k ≤ A.length ∧ x = .int .i64 k ∧ Hid (Fx sb 3 (rowI n (inI (A.take k))) wr) ∧ Hid (Below w2.heap.size w2 wr)) (fun x _ => A.length - (intOf x).toNat)
    case atStart => exact ⟨0, by omega, rfl, HF0, by rw [hsb]; exact HL0⟩
    case round =>
      clear HF0 HL0
      obtain ⟨k, hk, rfl, HFX, HBL⟩ := hrel
      by_cases hlt : k < A.length
      · obtain ⟨x, hx⟩ := get_at hlt
        obtain ⟨x0, x1⟩ := HPA.out.fact x (List.mem_of_getElem? hx)
        obtain ⟨xm, rfl⟩ := Int.eq_ofNat_of_zero_le x0
        have hxn : xm < n := by omega
        obtain ⟨ga, oa, rfl, cx⟩ := ((HA2.out.at1).below HBL.out).get hx
        obtain ⟨hz, hnx⟩ := inI_next HNA.out.1 hx
        have q1 := HFX.out.get (rowI_at hxn)
        rw [hz] at q1
        have q2 := HFX.out.frz xm
        have HF2 : Hid (Fx sb 3 (rowI n (inI (A.take (k + 1)))) (wr.setCell ⟨sb, xm, none⟩ (.int .i64 1))) := hide (by
          have := HFX.out.set xm (.int .i64 1)
          rw [rowI_set hxn] at this
          rw [show inI (A.take (k + 1)) = upd (inI (A.take k)) (xm : Int) 1 from funext hnx]
          exact this)
        have HB2 := hide (HBL.out.setCell (p := ⟨sb, xm, none⟩) (by rw [hsb]; exact Nat.le_refl _) (.int .i64 1))
        clear hx x0 x1 hz hnx HFX HBL
        go_wp2_with fail
        go_roundw
        case rel => exact ⟨k + 1, by omega, by go_num, HF2, HB2⟩
        case measure => simp [intOf]; omega
      · have hkn : k = A.length := by omega
        rw [hkn, List.take_length] at HFX
        go_upto_region 12 with fail
        clear hkn hlt hk
        have HF0 : Hid (Fx sb 3 (rowI n (fun q => inI A q - inI (B.take 0) q)) wr) := hide (by
          have e1 : (fun q => inI A q - inI (B.take 0) q) = inI A := funext fun q => by show inI A q - inI [] q = _; unfold inI; simp
          rw [e1]; exact HFX.out)
        clear HFX
        go_loopw [11] (fun x wr => ∃ k : Nat, k ≤ B.length ∧ x = .int .i64 k ∧ Hid (Fx sb 3 (rowI n (fun q => inI A q - inI (B.take k) q)) wr) ∧ Hid (Below w2.heap.size w2 wr)) (fun x _ => B.length - (intOf x).toNat)
        case atStart => exact ⟨0, by omega, rfl, HF0, HBL⟩
        case round =>
          clear HF0 HBL
          obtain ⟨k, hk, rfl, HFX, HBL⟩ := hrel
          by_cases hlt : k < B.length
          · obtain ⟨x, hx⟩ := get_at hlt
            obtain ⟨x0, x1⟩ := HPB.out.fact x (List.mem_of_getElem? hx)
            obtain ⟨xm, rfl⟩ := Int.eq_ofNat_of_zero_le x0
            have hxn : xm < n := by omega
            obtain ⟨ga, oa, rfl, cx⟩ := ((HB2.out.at1).below HBL.out).get hx
            obtain ⟨hz, hnx⟩ := inI_next HNB.out.1 hx
            have q1 := HFX.out.get (rowI_at hxn)
            rw [hz, Int.sub_zero] at q1
            have q2 := HFX.out.frz xm
            have hin := inI_le (l := A) (q := (xm : Int))
            have HF2 : Hid (Fx sb 3 (rowI n (fun q => inI A q - inI (B.take (k + 1)) q)) (wr.setCell ⟨sb, xm, none⟩ (.int .i64 (inI A xm - 1)))) := hide (by
              have := HFX.out.set xm (.int .i64 (inI A xm - 1))
              rw [rowI_set hxn] at this
              rw [show (fun q => inI A q - inI (B.take (k + 1)) q) = upd (fun q => inI A q - inI (B.take k) q) (xm : Int) (inI A xm - 1) from funext fun q => by
                rw [hnx q]
                by_cases e : q = (xm : Int)
                · subst e; rw [upd_at, upd_at]
                · rw [upd_off e, upd_off e]]
              exact this)
            have HB5 := hide (HBL.out.setCell (p := ⟨sb, xm, none⟩) (by rw [hsb]; exact Nat.le_refl _) (.int .i64 (inI A xm - 1)))
            generalize inI A xm = iv at *
            clear hx x0 x1 hz hnx HFX HBL
            go_wp2_with fail
            go_roundw
            case rel => exact ⟨k + 1, by omega, by go_num, HF2, HB5⟩
            case measure => simp [intOf]; omega
          · have hkn : k = B.length := by omega
            rw [hkn, List.take_length] at HFX
            go_upto_region 17 with fail
            clear hkn hlt hk
            obtain ⟨wx, rfl⟩ : ∃ wx, wx = wr := ⟨wr, rfl⟩
            have HSL := hide (HBL.out)
            have HSB : Hid (Below sb w2 wx) := hide (by rw [← hsb]; exact HBL.out)
            clear HBL
            obtain ⟨OD, hOD⟩ : ∃ OD : Nat → List Int, (fun k => soL (fun q => inI A q - inI B q != 0) k) = OD := ⟨_, rfl⟩
            have HOS : Hid (∀ k : Nat, OD (k + 1) = if inI A k - inI B k != 0 then OD k ++ [(k : Int)] else OD k) := hide fun k => by rw [← hOD]; exact soL_succ
            have HOL : Hid (∀ k : Nat, (OD k).length ≤ k) := hide fun k => by rw [← hOD]; exact soL_len
            have HO0 : Hid (OD 0 = []) := hide (by rw [← hOD]; rfl)
            have HON : Hid (OD n = soL (fun q => inI A q - inI B q != 0) n) := hide (by rw [← hOD])
            clear hOD
            go_loopw [12, 13] (fun y x wv => ∃ (k : Nat) (va : Option Addr) (vc : Nat), k ≤ n ∧ x = .int .i64 k ∧ y = .slice va (OD k).length vc ∧ Hid (wv.ownsRow wx.heap.size 3 1 (.slice va (OD k).length vc) (OD k).length (ints (OD k))) ∧ Hid (Below wx.heap.size wx wv)) (fun _ x _ => n - (intOf x).toNat)
            case atStart => exact ⟨0, none, 0, by omega, rfl, by rw [HO0.out]; rfl, by rw [HO0.out]; exact hide (World.ownsRow_nil _ _ _ _), hide (Below.refl _ _)⟩
            case round =>
              obtain ⟨k, va, vc, hk, rfl, rfl, HRow, HBv⟩ := hrel
              have HSL2 := hide (HSL.out.trans (HBv.out.mono HSL.out.size))
              have HSW : Hid (Below sb w2 wr) := hide (by rw [← hsb]; exact HSL2.out)
              obtain ⟨c0, -, -, -⟩ := HCT.out wr HSW.out
              by_cases hlt : k < n
              · have q1 := (HFX.out.keep (HBv.out.block _ HFX.out.lt)).get (rowI_at hlt)
                have hlen := HOL.out k
                have hsz : wx.heap.size ≤ wr.heap.size := HBv.out.size
                cases hb : (inI A k - inI B k != 0) with
                | true =>
                  have HS : Hid (OD (k + 1) = OD k ++ [(k : Int)]) := hide (by rw [HOS.out, hb]; rfl)
                  have hA := below_new wr (.cells #[.int .i64 k] 3)
                  have HROW := hide (owns_keep HRow.out fun g hg => hA.block g (owns_lt HRow.out hg))
                  have HHI : Hid (∀ g, Value.ownBlock (.slice va (OD k).length vc) = some g → wx.heap.size ≤ g) := hide fun g e => (HRow.out.lt g e).1
                  have HA5 := hide hA
                  have HT : Hid (ints (OD k) ++ [.int .i64 (k : Int)] = ints (OD (k + 1))) := hide (by rw [HS.out]; unfold ints; simp)
                  have HLE : Hid ((OD k).length + 1 = (OD (k + 1)).length) := hide (by rw [HS.out]; simp)
                  generalize (OD k).length = sl0 at *
                  generalize inI A k - inI B k = dv at *
                  clear hA HRow
                  go_wp2_with (at_builtin; go_must (refine wpList_append_two _ rfl _ _ 26 rfl wx.heap.size 3 iI _ 1 8 Try.underlying26 hiI zI0 zI1 zI2 rfl (by decide) (.slice va sl0 vc) sl0 (ints (OD k)) rfl HROW.out ⟨wr.heap.size, 0, none⟩ 1 [.int .i64 k] rfl rfl (cell_one_new _ _ _) (by intro u hu; simp at hu; subst hu; rfl) (by unfold maxLen; omega) (by omega) (by simp; omega) ?_); intro g4 cap4 w4 hown4 hg4; rw [HT.out, HLE.out] at hown4; have HO4 := hide hown4; have HB4 : Hid (Below wx.heap.size wx w4) := (hide (HBv.out.trans ((HA5.out.mono HBv.out.size).trans (by rcases hg4 with ⟨h1, h2⟩ | ⟨h1, h2⟩; exact (Fr.of_grown (Z := fun k => wx.heap.size ≤ k) h2 (fun k e => by cases e; exact HHI.out _ h1)).below fun k hk => ⟨by simp; omega, by omega⟩; exact (Fr.of_grown (Z := fun k => wx.heap.size ≤ k) h2 (fun k e => by cases e)).below fun k hk => ⟨by simp; omega, by omega⟩)))); clear hown4 hg4)
                  go_roundw
                  case rel => exact ⟨k + 1, some ⟨g4, 0, none⟩, cap4, by omega, by go_num, by rw [HLE.out], HO4, HB4⟩
                  case measure => simp [intOf]; omega
                | false =>
                  have HS : Hid (OD (k + 1) = OD k) := hide (by rw [HOS.out, hb]; rfl)
                  generalize inI A k - inI B k = dv at *
                  go_wp2_with fail
                  go_roundw
                  case rel => exact ⟨k + 1, va, vc, by omega, by go_num, by rw [HS.out], by rw [HS.out]; exact HRow, HBv⟩
                  case measure => simp [intOf]; omega
              · have hkn : n = k := by omega
                subst hkn
                go_upto_region 21 with fail
                clear c0 hlt hk
                have HTA3 := hide (TR.go HSL2.out (by have := HTA2.out; rw [← hsb] at this; exact this))
                have HOI : Hid (∀ x ∈ OD n, 0 ≤ x ∧ x < T.lits) := hide fun x hx => by
                  rw [HON.out] at hx
                  obtain ⟨q, rfl, hq, -⟩ := soL_mem.1 hx
                  rw [HLN.out]
                  omega
                have hol := HOL.out n
                have CC := hide (Cz.cone_any HTA3.out (Cz.ints_owns HRow.out (Nat.le_refl _) (by omega)))
                obtain ⟨c0, c1, c2, c3⟩ := HCT.out wr HSW.out
                rw [← HLN.out] at c0
                go_upto_region 22 with (go_at_call 15; refine CC.out.mono ?_; rintro _ w5 ⟨hcnd, hw5⟩; rcases hcnd with ⟨hx1, -⟩ | ⟨-, ⟨x, hx1, hx2⟩, -⟩ | ⟨-, -, R, ca, cc, hRl, hRh, rfl, hown5⟩; exact absurd HCK.out hx1; exact absurd (HOI.out x hx1) hx2; have HRL := hide hRl; have HRH := hide hRh; have HCO := hide hown5; have HW5 := hide hw5; clear hRl hRh hown5 hw5)
                have HS5 := hide (HSL2.out.trans (HW5.out.mono HSL2.out.size))
                have HS6 : Hid (Below sb w2 w5) := hide (by rw [← hsb]; exact HS5.out)
                have HRN : Hid (R.length = n) := hide (by have h1 := HRL.out; have h2 := HLN.out; omega)
                obtain ⟨PL, hPL⟩ : ∃ PL, Cz.placesM R = PL := ⟨_, rfl⟩
                have HPM : Hid (∀ x, x ∈ PL ↔ 0 ≤ x ∧ x < (n : Int) ∧ Cz.hit R x = true) := hide fun x => by rw [← hPL]; exact places_in HRN.out
                have hpl : PL.length ≤ n := by
                  rw [← hPL, ← HRN.out]
                  show (Cz.placesK R R.length).length ≤ _
                  unfold Cz.placesK
                  rw [List.length_map]
                  exact Nat.le_trans (List.length_filter_le _ _) (by simp)
                have HDP : Hid (∀ x ∈ DL, x ∈ PL) := hide fun x hx => (HPM.out x).2 ⟨(HDM.out x hx).1, (HDM.out x hx).2, HDI.out R (fun y hy => by rw [HRH.out y hy, HON.out]) x hx⟩
                rw [hPL] at HCO ⊢
                have HCI := hide (Cz.ints_owns HCO.out (Nat.le_refl _) (by omega))
                have HD5 := hide (Ints.go HS5.out (Cz.ints_owns HD2.out (by rw [hsb]; exact Nat.le_refl _) (by omega)))
                have HBE := hide (HBw2.out.trans (HS6.out.mono (by rw [← hsb]; exact HBw2.out.size)))
                obtain ⟨c0, -, -, -⟩ := HCT.out w5 HS6.out
                clear hPL HCO HRL HRH HRN HW5 HTA3 HRow HOI CC c1 c2 c3 HON HOL HOS HO0 HDI HPA HPB
                have hm2 := fun W => run_make_fix (P := Try.prog) Try.underlying50 hiB zB0 zB1 rfl n (by rw [zB2]; omega) (by unfold maxLen; omega) W
                go_upto_region 24 with fail
                clear c0 hm2
                have hA5 := below_new w5 (.cells (Array.replicate n (.bool false)) 4)
                have HF5 : Hid (Fx w5.heap.size 4 (rowB n (fun q => decide (q ∈ PL.take 0))) (w5.alloc (.cells (Array.replicate n (.bool false)) 4))) := hide (by
                  have e1 : rowB n (fun q => decide (q ∈ PL.take 0)) = rowB n fun _ => false := by unfold rowB; refine List.map_congr_left fun q _ => ?_; simp
                  have e := heap_alloc_new w5 (.cells (Array.replicate n (.bool false)) 4)
                  unfold Fx
                  rw [e1, ← rep_rowB]
                  exact e)
                have HL5 := hide hA5
                clear hA5
                generalize hsc : w5.heap.size = sc at *
                go_loopw [17] (fun x wr => ∃ k : Nat, k ≤ PL.length ∧ x = .int .i64 k ∧ Hid (Fx sc 4 (rowB n (fun q => decide (q ∈ PL.take k))) wr) ∧ Hid (Below w5.heap.size w5 wr)) (fun x _ => PL.length - (intOf x).toNat)
                case atStart => exact ⟨0, by omega, rfl, HF5, by rw [hsc]; exact HL5⟩
                case round =>
                  clear HF5 HL5
                  obtain ⟨k, hk, rfl, HFZ, HBZ⟩ := hrel
                  by_cases hlt : k < PL.length
                  · obtain ⟨x, hx⟩ := get_at hlt
                    obtain ⟨x0, x1, -⟩ := (HPM.out x).1 (List.mem_of_getElem? hx)
                    obtain ⟨xm, rfl⟩ := Int.eq_ofNat_of_zero_le x0
                    have hxn : xm < n := by omega
                    obtain ⟨ga, oa, rfl, cx⟩ := ((HCI.out.at1).below HBZ.out).get hx
                    have q1 := HFZ.out.get (rowB_at hxn)
                    have q2 := HFZ.out.frz xm
                    have HF2 : Hid (Fx sc 4 (rowB n (fun q => decide (q ∈ PL.take (k + 1)))) (wr.setCell ⟨sc, xm, none⟩ (.bool true))) := hide (by
                      have := HFZ.out.set xm (.bool true)
                      rw [rowB_set hxn] at this
                      rw [show (fun q => decide (q ∈ PL.take (k + 1))) = upd (fun q => decide (q ∈ PL.take k)) (xm : Int) true from funext fun q => by
                        by_cases e : q = (xm : Int)
                        · subst e; rw [upd_at]; exact decide_eq_true ((take_mem hx).2 (.inr rfl))
                        · rw [upd_off e]; exact decide_eq_decide.2 (by rw [take_mem hx]; simp [e])]
                      exact this)
                    have HB2 := hide (HBZ.out.setCell (p := ⟨sc, xm, none⟩) (by rw [hsc]; exact Nat.le_refl _) (.bool true))
                    clear hx x0 x1 HFZ HBZ
                    go_wp2_with fail
                    go_roundw
                    case rel => exact ⟨k + 1, by omega, by go_num, HF2, HB2⟩
                    case measure => simp [intOf]; omega
                  · have hkn : k = PL.length := by omega
                    rw [hkn, List.take_length] at HFZ
                    go_upto_region 28 with fail
                    clear hkn hlt hk
                    obtain ⟨wy, rfl⟩ : ∃ wy, wy = wr := ⟨wr, rfl⟩
                    have HBF := hide (HBE.out.trans (HBZ.out.mono HBE.out.size))
                    have HS7 := hide (HS6.out.trans (HBZ.out.mono (by rw [← hsb]; exact HS6.out.size)))
                    have HD7 := hide (Ints.go HBZ.out (by have := HD5.out; rw [← hsc] at this; exact this))
                    clear HBZ HBE HS6 HD5 HCI
                    go_loopw [18] (fun x wv => ∃ k : Nat, k ≤ DL.length ∧ x = .int .i64 k ∧ Hid (Below wy.heap.size wy wv)) (fun x _ => DL.length - (intOf x).toNat)
                    case atStart => exact ⟨0, by omega, rfl, hide (Below.refl _ _)⟩
                    case round =>
                      obtain ⟨k, hk, rfl, HBZ⟩ := hrel
                      by_cases hlt : k < DL.length
                      · obtain ⟨x, hx⟩ := get_at hlt
                        obtain ⟨x0, x1⟩ := HDM.out x (List.mem_of_getElem? hx)
                        have hin := HDP.out x (List.mem_of_getElem? hx)
                        obtain ⟨xm, rfl⟩ := Int.eq_ofNat_of_zero_le x0
                        have hxn : xm < n := by omega
                        obtain ⟨ga, oa, rfl, cx⟩ := ((HD7.out.at1).below HBZ.out).get hx
                        have q1 := (HFZ.out.keep (HBZ.out.block _ HFZ.out.lt)).get (rowB_at hxn)
                        rw [decide_eq_true hin] at q1
                        obtain ⟨c0, -, -, -⟩ := HCT.out wr (HS7.out.trans (HBZ.out.mono (by rw [← hsb]; exact HS7.out.size)))
                        clear hx x0 x1 hin
                        go_wp2_with fail
                        go_quiet (fail)
                        go_wp2_with fail
                        go_roundw
                        case rel => exact ⟨k + 1, by omega, by go_num, hide (HBZ.out.trans ((below_drewN wr _).mono HBZ.out.size))⟩
                        case measure => simp [intOf]; omega
                      · go_wp2_with fail
                        go_ret
                        exact ⟨rfl, HBF.out.trans (HBZ.out.mono HBF.out.size)⟩
end Go.Proofs.Ythifoamnmhlghaa.Fa
