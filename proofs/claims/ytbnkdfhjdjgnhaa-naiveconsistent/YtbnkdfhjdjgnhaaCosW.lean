/- NaiveConsistent, walked. -/
import Derived.Test.YtbnkdfhjdjgnhaaCohW
namespace Go.Proofs.Ytbnkdfhjdjgnhaa
open Go.RowKit

theorem hb3 {x : Int} {b : Bool} (h : hb x 3 = b) : (bits .and .u8 x 4 != 0) = b := h
theorem hb1 {x : Int} (h : hb x 1 = true) : (bits .and .u8 x 1 == 0) = false := by
  have h2 : (bits .and .u8 x 1 != 0) = true := h
  simpa [bne] using h2
set_option maxRecDepth 100000 in
set_option maxHeartbeats 6400000 in
theorem consistent_any {w : World} {T : Th} {F : List Int} {fa ra ba ea : Option Addr} {fc rc bc ec : Nat} (h : TA w.heap.size w T fa fc ra rc ba bc) (hF : Ints w.heap.size w F (.slice ea F.length ec)) :
    Calls Try.prog 5 #[tv T fa fc ra rc ba bc, .slice ea F.length ec] w fun e w' => e = .returned (.bool true) ∧ Below w.heap.size w w' := by
  have hB := below_new w (.cells #[.int .i64 T.lits, .slice fa T.foes.length fc, .slice ra T.rules.length rc, .slice ba T.beats.length bc] 25)
  have hX := heap_alloc_new w (.cells #[.int .i64 T.lits, .slice fa T.foes.length fc, .slice ra T.rules.length rc, .slice ba T.beats.length bc] 25)
  have HTA := hide (TR.go hB h)
  have HF := hide (Ints.go hB hF)
  have HB := hide hB
  have HX := hide hX
  clear h hB hF
  go_enter Try.func5, Try.ntmps5
  go_upto_region 1 with fail
  generalize w.alloc (.cells #[.int .i64 T.lits, .slice fa T.foes.length fc, .slice ra T.rules.length rc, .slice ba T.beats.length bc] 25) = W at *
  clear hX
  have CA := hide (alive_any (w := W))
  go_upto_region 3 with (go_at_call 8; refine CA.out.mono ?_; rintro _ w1 ⟨rfl, hw1⟩; have HW1 := hide hw1; clear hw1)
  have HX1 := hide ((HW1.out.block _ (loc_lt HX.out)).trans HX.out)
  have HTA1 := hide (TR.go HW1.out HTA.out)
  have HF1 := hide (Ints.go HW1.out HF.out)
  have HB1 := hide (HB.out.trans (HW1.out.mono HB.out.size))
  clear CA HX HTA HF HB HW1
  obtain ⟨-, c0, c1, c2, c3⟩ := Bt.of HX1.out
  by_cases hf : faultM T F = 0
  · have CS := hide (Solve_ok HTA1.out HF1.out hf)
    have HP := hide (pf_of hf)
    clear hf
    go_upto_region 4 with (go_at_call 9; refine CS.out.mono ?_; rintro _ w2 ⟨v, m, i, rfl, hs, hown, hw2⟩; have HS := hide hs; have HO := hide hown; have HW2 := hide hw2; clear hs hown hw2)
    have CN := hide (num_still w2 0)
    have HB2 := hide (HB1.out.trans (HW2.out.mono HB1.out.size))
    have HX2 := hide ((HW2.out.block _ (loc_lt HX1.out)).trans HX1.out)
    have HTA2 := hide (TR.go HW2.out HTA1.out)
    clear c0 c1 c2 c3 CS HTA1 HF1 HB1 HX1 HW2
    obtain ⟨n, hn⟩ : ∃ n, T.lits.toNat = n := ⟨_, rfl⟩
    have HML : Hid (m.length = n) := hide (by rw [← hn]; exact sol_len HP.out HS.out)
    rw [hn] at HO HP
    have hn4 := HP.out.n4
    clear hn
    obtain ⟨va, vc, rfl⟩ := owns_slice HO.out
    go_upto_region 7 with (go_at_call 10; refine CN.out.mono ?_; rintro _ w6 ⟨rfl, rfl⟩)
    clear CN
    obtain ⟨-, c0, c1, c2, c3⟩ := Bt.of HX2.out
    clear c0 c2 c3
    go_loop [7] (fun x => ∃ k : Nat, k ≤ n ∧ x = .int .i64 k) (fun x => n - (intOf x).toNat)
    case atStart => exact ⟨0, by omega, rfl⟩
    case round =>
      obtain ⟨k, hk, rfl⟩ := hrel
      by_cases hlt : k < n
      · obtain ⟨l, hl⟩ := get_at (l := T.foes) (i := k) (by have := HP.out.ok.fl; have := HP.out.ln; omega)
        have hfl : k < T.foes.length := (List.getElem?_eq_some_iff.1 hl).1
        obtain ⟨gf, of, bd, bp, rfl, -, x0, -, hbl, hI⟩ := at_L HTA2.out.foes hl
        have HI := hide hI.at1
        have HIN : Hid (∀ y ∈ l, y ∈ row T.foes (k : Int) ∧ 0 ≤ y ∧ y < (n : Int)) := hide (by
          have er : row T.foes (k : Int) = l := row_at (by rw [Int.toNat_natCast]; exact hl)
          intro y hy
          have hy2 : y ∈ row T.foes (k : Int) := by rw [er]; exact hy
          exact ⟨hy2, HP.out.foe k hlt y hy2⟩)
        obtain ⟨g, o, rfl, a0⟩ := owns_at1 HO.out k _ (u8s_at (by rw [HML.out]; exact hlt))
        have HX3 : Hid (∀ t, hs m (k : Int) t = hb (m.getD k 0) t) := hide fun t => by unfold hs; rw [Int.toNat_natCast]
        generalize hx : m.getD k 0 = x at a0 HX3
        clear hl hI hx
        go_wp2_with fail
        go_loop [8] (fun x => ∃ j : Nat, j ≤ l.length ∧ x = .int .i64 j) (fun x => l.length - (intOf x).toNat)
        case atStart => exact ⟨0, by omega, rfl⟩
        case round =>
          obtain ⟨j, hj, rfl⟩ := hrel
          by_cases hlj : j < l.length
          · obtain ⟨y, hy⟩ := get_at hlj
            obtain ⟨gy, oy, rfl, cy⟩ := HI.out.get hy
            obtain ⟨y1, y2, y3⟩ := HIN.out y (List.mem_of_getElem? hy)
            obtain ⟨ym, rfl⟩ := Int.eq_ofNat_of_zero_le y2
            have hyn : ym < n := by omega
            obtain ⟨_, _, e1, b0⟩ := owns_at1 HO.out ym _ (u8s_at (by rw [HML.out]; exact hyn))
            cases e1
            have HY3 : Hid (∀ t, hs m (ym : Int) t = hb (m.getD ym 0) t) := hide fun t => by unfold hs; rw [Int.toNat_natCast]
            have HF3 : Hid (hs m (ym : Int) 3 = true → hs m (k : Int) 3 = true → hs m (ym : Int) 1 = true ∧ hs m (k : Int) 1 = true) := hide (sol_foes HP.out (no_ring HP.out.ok) HS.out (by omega) (by omega) y1)
            generalize hyv : m.getD ym 0 = yv at b0 HY3
            clear hy y1 y2 y3 hyv
            cases hbx : hb x 3 with
            | false =>
              have z1 := hb3 hbx
              clear hbx
              go_wp2_with fail
              go_round
              case rel => exact ⟨j + 1, by omega, by go_num⟩
              case measure => simp [intOf]; omega
            | true =>
              cases hby : hb yv 3 with
              | false =>
                have z1 := hb3 hbx
                have z2 := hb3 hby
                clear hbx hby
                go_wp2_with fail
                go_round
                case rel => exact ⟨j + 1, by omega, by go_num⟩
                case measure => simp [intOf]; omega
              | true =>
                have hh := HF3.out (by rw [HY3.out]; exact hby) (by rw [HX3.out]; exact hbx)
                rw [HY3.out, HX3.out] at hh
                have z1 := hb3 hbx
                have z2 := hb3 hby
                have z3 := hb1 hh.1
                have z4 := hb1 hh.2
                clear hbx hby hh
                go_wp2_with fail
                go_round
                case rel => exact ⟨j + 1, by omega, by go_num⟩
                case measure => simp [intOf]; omega
          · go_wp2_with fail
            go_round
            case rel => exact ⟨k + 1, by omega, by go_num⟩
            case measure => simp [intOf]; omega
      · go_wp2_with fail
        go_ret
        exact ⟨rfl, HB2.out⟩
  · have CS := hide (Solve_bad HTA1.out HF1.out hf)
    have hne : (faultM T F != 0) = true := by simpa using hf
    clear hf
    generalize faultM T F = e0 at *
    have CN := hide fun w : World => num_still w e0
    go_wp2_with (first | (go_at_call 9; refine CS.out.mono ?_; rintro _ w2 ⟨rfl, hw2⟩; have HW2 := hide hw2; clear hw2) | (go_at_call 10; refine (CN.out _).mono ?_; rintro _ w6 ⟨rfl, rfl⟩))
    go_ret
    exact ⟨rfl, HB1.out.trans (HW2.out.mono HB1.out.size)⟩
end Go.Proofs.Ytbnkdfhjdjgnhaa
