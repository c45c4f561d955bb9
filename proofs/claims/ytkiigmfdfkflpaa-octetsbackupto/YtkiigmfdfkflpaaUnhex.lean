/- Unhex, the program's: of any text it answers what unhexS says, in memory of its own, and leaves what was there as it was. -/
import Derived.Test.YtkiigmfdfkflpaaBase
import Derived.Test.YtkiigmfdfkflpaaUnhexPlain
import Derived.Test.YtkiigmfdfkflpaaTextPlain
import Derived.Lib.OthersKept
namespace Go.Proofs.Ytkiigmfdfkflpaa
open Go.RowKit

/-- The digit, or nothing. -/
def digV (c : Int) : Int := if 0 ≤ nib c then nib c else 0

theorem ret_dig {c d : Int} {b : Bool} (h1 : d = digV c) (h2 : b = decide (0 ≤ nib c)) : Ending.returned (.tuple #[.int .u8 d, .bool b]) = .returned (.tuple #[.int .u8 (digV c), .bool (decide (0 ≤ nib c))]) := by rw [h1, h2]

theorem dig_yes {r d : Int} (h : nib r = d) (h0 : 0 ≤ d) : d = digV r ∧ true = decide (0 ≤ nib r) := by
  unfold digV; rw [h]; simp [h0]

theorem dig_no {r : Int} (h : nib r = -1) : 0 = digV r ∧ false = decide (0 ≤ nib r) := by
  unfold digV; rw [h]; simp

theorem nib_no {r : Int} (h : r < 48 ∨ (57 < r ∧ r < 65) ∨ (70 < r ∧ r < 97) ∨ 102 < r) : nib r = -1 := by
  unfold nib; rw [if_neg (by omega), if_neg (by omega), if_neg (by omega)]

theorem nib_dec {r : Int} (h : 48 ≤ r ∧ r ≤ 57) : nib r = r - 48 := by unfold nib; rw [if_pos h]
theorem nib_small {r : Int} (h : 97 ≤ r ∧ r ≤ 102) : nib r = r - 97 + 10 := by unfold nib; rw [if_neg (by omega), if_pos h]; omega
theorem nib_great {r : Int} (h : 65 ≤ r ∧ r ≤ 70) : nib r = r - 65 + 10 := by unfold nib; rw [if_neg (by omega), if_neg (by omega), if_pos h]; omega

set_option maxHeartbeats 400000 in
theorem digit_any (r : Int) (w : World) (h0 : 0 ≤ r) :
    Calls Try.prog 27 #[.int .i32 r] w fun e w' => e = .returned (.tuple #[.int .u8 (digV r), .bool (decide (0 ≤ nib r))]) ∧ w' = w := by
  rcases (show (48 ≤ r ∧ r ≤ 57) ∨ (97 ≤ r ∧ r ≤ 102) ∨ (65 ≤ r ∧ r ≤ 70) ∨ (r < 48 ∨ (57 < r ∧ r < 65) ∨ (70 < r ∧ r < 97) ∨ 102 < r) by omega) with h | h | h | h
  · have HD := hide (dig_yes (nib_dec h) (by omega))
    obtain ⟨h1, h2⟩ := h
    go_enter Try.func27, Try.ntmps27
    go_wp2
    go_ret2
    exact ⟨ret_dig HD.out.1 HD.out.2, rfl⟩
  · have HD := hide (dig_yes (nib_small h) (by omega))
    obtain ⟨h1, h2⟩ := h
    go_enter Try.func27, Try.ntmps27
    go_wp2
    go_ret2
    exact ⟨ret_dig HD.out.1 HD.out.2, rfl⟩
  · have HD := hide (dig_yes (nib_great h) (by omega))
    obtain ⟨h1, h2⟩ := h
    go_enter Try.func27, Try.ntmps27
    go_wp2
    go_ret2
    exact ⟨ret_dig HD.out.1 HD.out.2, rfl⟩
  · have HD := hide (dig_no (nib_no h))
    rcases h with h | ⟨h, h'⟩ | ⟨h, h'⟩ | h
    all_goals
      go_enter Try.func27, Try.ntmps27
      go_wp2
      go_ret2
      exact ⟨ret_dig HD.out.1 HD.out.2, rfl⟩

theorem strB_at (s : ByteArray) (k : Nat) (h : k < s.size) : (strB s).getD k 0 = ((s[k]'h).toNat : Int) := by
  have hl : k < (strB s).length := by rw [strB_len]; exact h
  simp only [List.getD, List.getElem?_eq_getElem hl, Option.getD_some]
  simp [strB]
  rfl

theorem take_set_half {cs : List Int} {j : Nat} {v : Int} (hj : j < cs.length) : (cs.set j v).take (j + 1) = cs.take j ++ [v] := by
  rw [List.take_succ_eq_append_getElem (by simpa using hj), List.take_set, List.set_eq_of_length_le (List.length_take_le _ _)]
  simp

/-- Two digits more are a byte more. -/
theorem pairs_step {zs cs : List Int} {k : Nat} {h c : Int} (hk : k < zs.length) (ho : k % 2 = 1) (hp : cs.take (k / 2) = pairs (zs.take (2 * (k / 2)))) (hh : h = nib (zs.getD (k - 1) 0)) (hc : c = zs.getD k 0) (hl : k / 2 < cs.length) :
    (cs.set (k / 2) (h * 16 + nib c)).take ((k + 1) / 2) = pairs (zs.take (2 * ((k + 1) / 2))) := by
  obtain ⟨m, rfl⟩ : ∃ m, k = m + 1 := ⟨k - 1, by omega⟩
  have e1 : (m + 1 + 1) / 2 = (m + 1) / 2 + 1 := by omega
  have e2 : 2 * ((m + 1) / 2 + 1) = m + 1 + 1 := by omega
  have e3 : 2 * ((m + 1) / 2) = m := by omega
  have ht : zs.take (m + 1 + 1) = zs.take m ++ [zs.getD m 0, zs.getD (m + 1) 0] := by
    rw [take_succ_getD zs (m + 1) hk, take_succ_getD zs m (by omega)]
    simp [List.getD]
  rw [e1, take_set_half hl, hp, e2, e3, ht, pairs_snoc (zs.take m).length _ _ _ rfl (by simp; omega), hh, hc]
  rfl

theorem zeros_row {w : World} {base g n : Nat} (h : w.ownsRow base 5 1 (.slice (some ⟨g, 0, none⟩) n n) n (madeCells (Value.int .u8 0).cells (n * 1)).toList) :
    w.ownsRow base 5 1 (.slice (some ⟨g, 0, none⟩) n n) n ((List.replicate n (0 : Int)).map (Value.int .u8)) := by
  rw [Nat.mul_one] at h
  have e : (madeCells (Value.int .u8 0).cells n).toList = (List.replicate n (0 : Int)).map (Value.int .u8) := by
    rw [show (Value.int .u8 0).cells = #[.int .u8 0] from rfl, toList_madeCells_one]; simp
  rwa [e] at h

theorem own_iter {w : World} {base : Nat} {v : Value} {n : Nat} {xs : List Value} (h : w.ownsRow base 5 1 v n xs) {k : Nat} {s : ByteArray} {p : Nat} (hk : v.ownBlock ≠ some k) : (w.iterAt k s p).ownsRow base 5 1 v n xs := by
  refine ⟨h.1, ?_⟩
  rcases h.2 with hn | ⟨g, cap, cur, rfl, hbg, hg, rest⟩
  · exact .inl hn
  · refine .inr ⟨g, cap, cur, rfl, hbg, ?_, rest⟩
    rw [Lib.iterAt_other _ _ _ _ _ (by intro e; subst e; exact hk rfl)]
    exact hg

set_option maxHeartbeats 1000000 in
theorem unhex_any (s : ByteArray) (w : World) (hs : s.size ≤ 140737488351232) :
    Calls Try.prog 21 #[.string s] w fun e w' => ∃ a cap, e = .returned (.tuple #[.slice a (unhexS (strB s)).1.length cap, .int .i64 (unhexS (strB s)).2.1, .int .i64 (unhexS (strB s)).2.2]) ∧
      w'.ownsRow w.heap.size 5 1 (.slice a (unhexS (strB s)).1.length cap) (unhexS (strB s)).1.length ((unhexS (strB s)).1.map (Value.int .u8)) ∧ Below w.heap.size w w' := by
  obtain ⟨i0, hi, hz0, hz1, hz2⟩ := info_parts info5
  have HLS := hide (strB_len s)
  go_enter Try.func21, Try.ntmps21
  go_wp2_with (at_make; go_must (refine wpList_make_full _ rfl _ _ 23 rfl w.heap.size 5 i0 (.int .u8 0) 1 Try.underlying23 hi hz0 hz1 .i64 .i64 _ _ (s.size / 2) rfl rfl (by omega) (by omega) (by rw [hz2]; omega) (by unfold maxLen; omega) (Nat.le_refl _) ?_; intro w1 hown hgrow))
  have hown0 := zeros_row hown
  have hI := (hown.lt w.heap.size rfl).2
  have hb1 : Below w.heap.size w w1 := (Below.refl _ _).grown hgrow (Nat.le_refl _) (by simp)
  have hitr := World.iter_heap w1 s 0
  have hown1 : (w1.iter s 0).ownsRow w.heap.size 5 1 (.slice (some ⟨w.heap.size, 0, none⟩) (s.size / 2) (s.size / 2)) (s.size / 2) ((List.replicate (s.size / 2) (0 : Int)).map (Value.int .u8)) := hown0.alloc _
  have hb2 : Below w.heap.size w (w1.iter s 0) := hb1.alloc hb1.size _
  clear hown hown0 hgrow hb1
  generalize w1.iter s 0 = w2 at *
  generalize w1.heap.size = I at *
  clear w1
  go_loopw [6] (fun hv wr => ∃ (k : Nat) (h : Int) (cs : List Int), k ≤ s.size ∧ hv = .int .u8 h ∧ 0 ≤ h ∧ h ≤ 15 ∧ Hid (k % 2 = 1 → h = nib ((strB s).getD (k - 1) 0)) ∧ wr.heap[I]? = some (.stringIter s k) ∧
      wr.ownsRow w.heap.size 5 1 (.slice (some ⟨w.heap.size, 0, none⟩) (s.size / 2) (s.size / 2)) (s.size / 2) (cs.map (Value.int .u8)) ∧ Below w.heap.size w wr ∧ Hid (allDig ((strB s).take k)) ∧ Hid (cs.take (k / 2) = pairs ((strB s).take (2 * (k / 2)))))
    (fun _ wr => s.size - wr.iterPos I)
  case atStart => exact ⟨0, 0, List.replicate (s.size / 2) 0, by omega, rfl, by omega, by omega, by unfold Hid; omega, hitr, hown1, hb2, by unfold Hid allDig; simp, by simp [Hid, pairs]⟩
  case round =>
    clear hown1 hb2 hitr
    obtain ⟨k, q, cs, hk, rfl, hh0, hh1, HH, hit, hown, hbel, HD, HP⟩ := hrel
    have HCL : Hid (cs.length = s.size / 2) := by have := hown.1; unfold Hid; simpa using this
    by_cases hlt : k < s.size
    · obtain ⟨c, hc⟩ : ∃ c : Nat, c = (s[k]'hlt).toNat := ⟨_, rfl⟩
      have HC : Hid ((c : Int) = (strB s).getD k 0) := by unfold Hid; rw [strB_at s k hlt, hc]
      have hc255 : c ≤ 255 := by have := (s[k]'hlt).toNat_lt; omega
      have HT : Hid ((strB s).take (k + 1) = (strB s).take k ++ [(c : Int)]) := by
        unfold Hid; rw [HC.out, take_succ_getD (strB s) k (by rw [HLS.out]; exact hlt)]; rfl
      by_cases ha : c < 128
      · have hnx : ∀ ty, (Instr.next (.pointer (some ⟨I, 0, none⟩)) true ty).run Try.prog wr = .ok (.tuple #[.bool true, .int .i64 k, .int .i32 c]) (wr.iterAt I s (k + 1)) := fun ty => by
          rw [Lib.run_next_ascii_at wr I s k ty hit hlt (by omega), hc]
        have hit2 := Lib.iterAt_heap wr I s k (k + 1) hit
        have hown2 : (wr.iterAt I s (k + 1)).ownsRow w.heap.size 5 1 (.slice (some ⟨w.heap.size, 0, none⟩) (s.size / 2) (s.size / 2)) (s.size / 2) (cs.map (Value.int .u8)) := own_iter hown (by simp [Value.ownBlock]; omega)
        have hbel2 := Lib.below_iterAt hbel (k := I) (by omega) s (k + 1)
        have HM := hide (iterPos_of hit)
        clear hit hown hbel hc
        generalize wr.iterAt I s (k + 1) = W at *
        by_cases hd : 0 ≤ nib (c : Int)
        · obtain ⟨d, hdE⟩ : ∃ d, d = nib (c : Int) := ⟨_, rfl⟩
          have hd0 : 0 ≤ d := by rw [hdE]; exact hd
          have hd1 : d ≤ 15 := by rw [hdE]; exact (nib_range c).2
          have CD : Hid (∀ w, Calls Try.prog 27 #[.int .i32 (c : Int)] w fun e w' => e = .returned (.tuple #[.int .u8 d, .bool true]) ∧ w' = w) := fun w => by
            have := digit_any (c : Int) w (by omega)
            rwa [← (dig_yes hdE.symm hd0).1, ← (dig_yes hdE.symm hd0).2] at this
          have HA := hide (allDig_snoc HT.out HD.out hd)
          have HDE := hide hdE
          clear hdE hd
          by_cases hev : k % 2 = 0
          · have hevb : ((k : Int) % 2 == 0) = true := by simp; omega
            go_wp2_with (go_at_call 27; refine (CD.out _).mono ?_; rintro e w' ⟨rfl, rfl⟩)
            go_roundw
            case rel => exact ⟨k + 1, d, cs, by omega, rfl, hd0, hd1, fun _ => by rw [HDE.out, Nat.add_sub_cancel, HC.out], hit2, hown2, hbel2, HA, by have := HP.out; unfold Hid; rwa [show (k + 1) / 2 = k / 2 by omega]⟩
            case measure => rw [HM.out, iterPos_of hit2]; omega
          · have hevb : ((k : Int) % 2 == 0) = false := by simp; omega
            have hj : k / 2 < s.size / 2 := by omega
            obtain ⟨x, hcx⟩ : ∃ x, W.cell? ⟨w.heap.size, k / 2, none⟩ = some (.int .u8 x) := by
              have hj2 : k / 2 < cs.length := by rw [HCL.out]; exact hj
              exact ⟨cs[k / 2], by rw [hown2.cellAt _ (by omega)]; simp [hj2]⟩
            have hfr : W.frozen? ⟨w.heap.size, k / 2, none⟩ = false := hown2.frozenAt _
            have hst := (hown2.stored (k / 2) (.int .u8 (bits .or .u8 (q * 16) d))).1
            rw [← List.map_set] at hst
            have HJ := hide (join_digits q d hh0 hh1 hd0 hd1)
            have hit3 : (W.setCell ⟨w.heap.size, k / 2, none⟩ (.int .u8 (bits .or .u8 (q * 16) d))).heap[I]? = some (.stringIter s (k + 1)) := (Below.heap_setCell _ _ _ _ (by simp; omega)).trans hit2
            have hbel3 : Below w.heap.size w (W.setCell ⟨w.heap.size, k / 2, none⟩ (.int .u8 (bits .or .u8 (q * 16) d))) := hbel2.setCell (Nat.le_refl _) _
            have HS := hide (pairs_step (by rw [HLS.out]; exact hlt) (by omega) HP.out (HH.out (by omega)) HC.out (by rw [HCL.out]; exact hj))
            rw [← HDE.out, ← HJ.out] at HS
            have HST := hide hst
            have HI3 := hide hit3
            have HB3 := hide hbel3
            clear hst hit3 hbel3
            go_wp2_with (go_at_call 27; refine (CD.out _).mono ?_; rintro e w' ⟨rfl, rfl⟩)
            go_roundw
            case rel => exact ⟨k + 1, q, cs.set (k / 2) (bits .or .u8 (q * 16) d), by omega, rfl, hh0, hh1, by unfold Hid; omega, HI3.out, HST.out, HB3.out, HA, HS⟩
            case measure => rw [HM.out, iterPos_of HI3.out]; omega
        · have CD : Hid (∀ w, Calls Try.prog 27 #[.int .i32 (c : Int)] w fun e w' => e = .returned (.tuple #[.int .u8 0, .bool false]) ∧ w' = w) := fun w => by
            have := digit_any (c : Int) w (by omega)
            have hn : nib (c : Int) = -1 := by have := nib_range (c : Int); omega
            rwa [← (dig_no hn).1, ← (dig_no hn).2] at this
          have HR := hide (unhexS_bad (by rw [HLS.out]; exact hlt) HC.out HD.out (by omega))
          clear hd
          go_wp2_with (go_at_call 27; refine (CD.out _).mono ?_; rintro e w' ⟨rfl, rfl⟩)
          go_ret3
          rw [HR.out]
          exact ⟨none, 0, rfl, World.ownsRow_nil _ _ _ _, hbel2⟩
      · obtain ⟨r, hr⟩ : ∃ r : Nat, r = (Utf8.decode s k).1 := ⟨_, rfl⟩
        have hr128 : 128 ≤ r := by rw [hr]; exact (decode_high s k hlt (by omega)).1
        have hnx : ∀ ty, (Instr.next (.pointer (some ⟨I, 0, none⟩)) true ty).run Try.prog wr = .ok (.tuple #[.bool true, .int .i64 k, .int .i32 r]) (wr.iterAt I s (k + (Utf8.decode s k).2)) := fun ty => by
          rw [Lib.run_next_any_at wr I s k ty hit hlt, hr]
        have hbel2 := Lib.below_iterAt hbel (k := I) (by omega) s (k + (Utf8.decode s k).2)
        generalize wr.iterAt I s (k + (Utf8.decode s k).2) = W at *
        have CD : Hid (∀ w, Calls Try.prog 27 #[.int .i32 (r : Int)] w fun e w' => e = .returned (.tuple #[.int .u8 0, .bool false]) ∧ w' = w) := fun w => by
          have := digit_any (r : Int) w (by omega)
          have hn : nib (r : Int) = -1 := nib_no (by omega)
          rwa [← (dig_no hn).1, ← (dig_no hn).2] at this
        have HR := hide (unhexS_bad (by rw [HLS.out]; exact hlt) HC.out HD.out (by rw [nib_no (by omega)]; omega))
        clear hit hown hbel hc hr
        go_wp2_with (go_at_call 27; refine (CD.out _).mono ?_; rintro e w' ⟨rfl, rfl⟩)
        go_ret3
        rw [HR.out]
        exact ⟨none, 0, rfl, World.ownsRow_nil _ _ _ _, hbel2⟩
    · have hnx : ∀ ty, (Instr.next (.pointer (some ⟨I, 0, none⟩)) true ty).run Try.prog wr = .ok (.tuple #[.bool false]) wr := fun ty => Lib.run_next_end_at wr I s k ty hit hlt
      have hke : k = s.size := by omega
      have HDA : Hid (allDig (strB s)) := by have := HD.out; rwa [List.take_of_length_le (by rw [HLS.out]; omega)] at this
      clear hit HD HH
      by_cases hod : s.size % 2 = 1
      · have hodb : ((s.size : Int) % 2 == 1) = true := by simp; omega
        have HR := hide (unhexS_odd HDA.out (by rw [HLS.out]; exact hod))
        clear hke
        go_wp2_with fail
        go_ret3
        rw [HR.out, HLS.out]
        exact ⟨none, 0, rfl, World.ownsRow_nil _ _ _ _, hbel⟩
      · have hodb : ((s.size : Int) % 2 == 1) = false := by simp; omega
        have HR := hide (unhexS_ok HDA.out (by rw [HLS.out]; exact hod))
        have HE : Hid (cs = pairs (strB s)) := by
          have := HP.out
          rw [List.take_of_length_le (by rw [HCL.out]; omega), List.take_of_length_le (by rw [HLS.out]; omega)] at this
          exact this
        have HL2 : Hid ((pairs (strB s)).length = s.size / 2) := by have := pairs_len _ (strB s) rfl; unfold Hid; rw [this, HLS.out]
        clear hke
        go_wp2_with fail
        go_ret3
        rw [HR.out]
        rw [HE.out] at hown
        refine ⟨some ⟨w.heap.size, 0, none⟩, s.size / 2, ?_, ?_, hbel⟩
        · simp [HL2.out]
        · simpa [HL2.out] using hown

end Go.Proofs.Ytkiigmfdfkflpaa
