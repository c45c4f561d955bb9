/- The document's Unhex: of any text it answers what unhexS says, in memory of its own, and leaves what was there as it was. -/
import Derived.Test.YtkiigmfdfkflpaaUnhex
import Derived.Test.YtkiigmfdfkflpaaRefSum
namespace Go.Proofs.Ytkiigmfdfkflpaa
open Go.RowKit

theorem ret_i64 {a b : Int} (h : a = b) : Ending.returned (.int .i64 a) = .returned (.int .i64 b) := by rw [h]

set_option maxHeartbeats 400000 in
theorem nibble_any (r : Int) (w : World) (h0 : 0 ≤ r) (h255 : r ≤ 255) :
    Calls Try.prog 28 #[.int .u8 r] w fun e w' => e = .returned (.int .i64 (nib r)) ∧ w' = w := by
  rcases (show (48 ≤ r ∧ r ≤ 57) ∨ (97 ≤ r ∧ r ≤ 102) ∨ (65 ≤ r ∧ r ≤ 70) ∨ (r < 48 ∨ (57 < r ∧ r < 65) ∨ (70 < r ∧ r < 97) ∨ 102 < r) by omega) with h | h | h | h
  · have HD := hide (nib_dec h)
    obtain ⟨h1, h2⟩ := h
    go_enter Try.func28, Try.ntmps28
    go_wp2
    go_ret
    exact ⟨ret_i64 (by rw [HD.out]), rfl⟩
  · have HD := hide (nib_small h)
    obtain ⟨h1, h2⟩ := h
    go_enter Try.func28, Try.ntmps28
    go_wp2
    go_ret
    exact ⟨ret_i64 (by rw [HD.out]), rfl⟩
  · have HD := hide (nib_great h)
    obtain ⟨h1, h2⟩ := h
    go_enter Try.func28, Try.ntmps28
    go_wp2
    go_ret
    exact ⟨ret_i64 (by rw [HD.out]), rfl⟩
  · have HD := hide (nib_no h)
    rcases h with h | ⟨h, h'⟩ | ⟨h, h'⟩ | h
    all_goals
      go_enter Try.func28, Try.ntmps28
      go_wp2
      go_ret
      exact ⟨ret_i64 (by rw [HD.out]), rfl⟩

theorem byte_lt (s : ByteArray) (k : Nat) (h : k < s.size) : (s[k]'h).toNat ≤ 255 := by have := (s[k]'h).toNat_lt; omega

theorem nib_of {s : ByteArray} (h : allDig (strB s)) {k : Nat} (hk : k < s.size) : 0 ≤ nib ((s[k]'hk).toNat : Int) ∧ nib ((s[k]'hk).toNat : Int) ≤ 15 := by
  refine ⟨?_, (nib_range _).2⟩
  have hl : k < (strB s).length := by rw [strB_len]; exact hk
  have := h (strB s)[k] (List.getElem_mem hl)
  have e : (strB s)[k] = ((s[k]'hk).toNat : Int) := by rw [← strB_at s k hk]; simp [List.getD, hl]
  rwa [e] at this

theorem wrap_small (n : Int) (h : -9223372036854775808 ≤ n ∧ n ≤ 9223372036854775807) : IntKind.i64.wrap n = n := by
  simp only [IntKind.wrap, IntKind.bits, IntKind.signed]
  simp
  omega

/-- Two digits' byte, as the machine reckons it. -/
theorem byte_of (a b : Int) (ha : 0 ≤ a ∧ a ≤ 15) (hb : 0 ≤ b ∧ b ≤ 15) : ∃ e1 e2 : Int, IntKind.i64.wrap (a * 16) = e1 ∧ IntKind.i64.wrap (e1 + b) = e2 ∧ IntKind.u8.wrap e2 = e2 ∧ Hid (e2 = a * 16 + b) := by
  refine ⟨a * 16, a * 16 + b, wrap_small _ (by omega), wrap_small _ (by omega), ?_, rfl⟩
  rw [IntKind.wrap_u8']; omega

theorem pairs_more {s : ByteArray} {j p p1 : Nat} {e : Int} (hp : p = 2 * j) (hp1 : p1 = p + 1) (h : p < s.size) (h1 : p1 < s.size) (he : e = nib ((s[p]'h).toNat : Int) * 16 + nib ((s[p1]'h1).toNat : Int)) :
    pairs ((strB s).take (2 * (j + 1))) = pairs ((strB s).take (2 * j)) ++ [e] := by
  subst hp1
  have hl : (strB s).length = s.size := strB_len s
  have ht : (strB s).take (p + 1 + 1) = (strB s).take p ++ [(strB s).getD p 0, (strB s).getD (p + 1) 0] := by
    rw [take_succ_getD _ (p + 1) (by omega), take_succ_getD _ p (by omega)]; simp [List.getD]
  rw [show 2 * (j + 1) = p + 1 + 1 by omega, ← hp, ht, pairs_snoc ((strB s).take p).length _ _ _ rfl (by rw [List.length_take]; omega), strB_at s p h, strB_at s (p + 1) h1, he]

set_option maxHeartbeats 1000000 in
theorem refUnhex_any (s : ByteArray) (w : World) (hs : s.size ≤ 140737488351232) :
    Calls Try.prog 22 #[.string s] w fun e w' => ∃ a cap, e = .returned (.tuple #[.slice a (unhexS (strB s)).1.length cap, .int .i64 (unhexS (strB s)).2.1, .int .i64 (unhexS (strB s)).2.2]) ∧
      w'.ownsRow w.heap.size 5 1 (.slice a (unhexS (strB s)).1.length cap) (unhexS (strB s)).1.length ((unhexS (strB s)).1.map (Value.int .u8)) ∧ Below w.heap.size w w' := by
  obtain ⟨i0, hi, hz0, hz1, hz2⟩ := info_parts info5
  have HLS := hide (strB_len s)
  go_enter Try.func22, Try.ntmps22
  go_wp2_with fail
  go_loop [5] (fun i => ∃ k : Nat, k ≤ s.size ∧ i = .int .i64 k ∧ Hid (allDig ((strB s).take k))) (fun i => s.size - (intOf i).toNat)
  case atStart => exact ⟨0, by omega, rfl, by unfold Hid allDig; simp⟩
  case round =>
    obtain ⟨k, hk, rfl, HD⟩ := hrel
    by_cases hlt : k < s.size
    · have HC := hide (strB_at s k hlt)
      have hcb := byte_lt s k hlt
      have HT : Hid ((strB s).take (k + 1) = (strB s).take k ++ [((s[k]'hlt).toNat : Int)]) := by
        unfold Hid; rw [← HC.out, take_succ_getD (strB s) k (by rw [HLS.out]; exact hlt)]; rfl
      have CN := hide (fun w => nibble_any ((s[k]'hlt).toNat : Int) w (by omega) (by omega))
      by_cases hd : 0 ≤ nib ((s[k]'hlt).toNat : Int)
      · have HA := hide (allDig_snoc HT.out HD.out hd)
        go_wp2_with (go_at_call 28; refine (CN.out _).mono ?_; rintro e w' ⟨rfl, rfl⟩)
        go_round
        case rel => exact ⟨k + 1, by omega, by go_num, HA⟩
        case measure => simp [intOf]; omega
      · have hd' : nib ((s[k]'hlt).toNat : Int) < 0 := by omega
        have HR := hide (unhexS_bad (by rw [HLS.out]; exact hlt) HC.out.symm HD.out hd')
        go_wp2_with (go_at_call 28; refine (CN.out _).mono ?_; rintro e w' ⟨rfl, rfl⟩)
        go_ret3
        rw [HR.out]
        exact ⟨none, 0, rfl, World.ownsRow_nil _ _ _ _, Below.refl _ _⟩
    · have HDA : Hid (allDig (strB s)) := by have := HD.out; rwa [List.take_of_length_le (by rw [HLS.out]; omega)] at this
      by_cases hod : s.size % 2 = 1
      · have hodb : ((s.size : Int) % 2 == 1) = true := by simp; omega
        have HR := hide (unhexS_odd HDA.out (by rw [HLS.out]; exact hod))
        go_wp2_with fail
        go_ret3
        rw [HR.out, HLS.out]
        exact ⟨none, 0, rfl, World.ownsRow_nil _ _ _ _, Below.refl _ _⟩
      · have hodb : ((s.size : Int) % 2 == 1) = false := by simp; omega
        have HR := hide (unhexS_ok HDA.out (by rw [HLS.out]; exact hod))
        go_wp2_with fail
        go_loopw [6, 7] (fun v i wr => ∃ (j p : Nat) (x : Option Addr) (cx : Nat), p ≤ s.size ∧ Hid (p = 2 * j) ∧ i = .int .i64 (p : Int) ∧ v = .slice x j cx ∧ wr.ownsRow w.heap.size 5 1 (.slice x j cx) j ((pairs ((strB s).take (2 * j))).map (Value.int .u8)) ∧ Below w.heap.size w wr)
          (fun _ i _ => s.size - (intOf i).toNat)
        case atStart => exact ⟨0, 0, none, 0, by omega, rfl, rfl, rfl, World.ownsRow_nil _ _ _ _, Below.refl _ _⟩
        case round =>
          obtain ⟨j, p, x, cx, hj, HPJ, rfl, rfl, hown, hbel⟩ := hrel
          have hjs : j ≤ s.size := by have := HPJ.out; omega
          by_cases hlt2 : p < s.size
          · obtain ⟨p1, HP1, hwr⟩ : ∃ p1 : Nat, Hid (p1 = p + 1) ∧ IntKind.i64.wrap ((p : Int) + 1) = (p1 : Int) := ⟨p + 1, rfl, by rw [wrap_small _ (by omega)]; omega⟩
            have hlt3 : p1 < s.size := by have := HP1.out; have := HPJ.out; omega
            have hcb1 := byte_lt s p hlt2
            have hcb2 := byte_lt s p1 hlt3
            have hn1 := nib_of HDA.out (k := p) hlt2
            have hn2 := nib_of HDA.out (k := p1) hlt3
            obtain ⟨e1, e2, hw1, hw2, hw3, HE⟩ := byte_of (nib ((s[p]'hlt2).toNat : Int)) (nib ((s[p1]'hlt3).toNat : Int)) hn1 hn2
            have HN : Hid (pairs ((strB s).take (2 * (j + 1))) = pairs ((strB s).take (2 * j)) ++ [e2]) := pairs_more HPJ.out HP1.out hlt2 hlt3 HE.out
            have hi1 : (p : Int) < s.size := by omega
            have hi2 : (p1 : Int) < s.size := by omega
            clear hn1 hn2
            go_wp2_with fail
            go_region_law (first | (refine step_append_own rfl _ _ 23 rfl w.heap.size 5 i0 (.int .u8 0) 1 1 Try.underlying23 hi hz0 hz1 hz2 rfl (by decide) _ j _ rfl (hown.alloc _).drew ⟨wr.heap.size, 0, none⟩ 1 1 [.int .u8 e2] rfl rfl (cell_one_new _ _ _) (one_cell _) (by unfold maxLen; omega) (by omega) (by have := hbel.size; simp; omega) ?_; intro v2 w2 hown2 hgrow2) | (go_simp; go_wp2_with (go_at_call 28; refine (nibble_any _ _ (by omega) (by omega)).mono ?_; rintro e w' ⟨rfl, rfl⟩)))
            all_goals
              have hbel2 : Below w.heap.size w w2 := ((hbel.alloc hbel.size _).drew).grown hgrow2 (by have := hbel.size; simp; omega) (fun k hk => (hown.lt k hk).1)
              obtain ⟨x2, cx2, hv⟩ := own_shape hown2
              subst hv
              have HO : Hid (w2.ownsRow w.heap.size 5 1 (.slice x2 (j + 1) cx2) (j + 1) ((pairs ((strB s).take (2 * (j + 1)))).map (Value.int .u8))) := by unfold Hid; rw [HN.out]; simpa using hown2
              clear hgrow2 hown hown2 hw1 hw2 hw3 hwr
              go_wp2
              go_roundw
              case rel => exact ⟨j + 1, p + 2, x2, cx2, by have := HP1.out; omega, by have := HPJ.out; unfold Hid; omega, by go_num, rfl, HO.out, hbel2⟩
              case measure => simp [intOf]; omega
          · have HE : Hid ((strB s).take (2 * j) = strB s) := by have := HPJ.out; exact List.take_of_length_le (by rw [HLS.out]; omega)
            have HL2 : Hid ((pairs (strB s)).length = j) := by have h := pairs_len _ (strB s) rfl; have h2 := HLS.out; have h3 := HPJ.out; unfold Hid; rw [h, h2]; omega
            rw [HE.out] at hown
            go_wp2_with fail
            go_ret3
            rw [HR.out]
            refine ⟨x, cx, ?_, ?_, hbel⟩
            · simp [HL2.out]
            · simpa [HL2.out] using hown

end Go.Proofs.Ytkiigmfdfkflpaa
