/- circle, Cycle. -/
import Derived.Test.YtbdlgglbcaoakaaGreatPrDfm
namespace Go.Proofs.YtbdlgglbcaoakaaGreat.Pr
open Go.RowKit

theorem run_make_fix {P : Program} (w : World) (t e : TypeId) (i : TypeInfo) (z : Value) (h1 : P.underlying t = some (.slice e)) (h2 : P.info? e = some i) (h3 : i.zero = some z) (h4 : i.size = 1) (h5 : z.cells = #[z]) (n : Nat) (b2 : i.bytes * n ≤ 281474976710656) (b3 : n ≤ maxLen) :
    (Instr.makeSlice t (.int .i64 n) (.int .i64 n)).run P w = .ok (.slice (some ⟨w.heap.size, 0, none⟩) n n) (w.alloc (.cells (Array.replicate n z) e)) := by
  have hb' : (i.bytes : Int) * (n : Int) ≤ 281474976710656 := by
    have h : ((i.bytes * n : Nat) : Int) ≤ 281474976710656 := by omega
    rwa [Int.natCast_mul] at h
  have h63' : (n : Int) ≤ 9223372036854775807 := by
    have h := b3
    simp [maxLen] at h
    omega
  have hrun := run_make (P := P) w t e i z h1 h2 h3 .i64 .i64 n n (by omega) (Int.le_refl _) hb' h63'
  rw [h4, Nat.mul_one, h5, made_one] at hrun
  simpa using hrun
set_option maxRecDepth 100000 in
set_option maxHeartbeats 12800000 in
theorem circle_any {w : World} {next : List (List Int)} {na : Option Addr} {nc : Nat} (hL : Lists w.heap.size w next (.slice na next.length nc)) (hn : next.length ≤ 1048576) (ht : total next ≤ 1048576) :
    Calls Tryz.prog 24 #[.slice na next.length nc] w fun e w' => Below w.heap.size w w' ∧ ((∃ l v, e = .returned v ∧ IsCyc next l ∧ w'.ownsRow w.heap.size 3 1 v l.length (ints (zn l))) ∨ (e = .returned (.slice none 0 0) ∧ Acy next)) := by
  obtain ⟨iI, hiI, zI0, zI1, zI2⟩ := info_parts infoI
  obtain ⟨iS, hiS, zS0, zS1, zS2⟩ := info_parts infoS
  have HL := hide hL
  obtain ⟨n, hnn⟩ : ∃ n, next.length = n := ⟨_, rfl⟩
  have HNN := hide hnn
  rw [hnn] at hn HL ⊢
  have hm1 := fun w : World => run_make_fix (P := Tryz.prog) w 57 3 iI _ Tryz.underlying57 hiI zI0 zI1 rfl n (by rw [zI2]; omega) (by unfold maxLen; omega)
  have hm2 := fun w : World => run_make_fix (P := Tryz.prog) w 97 100 iS _ Tryz.underlying97 hiS zS0 zS1 rfl n (by rw [zS2]; omega) (by unfold maxLen; omega)
  clear hL hnn
  go_enter Tryz.func24, Tryz.ntmps24
  go_wp2_with fail
  go_region
  · have z1 : (w.alloc (.cells (Array.replicate n (.int .i64 0)) 100)).heap.size = w.heap.size + 1 := by simp
    have z2 : ((w.alloc (.cells (Array.replicate n (.int .i64 0)) 100)).alloc (.cells (Array.replicate n (.int .i64 0)) 3)).heap.size = w.heap.size + 1 + 1 := by simp
    have b1 := below_new w (.cells (Array.replicate n (.int .i64 0)) 100)
    have b2 := below_new (w.alloc (.cells (Array.replicate n (.int .i64 0)) 100)) (.cells (Array.replicate n (.int .i64 0)) 3)
    have b3 := below_new ((w.alloc (.cells (Array.replicate n (.int .i64 0)) 100)).alloc (.cells (Array.replicate n (.int .i64 0)) 3)) (.cells #[.slice na n nc, .slice (some ⟨w.heap.size, 0, none⟩) n n, .slice (some ⟨w.heap.size + 1, 0, none⟩) n n] 99)
    have f1 : Fx w.heap.size 100 (ints (List.replicate n 0)) (w.alloc (.cells (Array.replicate n (.int .i64 0)) 100)) := by unfold Fx; rw [← ints_rep]; exact heap_alloc_new w _
    have f2 : Fx (w.heap.size + 1) 3 (ints (List.replicate n 0)) ((w.alloc (.cells (Array.replicate n (.int .i64 0)) 100)).alloc (.cells (Array.replicate n (.int .i64 0)) 3)) := by unfold Fx; rw [← ints_rep, ← z1]; exact heap_alloc_new _ _
    have f3 : Fx (w.heap.size + 1 + 1) 99 [.slice na n nc, sl (w.heap.size) n, sl (w.heap.size + 1) n] (((w.alloc (.cells (Array.replicate n (.int .i64 0)) 100)).alloc (.cells (Array.replicate n (.int .i64 0)) 3)).alloc (.cells #[.slice na n nc, .slice (some ⟨w.heap.size, 0, none⟩) n n, .slice (some ⟨w.heap.size + 1, 0, none⟩) n n] 99)) := by unfold Fx; rw [← z2]; exact heap_alloc_new _ _
    have f1' : Fx w.heap.size 100 (ints (List.replicate n 0)) (((w.alloc (.cells (Array.replicate n (.int .i64 0)) 100)).alloc (.cells (Array.replicate n (.int .i64 0)) 3)).alloc (.cells #[.slice na n nc, .slice (some ⟨w.heap.size, 0, none⟩) n n, .slice (some ⟨w.heap.size + 1, 0, none⟩) n n] 99)).drew := (f1.keep (b2.block _ (by rw [z1]; omega))).keep (b3.block _ (by rw [z2]; omega))
    have f2' : Fx (w.heap.size + 1) 3 (ints (List.replicate n 0)) (((w.alloc (.cells (Array.replicate n (.int .i64 0)) 100)).alloc (.cells (Array.replicate n (.int .i64 0)) 3)).alloc (.cells #[.slice na n nc, .slice (some ⟨w.heap.size, 0, none⟩) n n, .slice (some ⟨w.heap.size + 1, 0, none⟩) n n] 99)).drew := f2.keep (b3.block _ (by rw [z2]; omega))
    have f3' : Fx (w.heap.size + 1 + 1) 99 [.slice na n nc, sl (w.heap.size) n, sl (w.heap.size + 1) n] (((w.alloc (.cells (Array.replicate n (.int .i64 0)) 100)).alloc (.cells (Array.replicate n (.int .i64 0)) 3)).alloc (.cells #[.slice na n nc, .slice (some ⟨w.heap.size, 0, none⟩) n n, .slice (some ⟨w.heap.size + 1, 0, none⟩) n n] 99)).drew := f3
    have HD3 : Hid (Dq w.heap.size (w.heap.size + 1 + 1) (w.heap.size) (w.heap.size + 1) (.slice na n nc) (.slice none 0 0) n [] (List.replicate n 0) (List.replicate n 0) (((w.alloc (.cells (Array.replicate n (.int .i64 0)) 100)).alloc (.cells (Array.replicate n (.int .i64 0)) 3)).alloc (.cells #[.slice na n nc, .slice (some ⟨w.heap.size, 0, none⟩) n n, .slice (some ⟨w.heap.size + 1, 0, none⟩) n n] 99)).drew) := hide ⟨f3', f1', f2', ⟨rfl, .inl ⟨rfl, rfl⟩⟩, by simp [Value.ownBlock], by omega, by omega, by omega⟩
    have HB3 : Hid (Below w.heap.size w (((w.alloc (.cells (Array.replicate n (.int .i64 0)) 100)).alloc (.cells (Array.replicate n (.int .i64 0)) 3)).alloc (.cells #[.slice na n nc, .slice (some ⟨w.heap.size, 0, none⟩) n n, .slice (some ⟨w.heap.size + 1, 0, none⟩) n n] 99)).drew) := hide ((b1.trans (b2.mono (by rw [z1]; omega))).trans (b3.mono (by rw [z2]; omega))).drew
    have HF3 : Hid (Df next [] (List.replicate n 0) (List.replicate n 0)) := hide (by rw [← HNN.out]; exact Df.fresh)
    clear z1 z2 b1 b2 b3 f1 f2 f3 f1' f2' f3' hm1 hm2
    generalize (((w.alloc (.cells (Array.replicate n (.int .i64 0)) 100)).alloc (.cells (Array.replicate n (.int .i64 0)) 3)).alloc (.cells #[.slice na n nc, .slice (some ⟨w.heap.size, 0, none⟩) n n, .slice (some ⟨w.heap.size + 1, 0, none⟩) n n] 99)).drew = w3 at *
    generalize w.heap.size + 1 + 1 = W at *
    obtain ⟨tb, htb⟩ : ∃ k, w.heap.size + 1 = k := ⟨_, rfl⟩
    rw [htb] at HD3 ⊢
    clear htb
    have hB : w.heap.size ≤ w3.heap.size := HB3.out.size
    go_wp2_with fail
    go_loopw [17] (fun x wr => ∃ (i : Nat) (st tr : List Int), i ≤ n ∧ x = .int .i64 i ∧ Hid (Dq w.heap.size W w.heap.size tb (.slice na n nc) (.slice none 0 0) n [] st tr wr) ∧ Hid (Df next [] st tr) ∧ Hid (∀ p, p < i → st.getD p 0 ≠ 0) ∧ Hid (Below w.heap.size w wr)) (fun x _ => n - (intOf x).toNat)
    case atStart => exact ⟨0, _, _, by omega, rfl, HD3, HF3, hide (fun p hp => by omega), HB3⟩
    case round =>
      clear HD3 HF3 HB3
      obtain ⟨i, st, tr, hi, rfl, HD, HF, HS, HB⟩ := hrel
      by_cases hlt : i < n
      · have hsl : i < st.length := by rw [HF.out.ls, HNN.out]; exact hlt
        have c1 := HD.out.bx.get (i := 1) rfl
        have cs := HD.out.fs.get (ints_at hsl)
        by_cases h0 : st.getD i 0 = 0
        · have CF := hide (circleFrom_any HL.out (Nat.le_refl _) HB.out.size HB.out HD.out HF.out HNN.out hn ht hlt h0)
          have hBr : w.heap.size ≤ wr.heap.size := HB.out.size
          rw [h0] at cs
          clear h0 hsl HD HF
          go_upto_region 7 with (go_at_call 41; refine CF.out.mono ?_; rintro e w5 ⟨hb5, hc5⟩; have HB5 := hide (HB.out.trans hb5); have HC5 := hide hc5; clear hb5 hc5; rcases HC5.out with ⟨l, v, rfl, hcy, hro⟩ | ⟨st2, tr2, rfl, hd2, hf2, hm2⟩)
          · obtain ⟨va, vc, rfl⟩ := owns_slice hro
            have hlp : 0 < l.length := by have := hcy.ne; cases l with | nil => exact absurd rfl this | cons _ _ => simp
            have HCY := hide hcy
            have HRO := hide hro
            obtain ⟨m, hm⟩ : ∃ m, l.length = m := ⟨_, rfl⟩
            have HM := hide hm
            rw [hm] at hlp ⊢
            clear hcy hro HC5 CF hm
            go_wp2_with fail
            go_ret
            exact ⟨HB5.out, .inl ⟨l, _, rfl, HCY.out, by rw [← HM.out]; exact HRO.out⟩⟩
          · have HD2 := hide hd2
            have HF2 := hide hf2
            have HS2 : Hid (∀ p, p < i + 1 → st2.getD p 0 ≠ 0) := hide fun p hp => hm2 p (by omega) (by
              by_cases e : p = i
              · exact .inr e
              · exact .inl (HS.out p (by omega)))
            clear hd2 hf2 hm2 HC5 CF
            go_wp2_with fail
            go_roundw
            case rel => exact ⟨i + 1, st2, tr2, by omega, by go_num, HD2, HF2, HS2, HB5⟩
            case measure => simp [intOf]; omega
        · have HS2 : Hid (∀ p, p < i + 1 → st.getD p 0 ≠ 0) := hide fun p hp => by
            by_cases e : p = i
            · rw [e]; exact h0
            · exact HS.out p (by omega)
          generalize st.getD i 0 = z at cs h0
          have hbb : (z != 0) = true := bne_iff_ne.2 h0
          clear h0 hsl
          go_wp2_with fail
          go_roundw
          case rel => exact ⟨i + 1, st, tr, by omega, by go_num, HD, HF, HS2, HB⟩
          case measure => simp [intOf]; omega
      · have HAc := hide (HF.out.acy fun p hp => HS.out p (by rw [HNN.out] at hp; omega))
        go_wp2_with fail
        go_ret
        exact ⟨HB.out, .inr ⟨rfl, HAc.out⟩⟩
  · have z1 : (w.alloc (.cells (Array.replicate n (.int .i64 0)) 3)).heap.size = w.heap.size + 1 := by simp
    have z2 : ((w.alloc (.cells (Array.replicate n (.int .i64 0)) 3)).alloc (.cells (Array.replicate n (.int .i64 0)) 100)).heap.size = w.heap.size + 1 + 1 := by simp
    have b1 := below_new w (.cells (Array.replicate n (.int .i64 0)) 3)
    have b2 := below_new (w.alloc (.cells (Array.replicate n (.int .i64 0)) 3)) (.cells (Array.replicate n (.int .i64 0)) 100)
    have b3 := below_new ((w.alloc (.cells (Array.replicate n (.int .i64 0)) 3)).alloc (.cells (Array.replicate n (.int .i64 0)) 100)) (.cells #[.slice na n nc, .slice (some ⟨w.heap.size + 1, 0, none⟩) n n, .slice (some ⟨w.heap.size, 0, none⟩) n n] 99)
    have f1 : Fx w.heap.size 3 (ints (List.replicate n 0)) (w.alloc (.cells (Array.replicate n (.int .i64 0)) 3)) := by unfold Fx; rw [← ints_rep]; exact heap_alloc_new w _
    have f2 : Fx (w.heap.size + 1) 100 (ints (List.replicate n 0)) ((w.alloc (.cells (Array.replicate n (.int .i64 0)) 3)).alloc (.cells (Array.replicate n (.int .i64 0)) 100)) := by unfold Fx; rw [← ints_rep, ← z1]; exact heap_alloc_new _ _
    have f3 : Fx (w.heap.size + 1 + 1) 99 [.slice na n nc, sl (w.heap.size + 1) n, sl (w.heap.size) n] (((w.alloc (.cells (Array.replicate n (.int .i64 0)) 3)).alloc (.cells (Array.replicate n (.int .i64 0)) 100)).alloc (.cells #[.slice na n nc, .slice (some ⟨w.heap.size + 1, 0, none⟩) n n, .slice (some ⟨w.heap.size, 0, none⟩) n n] 99)) := by unfold Fx; rw [← z2]; exact heap_alloc_new _ _
    have f1' : Fx w.heap.size 3 (ints (List.replicate n 0)) (((w.alloc (.cells (Array.replicate n (.int .i64 0)) 3)).alloc (.cells (Array.replicate n (.int .i64 0)) 100)).alloc (.cells #[.slice na n nc, .slice (some ⟨w.heap.size + 1, 0, none⟩) n n, .slice (some ⟨w.heap.size, 0, none⟩) n n] 99)).drew := (f1.keep (b2.block _ (by rw [z1]; omega))).keep (b3.block _ (by rw [z2]; omega))
    have f2' : Fx (w.heap.size + 1) 100 (ints (List.replicate n 0)) (((w.alloc (.cells (Array.replicate n (.int .i64 0)) 3)).alloc (.cells (Array.replicate n (.int .i64 0)) 100)).alloc (.cells #[.slice na n nc, .slice (some ⟨w.heap.size + 1, 0, none⟩) n n, .slice (some ⟨w.heap.size, 0, none⟩) n n] 99)).drew := f2.keep (b3.block _ (by rw [z2]; omega))
    have f3' : Fx (w.heap.size + 1 + 1) 99 [.slice na n nc, sl (w.heap.size + 1) n, sl (w.heap.size) n] (((w.alloc (.cells (Array.replicate n (.int .i64 0)) 3)).alloc (.cells (Array.replicate n (.int .i64 0)) 100)).alloc (.cells #[.slice na n nc, .slice (some ⟨w.heap.size + 1, 0, none⟩) n n, .slice (some ⟨w.heap.size, 0, none⟩) n n] 99)).drew := f3
    have HD3 : Hid (Dq w.heap.size (w.heap.size + 1 + 1) (w.heap.size + 1) (w.heap.size) (.slice na n nc) (.slice none 0 0) n [] (List.replicate n 0) (List.replicate n 0) (((w.alloc (.cells (Array.replicate n (.int .i64 0)) 3)).alloc (.cells (Array.replicate n (.int .i64 0)) 100)).alloc (.cells #[.slice na n nc, .slice (some ⟨w.heap.size + 1, 0, none⟩) n n, .slice (some ⟨w.heap.size, 0, none⟩) n n] 99)).drew) := hide ⟨f3', f2', f1', ⟨rfl, .inl ⟨rfl, rfl⟩⟩, by simp [Value.ownBlock], by omega, by omega, by omega⟩
    have HB3 : Hid (Below w.heap.size w (((w.alloc (.cells (Array.replicate n (.int .i64 0)) 3)).alloc (.cells (Array.replicate n (.int .i64 0)) 100)).alloc (.cells #[.slice na n nc, .slice (some ⟨w.heap.size + 1, 0, none⟩) n n, .slice (some ⟨w.heap.size, 0, none⟩) n n] 99)).drew) := hide ((b1.trans (b2.mono (by rw [z1]; omega))).trans (b3.mono (by rw [z2]; omega))).drew
    have HF3 : Hid (Df next [] (List.replicate n 0) (List.replicate n 0)) := hide (by rw [← HNN.out]; exact Df.fresh)
    clear z1 z2 b1 b2 b3 f1 f2 f3 f1' f2' f3' hm1 hm2
    generalize (((w.alloc (.cells (Array.replicate n (.int .i64 0)) 3)).alloc (.cells (Array.replicate n (.int .i64 0)) 100)).alloc (.cells #[.slice na n nc, .slice (some ⟨w.heap.size + 1, 0, none⟩) n n, .slice (some ⟨w.heap.size, 0, none⟩) n n] 99)).drew = w3 at *
    generalize w.heap.size + 1 + 1 = W at *
    obtain ⟨sb, hsb⟩ : ∃ k, w.heap.size + 1 = k := ⟨_, rfl⟩
    rw [hsb] at HD3 ⊢
    clear hsb
    have hB : w.heap.size ≤ w3.heap.size := HB3.out.size
    go_wp2_with fail
    go_loopw [17] (fun x wr => ∃ (i : Nat) (st tr : List Int), i ≤ n ∧ x = .int .i64 i ∧ Hid (Dq w.heap.size W sb w.heap.size (.slice na n nc) (.slice none 0 0) n [] st tr wr) ∧ Hid (Df next [] st tr) ∧ Hid (∀ p, p < i → st.getD p 0 ≠ 0) ∧ Hid (Below w.heap.size w wr)) (fun x _ => n - (intOf x).toNat)
    case atStart => exact ⟨0, _, _, by omega, rfl, HD3, HF3, hide (fun p hp => by omega), HB3⟩
    case round =>
      clear HD3 HF3 HB3
      obtain ⟨i, st, tr, hi, rfl, HD, HF, HS, HB⟩ := hrel
      by_cases hlt : i < n
      · have hsl : i < st.length := by rw [HF.out.ls, HNN.out]; exact hlt
        have c1 := HD.out.bx.get (i := 1) rfl
        have cs := HD.out.fs.get (ints_at hsl)
        by_cases h0 : st.getD i 0 = 0
        · have CF := hide (circleFrom_any HL.out (Nat.le_refl _) HB.out.size HB.out HD.out HF.out HNN.out hn ht hlt h0)
          have hBr : w.heap.size ≤ wr.heap.size := HB.out.size
          rw [h0] at cs
          clear h0 hsl HD HF
          go_upto_region 7 with (go_at_call 41; refine CF.out.mono ?_; rintro e w5 ⟨hb5, hc5⟩; have HB5 := hide (HB.out.trans hb5); have HC5 := hide hc5; clear hb5 hc5; rcases HC5.out with ⟨l, v, rfl, hcy, hro⟩ | ⟨st2, tr2, rfl, hd2, hf2, hm2⟩)
          · obtain ⟨va, vc, rfl⟩ := owns_slice hro
            have hlp : 0 < l.length := by have := hcy.ne; cases l with | nil => exact absurd rfl this | cons _ _ => simp
            have HCY := hide hcy
            have HRO := hide hro
            obtain ⟨m, hm⟩ : ∃ m, l.length = m := ⟨_, rfl⟩
            have HM := hide hm
            rw [hm] at hlp ⊢
            clear hcy hro HC5 CF hm
            go_wp2_with fail
            go_ret
            exact ⟨HB5.out, .inl ⟨l, _, rfl, HCY.out, by rw [← HM.out]; exact HRO.out⟩⟩
          · have HD2 := hide hd2
            have HF2 := hide hf2
            have HS2 : Hid (∀ p, p < i + 1 → st2.getD p 0 ≠ 0) := hide fun p hp => hm2 p (by omega) (by
              by_cases e : p = i
              · exact .inr e
              · exact .inl (HS.out p (by omega)))
            clear hd2 hf2 hm2 HC5 CF
            go_wp2_with fail
            go_roundw
            case rel => exact ⟨i + 1, st2, tr2, by omega, by go_num, HD2, HF2, HS2, HB5⟩
            case measure => simp [intOf]; omega
        · have HS2 : Hid (∀ p, p < i + 1 → st.getD p 0 ≠ 0) := hide fun p hp => by
            by_cases e : p = i
            · rw [e]; exact h0
            · exact HS.out p (by omega)
          generalize st.getD i 0 = z at cs h0
          have hbb : (z != 0) = true := bne_iff_ne.2 h0
          clear h0 hsl
          go_wp2_with fail
          go_roundw
          case rel => exact ⟨i + 1, st, tr, by omega, by go_num, HD, HF, HS2, HB⟩
          case measure => simp [intOf]; omega
      · have HAc := hide (HF.out.acy fun p hp => HS.out p (by rw [HNN.out] at hp; omega))
        go_wp2_with fail
        go_ret
        exact ⟨HB.out, .inr ⟨rfl, HAc.out⟩⟩
set_option maxRecDepth 100000 in
set_option maxHeartbeats 3200000 in
theorem cycle_any {w : World} {next : List (List Int)} {na : Option Addr} {nc : Nat} (hL : Lists w.heap.size w next (.slice na next.length nc)) (hn : next.length ≤ 1048576) (ht : total next ≤ 1048576) :
    Calls Tryz.prog 15 #[.slice na next.length nc] w fun e w' => Below w.heap.size w w' ∧ ((∃ l v, e = .returned (.tuple #[v, .bool true]) ∧ IsCyc next l ∧ w'.ownsRow w.heap.size 3 1 v l.length (ints (zn l))) ∨ (e = .returned (.tuple #[.slice none 0 0, .bool false]) ∧ Acy next)) := by
  have C1 := hide (circle_any hL hn ht)
  clear hL
  go_enter Tryz.func15, Tryz.ntmps15
  go_upto_region 2 with (go_at_call 24; refine C1.out.mono ?_; rintro e w5 ⟨hb5, hc5⟩; have HB5 := hide hb5; have HC5 := hide hc5; clear hb5 hc5; rcases HC5.out with ⟨l, v, rfl, hcy, hro⟩ | ⟨rfl, hac⟩)
  · obtain ⟨va, vc, rfl⟩ := owns_slice hro
    have hlp : 0 < l.length := by have := hcy.ne; cases l with | nil => exact absurd rfl this | cons _ _ => simp
    have HCY := hide hcy
    have HRO := hide hro
    obtain ⟨m, hm⟩ : ∃ m, l.length = m := ⟨_, rfl⟩
    have HM := hide hm
    rw [hm] at hlp ⊢
    clear hcy hro HC5 C1 hm
    go_wp2_with fail
    go_ret2
    exact ⟨HB5.out, .inl ⟨l, _, rfl, HCY.out, by rw [← HM.out]; exact HRO.out⟩⟩
  · have HAc := hide hac
    clear hac HC5 C1
    go_wp2_with fail
    go_ret2
    exact ⟨HB5.out, .inr ⟨rfl, HAc.out⟩⟩
end Go.Proofs.YtbdlgglbcaoakaaGreat.Pr
