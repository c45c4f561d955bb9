/- slices.SortStableFunc on places, by the program's closure: rows of up to 4096 places. -/
import Derived.Test.YthpbadnedhjncaaDoorSymAny
import Derived.Test.YthpbadnedhjncaaDoorStabPlain
import Derived.Test.YthpbadnedhjncaaDoorShareS
namespace Go.Proofs.YthpbadnedhjncaaDoor
open Go.RowKit Go.Shelf Go.Lib Go.Sort

set_option maxHeartbeats 4000000 in
set_option maxRecDepth 1000000 in
theorem stable_any {k : Nat} (r : Nat → Nat) (g : Nat) (cb : Array Value) (blk cap N : Nat) (d0 : Array (Fin (k + 1))) (w0 w : World)
    (eg : ∀ args w, (callFunc g args).run Tryd.prog w = .ok (.enter g args) w) (hcmp : CmpLays1 Tryd.prog g cb encP (cfP (k := k) r) blk 0 d0.size w0)
    (R : Row1 encP w0 blk 0 d0) (hN : d0.size = N) (hsz : N ≤ 4096) (h0 : 0 < N) (hid : ∀ i, i < N → fa d0 i = i) (S : SW encP w0 blk 0 d0 w) :
    Calls Tryd.prog 72 #[.slice (some ⟨blk, 0, none⟩) N cap, .int .i64 (N : Int), .func (.func g) #[] cb] w fun e w' => e = .returned (.tuple #[]) ∧ ∃ d' : Array (Fin (k + 1)), Blk r (fa d') 0 N ∧ d'.size = N ∧ SW encP w0 blk 0 d' w' := by
  have CI : Hid (∀ (a b : Nat) (dk : Array (Fin (k + 1))) (W : World), dk.size = N → SW encP w0 blk 0 dk W → a ≤ b → b ≤ N → (∀ i, a ≤ i → i < b → fa dk i = i) →
      Calls Tryd.prog 83 #[.slice (some ⟨blk, 0, none⟩) N cap, .int .i64 (a : Int), .int .i64 (b : Int), .func (.func g) #[] cb] W fun e w' => e = .returned (.tuple #[]) ∧ ∃ d' : Array (Fin (k + 1)), d'.size = N ∧ SameOn (fa dk) (fa d') a b ∧ Srt r (fa d') a b ∧ SW encP w0 blk 0 d' w') := by
    intro a b dk W hdk S1 hab hb hi
    have := Tryd.insertionSortCmpFunc_s encP (cfP r) g cb blk 0 cap a b d0 dk w0 W eg hcmp R (by omega) S1 hab (by omega) (by omega)
    rw [hdk] at this
    refine this.mono ?_
    rintro e w' ⟨rfl, S2⟩
    obtain ⟨s1, s2, s3⟩ := ins_srt r a b dk hab (by omega) (fun x y x1 xy y2 => by rw [hi x x1 (by omega), hi y (by omega) y2]; exact xy)
    exact ⟨rfl, _, by omega, s2, s3, S2⟩
  have CM : Hid (∀ (a m b : Nat) (d : Array (Fin (k + 1))) (W : World), d.size = N → SW encP w0 blk 0 d W → a < m → m < b → b ≤ N → Blk r (fa d) a m → Blk r (fa d) m b →
      Calls Tryd.prog 84 #[.slice (some ⟨blk, 0, none⟩) N cap, .int .i64 (a : Int), .int .i64 (m : Int), .int .i64 (b : Int), .func (.func g) #[] cb] W (Merged r blk d0 d w0 a b)) := by
    intro a m b d W hd S1 h1 h2 h3 b1 b2
    have := sym_any r g cb blk cap d0 w0 eg hcmp R (by omega) (b - a) a m b d W (Nat.le_refl _) (by omega) S1 h1 h2 (by omega) b1.1 b2.1 (blk_left b1 b2)
    rw [hN] at this
    exact this
  have S0 : Aside (SW encP w0 blk 0 d0 w) := S
  have HID : Hid (Ph1 r (fa d0) 0 N) := ⟨⟨0, rfl⟩, fun s h1 _ => absurd h1 (by omega), fun i _ h2 => hid i h2⟩
  clear S hcmp eg R hid
  go_enter Tryd.func72, Tryd.ntmps72
  go_wp2_with fail
  go_loopg [7, 8] N (fun kx va vb wr => ∃ (a : Nat) (dk : Array (Fin (k + 1))), va = .int .i64 (a : Int) ∧ vb = .int .i64 ((a : Int) + 20) ∧ a ≤ N ∧ N - a ≤ kx ∧ dk.size = N ∧ Aside (SW encP w0 blk 0 dk wr) ∧ Hid (Ph1 r (fa dk) a N))
  case atStart => exact ⟨0, d0, rfl, rfl, Nat.zero_le _, by omega, hN, S0, HID⟩
  case round =>
    clear S0 HID
    obtain ⟨a, dk, rfl, rfl, haN, hkx, hdk, S1, HP⟩ := hrel
    by_cases hlt : a + 20 ≤ N
    · have hltz : (a : Int) + 20 ≤ (N : Int) := by omega
      have hc := CI.out a (a + 20) dk wr hdk S1.out (by omega) hlt (fun i i1 i2 => HP.out.i i i1 (by omega))
      rw [show ((a + 20 : Nat) : Int) = (a : Int) + 20 by omega] at hc
      have HC := hide hc
      clear hc S1
      go_wp2_with (go_at_call 83; refine HC.out.mono ?_; rintro _ w2 ⟨rfl, d2, hd2, hs2, hr2, S2⟩)
      have HP2 := hide (HP.out.step hlt hs2 hr2)
      have SS : Aside (SW encP w0 blk 0 d2 w2) := S2
      clear HC hs2 hr2 S2 HP
      go_roundg (N - (a + 20))
      case measure => omega
      case rel => exact ⟨a + 20, d2, by go_num, by go_num, hlt, Nat.le_refl _, hd2, SS, HP2⟩
    · have hltz : ¬ (a : Int) + 20 ≤ (N : Int) := by omega
      have hc := CI.out a N dk wr hdk S1.out haN (Nat.le_refl _) (fun i i1 i2 => HP.out.i i i1 i2)
      have HC := hide hc
      clear hc S1
      go_wp2_with (go_at_call 83; refine HC.out.mono ?_; rintro _ w2 ⟨rfl, d2, hd2, hs2, hr2, S2⟩)
      have HB := hide (HP.out.done haN (by omega) hs2 hr2)
      have SS : Aside (SW encP w0 blk 0 d2 w2) := S2
      clear HC hs2 hr2 S2 HP CI
      go_loopg [6, 7, 8, 9] N (fun kx vz _ _ _ wr => ∃ (z : Nat) (dk : Array (Fin (k + 1))), vz = .int .i64 (z : Int) ∧ 20 ≤ z ∧ z ≤ 8192 ∧ N - z ≤ kx ∧ dk.size = N ∧ Aside (SW encP w0 blk 0 dk wr) ∧ Hid (Blks r (fa dk) z N 0))
      case atStart => exact ⟨20, d2, rfl, Nat.le_refl _, by omega, by omega, hd2, SS, HB⟩
      case round =>
        clear SS HB
        obtain ⟨z, dz, rfl, hz0, hz1, hkz, hdz, S3, HB⟩ := hrel
        by_cases hzn : z < N
        · have hznz : (z : Int) < (N : Int) := by omega
          go_wp2_with fail
          go_loopg [7, 8] N (fun kx va vb wr => ∃ (a : Nat) (dk : Array (Fin (k + 1))), va = .int .i64 (a : Int) ∧ vb = .int .i64 ((a : Int) + 2 * (z : Int)) ∧ a ≤ N ∧ N - a ≤ kx ∧ dk.size = N ∧ Aside (SW encP w0 blk 0 dk wr) ∧ Hid (Ph2 r (fa dk) z a N))
          case atStart => exact ⟨0, dz, rfl, by go_num, Nat.zero_le _, by omega, hdz, S3, Ph2.start HB.out⟩
          case round =>
            clear S3 HB
            obtain ⟨a, da, rfl, rfl, haN2, hka, hda, S4, HQ⟩ := hrel
            by_cases hl2 : a + 2 * z ≤ N
            · have hl2z : (a : Int) + 2 * (z : Int) ≤ (N : Int) := by omega
              have tw := HQ.out.two (by omega) (by omega)
              rw [Nat.min_eq_left hl2] at tw
              have hc := CM.out a (a + z) (a + 2 * z) da wr hda S4.out (by omega) (by omega) hl2 tw.1 tw.2
              rw [show ((a + z : Nat) : Int) = (a : Int) + (z : Int) by omega, show ((a + 2 * z : Nat) : Int) = (a : Int) + 2 * (z : Int) by omega] at hc
              have HC := hide hc
              clear hc S4 tw
              go_wp2_with (go_at_call 84; refine HC.out.mono ?_; rintro _ w5 ⟨rfl, d5, hd5, hs5, hr5, S5⟩)
              have HQ2 := hide (HQ.out.step (by omega) hl2 hs5 hr5)
              have SS : Aside (SW encP w0 blk 0 d5 w5) := S5
              clear HC hs5 hr5 S5 HQ
              go_roundg (N - (a + 2 * z))
              case measure => omega
              case rel => exact ⟨a + 2 * z, d5, by first | go_num | (congr 1; omega), by first | go_num | (congr 1; omega), hl2, Nat.le_refl _, by omega, SS, HQ2⟩
            · have hl2z : ¬ (a : Int) + 2 * (z : Int) ≤ (N : Int) := by omega
              by_cases hm : a + z < N
              · have hmz : (a : Int) + (z : Int) < (N : Int) := by omega
                have tw := HQ.out.two hm (by omega)
                rw [Nat.min_eq_right (by omega)] at tw
                have hc := CM.out a (a + z) N da wr hda S4.out (by omega) hm (Nat.le_refl _) tw.1 tw.2
                rw [show ((a + z : Nat) : Int) = (a : Int) + (z : Int) by omega] at hc
                have HC := hide hc
                clear hc S4 tw
                go_wp2_with (go_at_call 84; refine HC.out.mono ?_; rintro _ w5 ⟨rfl, d5, hd5, hs5, hr5, S5⟩)
                have HB2 := hide (HQ.out.done (by omega) hm (by omega) hs5 hr5)
                have SS : Aside (SW encP w0 blk 0 d5 w5) := S5
                clear HC hs5 hr5 S5 HQ
                go_roundg (N - 2 * z)
                case measure => omega
                case rel => exact ⟨2 * z, d5, by first | go_num | (congr 1; omega), by omega, by omega, Nat.le_refl _, by omega, SS, HB2⟩
              · have hmz : ¬ (a : Int) + (z : Int) < (N : Int) := by omega
                have HB2 := hide (HQ.out.done' haN2 (by omega))
                clear HQ
                go_wp2_with fail
                go_roundg (N - 2 * z)
                case measure => omega
                case rel => exact ⟨2 * z, da, by first | go_num | (congr 1; omega), by omega, by omega, Nat.le_refl _, hda, S4, HB2⟩
        · have hznz : ¬ (z : Int) < (N : Int) := by omega
          have hbk := HB.out 0 (Nat.le_refl _) h0 ⟨0, by simp⟩
          rw [Nat.min_eq_right (by omega)] at hbk
          have HK := hide hbk
          clear hbk
          go_wp2_with fail
          go_end0
          exact ⟨rfl, dz, HK.out, hdz, S3.out⟩

theorem sorts_any (k : Nat) (hk : k + 1 ≤ 4096) (r : Nat → Nat) : Sorts k r := by
  intro cb blk cap w0 L R
  have hsz := idArr_size k
  have CI := hide (stable_any r 62 cb blk cap (k + 1) (idArr k) w0 w0 (enters_of Tryd.func62 (by kernel_rfl) rfl) (by rw [hsz]; exact L) R hsz hk (by omega) (fun i hi => fa_idArr k i hi) (SW.start R.hH))
  clear R L
  go_enter Tryd.func61, Tryd.ntmps61
  go_wp2_with (go_at_call 72; refine CI.out.mono ?_; rintro e w1 ⟨rfl, hS⟩)
  go_end0
  exact ⟨rfl, hS⟩

end Go.Proofs.YthpbadnedhjncaaDoor
