/- SymbolsScript's walk. -/
import Derived.Test.YtijpdoclmplclaaScript1
import Derived.Test.YtijpdoclmplclaaArgSteps
namespace Go.Proofs.Ytijpdoclmplclaa
open Go.RowKit Go.Shelf Go.Maps

set_option maxRecDepth 100000 in
set_option maxHeartbeats 12800000 in
theorem scriptW (n : Int) (a : Option Addr) (len c : Nat) (w : World) (hn : len ≤ 140737488351232) (ht : Steps w a len) : Calls Try.prog 4 #[.int .i64 n, .slice a len c] w fun e w' => e = .returned (.bool true) ∧ Below w.heap.size w w' := by
  have CN := hide num_any
  by_cases hm : 1 ≤ n ∧ n ≤ 4096
  · obtain ⟨h1, h2⟩ := hm
    have HT := hide ht
    have C1 := hide (new_any (Z := fun k => w.heap.size ≤ k) n w (fun _ h => h) h1 h2)
    clear ht
    go_enter Try.func4, Try.ntmps4
    go_wp2_with fail
    refine C1.out.mono ?_
    rintro _ w1 ⟨B, M, rfl, hT1, hb1⟩
    have HS := hide (two_start hT1 hb1)
    have hp : ((w1.alloc (.cells #[ptr B] 22)).alloc (.cells #[.int .i64 n, .slice none 0 0] 41)).cell? ⟨w1.heap.size, 0, none⟩ = some (ptr B) := by simp
    clear hT1 hb1 C1
    go_wp2_with (first | (go_at_call 8; go_in) | (go_at_call 13; refine (CN.out _ _).mono ?_; rintro _ wn ⟨rfl, hwn⟩; subst wn))
    go_loopw [9] (fun x wr => ∃ k : Nat, k ≤ len ∧ x = .int .i64 k ∧ Hid (Both w w1.heap.size (w1.heap.size + 1) n wr)) (fun x _ => len - (intOf x).toNat)
    case atStart => exact ⟨0, by omega, rfl, HS⟩
    case round =>
      obtain ⟨k, hk, rfl, HB⟩ := hrel
      by_cases hlt : k < len
      · obtain ⟨g, o, what, s, m, rfl, c0, c1, c2, hg, hs⟩ := HT.out k hlt
        have hbw : Below w.heap.size w wr := by obtain ⟨B', ra, rc, l, hI⟩ := HB.out.inv; exact hI.bel
        have q0 := (World.cell?_of_block (hbw.block g hg)).trans c0
        have q1 := (World.cell?_of_block (hbw.block g hg)).trans c1
        have q2 := (World.cell?_of_block (hbw.block g hg)).trans c2
        have HBD : Hid (Both w w1.heap.size (w1.heap.size + 1) n wr.drew) := by obtain ⟨B', ra, rc, l, hI⟩ := HB.out.inv; exact hI.drew.both
        have CD := hide (does_inv HBD.out what s m hs)
        clear c0 c1 c2 hbw hg HS hp
        go_upto_region 12 with fail
        go_cut [55] from 33 to 55 (fun x wc => x = .bool false ∧ Hid (Both w w1.heap.size (w1.heap.size + 1) n wc))
        case first =>
          go_region_with (first | (go_at_call 15; refine CD.out.mono ?_; rintro _ w2 ⟨rfl, B2, ra, rc, l, HI, y0, y1, y2⟩) | (go_at_call 16; refine (len_inv HI.out).mono ?_; rintro _ w3 ⟨rfl, hw3⟩; subst w3))
          all_goals (go_wp2_with fail; go_meet)
          all_goals exact ⟨rfl, hide HI.out.both⟩
        case rest =>
          obtain ⟨rfl, HW⟩ := hcut
          clear CD
          go_wp2_with fail
          go_roundw
          case rel => exact ⟨k + 1, by omega, by go_num, HW⟩
          case measure => simp [intOf]; omega
      · obtain ⟨B2, ra, rc, l, hI⟩ := HB.out.inv
        have HI := hide hI
        have HID := hide hI.drew
        have hl := hI.len
        obtain ⟨y0, y1⟩ := hI.rd
        clear hI HS hp
        go_upto_region 14 with fail
        go_region_with (first
          | (go_at_call 18; refine (names_inv HID.out).mono ?_; rintro _ wA ⟨va, vc, rfl, HA, yA, zA⟩)
          | (go_at_call 17; refine (sameS_inv HA.out).mono ?_; rintro _ wB ⟨rfl, HB2, yB, zB⟩)
          | (go_at_call 20; first | (refine (sorted_b HD1.out).mono ?_; rintro _ wE ⟨ea, ec, rfl, HE2, yE, zE⟩) | (refine (sorted_a HB2.out).mono ?_; rintro _ wC ⟨ca, cc, rfl, HC1, yC, zC⟩))
          | (go_at_call 21; first | (refine (rsorted_b HC1.out).mono ?_; rintro _ wE ⟨ea, ec, rfl, HE2, yE, zE⟩) | (refine (rsorted_a HB2.out).mono ?_; rintro _ wD ⟨da, dc, rfl, HD1, yD, zD⟩))
          | (go_at_call 19; refine (sameI_inv HE2.out).mono ?_; rintro _ wF ⟨rfl, HF⟩)
          | (go_at_call 14; refine (alive_inv HF.out).mono ?_; rintro _ wG ⟨rfl, HG⟩))
        all_goals (go_wp2_with fail; go_ret; exact ⟨rfl, HG.out.bel⟩)
  · have C1 := hide (new_not n w hm)
    have CA := hide (fun w => alive_any w)
    have hA : Hid (Below w.heap.size w (w.alloc (.cells #[.pointer none] 22))) := (Below.refl _ _).alloc (Nat.le_refl _) _
    by_cases h : 1 ≤ n
    · have h2 : 4096 < n := by omega
      clear hm ht
      go_enter Try.func4, Try.ntmps4
      go_wp2_with (first | (go_at_call 7; refine C1.out.mono ?_; rintro _ wn ⟨rfl, hwn⟩; subst wn) | (go_at_call 8; go_in) | (go_at_call 13; refine (CN.out _ _).mono ?_; rintro _ wn ⟨rfl, hwn⟩; subst wn))
      refine (CA.out _).mono ?_
      rintro _ w3 ⟨rfl, hb3⟩
      have HB3 := hide (hA.out.trans (hb3.mono hA.out.size))
      clear hb3
      go_wp2_with fail
      go_ret
      exact ⟨rfl, HB3.out⟩
    · have h2 : n < 1 := by omega
      clear hm ht h
      go_enter Try.func4, Try.ntmps4
      go_wp2_with (first | (go_at_call 7; refine C1.out.mono ?_; rintro _ wn ⟨rfl, hwn⟩; subst wn) | (go_at_call 8; go_in) | (go_at_call 13; refine (CN.out _ _).mono ?_; rintro _ wn ⟨rfl, hwn⟩; subst wn))
      refine (CA.out _).mono ?_
      rintro _ w3 ⟨rfl, hb3⟩
      have HB3 := hide (hA.out.trans (hb3.mono hA.out.size))
      clear hb3
      go_wp2_with fail
      go_ret
      exact ⟨rfl, HB3.out⟩
end Go.Proofs.Ytijpdoclmplclaa
