/- SymbolsBack's walk. -/
import Derived.Test.YtijpdoclmplclaaArgs
import Derived.Test.YtijpdoclmplclaaSrtP
import Derived.BigFrame
import Derived.BigQuiet
import Derived.Deep.Cut
import Derived.Deep.CutRange
import Derived.Deep.Light
namespace Go.Proofs.Ytijpdoclmplclaa
open Go.RowKit Go.Shelf Go.Maps

set_option maxRecDepth 100000 in
set_option maxHeartbeats 12800000 in
theorem backW (a : Option Addr) (n c : Nat) (w : World) (hn : n ≤ 140737488351232) (ht : Texts w a n) : Calls Try.prog 5 #[.slice a n c] w fun e w' => e = .returned (.bool true) ∧ Below w.heap.size w w' := by
  have HT := hide ht
  have CA := hide (alive_any w)
  have CN := hide num_any
  clear ht
  go_enter Try.func5, Try.ntmps5
  go_wp2_with fail
  refine CA.out.mono ?_
  rintro _ w1 ⟨rfl, hb1⟩
  have HB1 := hide hb1
  have C1 := hide (new_any (Z := fun k => w.heap.size ≤ k) 4096 w1 (z_new (fun _ h => h) hb1.size) (by decide) (by decide))
  clear hb1 CA
  go_wp2_with fail
  refine C1.out.mono ?_
  rintro _ w2 ⟨B, M, rfl, hT2, hb2⟩
  have HB2 := hide (HB1.out.trans (hb2.mono HB1.out.size))
  have HT2 := hide hT2
  clear hb2 hT2 C1 HB1
  go_wp2_with (go_at_call 13; refine (CN.out _ _).mono ?_; rintro _ wn ⟨rfl, hwn⟩; subst wn)
  go_loopw [5] (fun x wr => ∃ k : Nat, k ≤ n ∧ x = .int .i64 k ∧ Hid (∃ nv d sv l, Tab (fun k => w.heap.size ≤ k) B M nv d sv 4096 l wr) ∧ Hid (Below w.heap.size w wr)) (fun x _ => n - (intOf x).toNat)
  case atStart => exact ⟨0, by omega, rfl, hide ⟨_, _, _, _, HT2.out⟩, HB2⟩
  case round =>
    obtain ⟨k, hk, rfl, HTB, HB⟩ := hrel
    by_cases hlt : k < n
    · obtain ⟨nv, d, sv, l, hT⟩ := HTB.out
      obtain ⟨g, o, s, rfl, hc0, hg, hs⟩ := HT.out k hlt
      have hc := (World.cell?_of_block (HB.out.block g hg)).trans hc0
      have HC0 := hide hc0
      have HG := hide hg
      have C2 := hide (add_any hT s (z_new (fun _ h => h) HB.out.size))
      have HO : Hid ((addM 4096 l s.data.toList).2.1 = 0 → isNameB s.data.toList = true ∧ s.data.toList ∈ (addM 4096 l s.data.toList).2.2 ∧ (addM 4096 l s.data.toList).1 = posB (addM 4096 l s.data.toList).2.2 s.data.toList) := add_ok
      generalize (addM 4096 l s.data.toList).1 = an at C2 HO
      generalize (addM 4096 l s.data.toList).2.1 = ae at C2 HO
      generalize (addM 4096 l s.data.toList).2.2 = l' at C2 HO
      clear HTB hT hc0 hg
      go_wp2_with fail
      refine C2.out.mono ?_
      rintro _ w3 ⟨rfl, ⟨nv3, d3, sv3, hT3⟩, hf3⟩
      have HB3 := hide (hf3.low HB.out)
      have HT3 := hide hT3
      have hc3 := (World.cell?_of_block (HB3.out.block g HG.out)).trans HC0.out
      clear hT3 hf3 C2 hc
      by_cases hae : ae = 0
      · subst hae
        obtain ⟨hN, hm, rfl⟩ := HO.out rfl
        have C4 := hide (find_any HT3.out s hs)
        rw [decide_eq_true hm] at C4
        have C5 := hide (name_any HT3.out (posB l' s.data.toList))
        rw [name_pos hm, str_ba] at C5
        have CG : Hid (∀ w4, Below w3.heap.size w3 w4 → Calls Try.prog 22 #[ptr B, .string s] w4 fun e w' => e = .returned (.tuple #[.int .i64 (posB l' s.data.toList), .int .i64 0]) ∧ (∃ nv' d' sv', Tab (fun k => w.heap.size ≤ k) B M nv' d' sv' 4096 l' w') ∧ Fr (fun k => w.heap.size ≤ k) w4 w') := by
          intro w4 hb4
          have := add_any (HT3.out.below hb4) s (z_new (fun _ h => h) (Nat.le_trans HB3.out.size hb4.size))
          rw [add_again hN hm] at this
          exact this
        generalize (posB l' s.data.toList : Int) = ps at C4 C5 CG
        clear HO hN hm
        go_wp2_with (first | (go_at_call 13; refine (CN.out _ _).mono ?_; rintro _ wn ⟨rfl, hwn⟩; subst wn) | (go_at_call 23; refine C4.out.mono ?_; rintro _ w4 ⟨rfl, hw4⟩; subst w4))
        refine C5.out.mono ?_
        rintro _ w5 ⟨rfl, hb5⟩
        have HB5 := hide (HB3.out.trans (hb5.mono HB3.out.size))
        have C6 := hide (CG.out w5 hb5)
        have hc5 := (World.cell?_of_block (HB5.out.block g HG.out)).trans HC0.out
        clear hb5 C5 CG C4
        go_wp2_with fail
        refine C6.out.mono ?_
        rintro _ w6 ⟨rfl, ⟨nv6, d6, sv6, hT6⟩, hf6⟩
        have HB6 := hide (hf6.low HB5.out)
        have HT6 := hide hT6
        have hc6 := (World.cell?_of_block (HB6.out.block g HG.out)).trans HC0.out
        clear hT6 hf6 C6 hc5
        go_wp2_with (go_at_call 13; refine (CN.out _ _).mono ?_; rintro _ wn ⟨rfl, hwn⟩; subst wn)
        go_roundw
        case rel => exact ⟨k + 1, by omega, by go_num, hide ⟨_, _, _, _, HT6.out⟩, HB6⟩
        case measure => simp [intOf]; omega
      · have hbb : (ae == 0) = false := beq_eq_false_iff_ne.2 hae
        clear HO
        go_wp2_with (go_at_call 13; refine (CN.out _ _).mono ?_; rintro _ wn ⟨rfl, hwn⟩; subst wn)
        go_roundw
        case rel => exact ⟨k + 1, by omega, by go_num, hide ⟨_, _, _, _, HT3.out⟩, HB3⟩
        case measure => simp [intOf]; omega
    · obtain ⟨nv, d, sv, l, hT⟩ := HTB.out
      have HTW := hide hT
      have CS := hide (sorted_any hT (z_new (fun _ h => h) HB.out.size))
      clear hT HTB
      go_wp2_with fail
      refine CS.out.mono ?_
      rintro _ w3 ⟨sa, sc, n0, sv3, rfl, hr3, hn3, hT3, hf3⟩
      have HB3 := hide (hf3.low HB.out)
      have HR3 := hide (own_zero hr3)
      have HT3 := hide hT3
      have CM := hide (names_any hT3)
      clear hr3 hn3 hT3 hf3 CS
      go_wp2_with fail
      refine CM.out.mono ?_
      rintro _ w4 ⟨v, rfl, hr4, hb4⟩
      obtain ⟨va, vc, rfl⟩ := owns_slice hr4
      have HB4 := hide (HB3.out.trans (hb4.mono HB3.out.size))
      have HR4 := hide (own_zero hr4)
      have HI4 := hide (owns_keep HR3.out fun g hg => hb4.block g (owns_lt HR3.out hg))
      have HT4 := hide (HT3.out.below hb4)
      have CL := hide (len_any HT4.out)
      have hl := HT4.out.len2
      have HND := hide HT4.out.nodup
      clear hr4 hb4 CM HTW HR3
      go_wp2_with (first | (go_at_call 16; refine CL.out.mono ?_; rintro _ wn ⟨rfl, hwn⟩; subst wn))
      go_loopw [16] (fun x wr => ∃ i : Nat, i ≤ l.length ∧ x = .int .i64 i ∧ Hid (∃ q, wr = w4.drewN q)) (fun x _ => l.length - (intOf x).toNat)
      case atStart => exact ⟨0, by omega, rfl, hide ⟨0, rfl⟩⟩
      case round =>
        obtain ⟨i, hi, rfl, HQ⟩ := hrel
        by_cases hil : i < l.length
        · obtain ⟨gi, ci, e1, k0, -, -⟩ := owns_at HI4.out (ints_at (l := srt l) (i := i) (by rw [srt_length]; exact hil))
          simp only [Value.slice.injEq] at e1
          obtain ⟨rfl, -, rfl⟩ := e1
          have k0 : wr.cell? ⟨gi, i, none⟩ = _ := (by obtain ⟨q, hq⟩ := HQ.out; rw [hq]; exact k0)
          have hp := srt_lt_length hil
          have HRI := hide (fun j (h : j + 1 < l.length) => srt_rises (i := j) HND.out h)
          by_cases hz : i = 0
          · have hi0 : decide ((0 : Int) < (i : Int)) = false := decide_eq_false (by omega)
            generalize (srt l).getD i 0 = p at k0 hp
            have hd0 : decide ((p : Int) < 0) = false := decide_eq_false (by omega)
            have hd1 : decide ((l.length : Int) ≤ p) = false := decide_eq_false (by omega)
            have hd2 : decide (l.length ≤ p) = false := decide_eq_false (by omega)
            have hi1 : decide (0 < i) = false := decide_eq_false (by omega)
            clear HRI HND HR4 HI4 HB3 CN HT HB HT4 CL HT2 HB2 hz
            go_wp2_with fail
            go_quiet (fail)
            go_wp2_with fail
            go_roundw
            case rel => exact ⟨i + 1, by omega, by go_num, hide (by obtain ⟨q, hq⟩ := HQ.out; exact ⟨_, by rw [hq, World.drewN_drewN]⟩)⟩
            case measure => simp [intOf]; omega
          · obtain ⟨j, rfl⟩ : ∃ j, i = j + 1 := ⟨i - 1, by omega⟩
            obtain ⟨gj, cj, e2, k1, -, -⟩ := owns_at HI4.out (ints_at (l := srt l) (i := j) (by rw [srt_length]; omega))
            simp only [Value.slice.injEq, Option.some.injEq, Addr.mk.injEq] at e2
            obtain ⟨⟨rfl, -⟩, -, -⟩ := e2
            have k1 : wr.cell? ⟨gi, j, none⟩ = _ := (by obtain ⟨q, hq⟩ := HQ.out; rw [hq]; exact k1)
            have hp1 := srt_lt_length (l := l) (i := j) (by omega)
            have HR := hide (HRI.out j hil)
            obtain ⟨ga, ca, e3, k2, -, -⟩ := owns_at HR4.out (strs_at hp)
            simp only [Value.slice.injEq] at e3
            obtain ⟨rfl, -, rfl⟩ := e3
            obtain ⟨gb, cb, e4, k3, -, -⟩ := owns_at HR4.out (strs_at hp1)
            simp only [Value.slice.injEq, Option.some.injEq, Addr.mk.injEq] at e4
            obtain ⟨⟨rfl, -⟩, -, -⟩ := e4
            have k2 : wr.cell? ⟨ga, (srt l).getD (j + 1) 0, none⟩ = _ := (by obtain ⟨q, hq⟩ := HQ.out; rw [hq]; exact k2)
            have k3 : wr.cell? ⟨ga, (srt l).getD j 0, none⟩ = _ := (by obtain ⟨q, hq⟩ := HQ.out; rw [hq]; exact k3)
            generalize (srt l).getD (j + 1) 0 = p at k0 k2 hp HR
            generalize (srt l).getD j 0 = p1 at k1 k3 hp1 HR
            generalize l.getD p [] = t at k2 HR
            generalize l.getD p1 [] = t1 at k3 HR
            unfold str at k2 k3
            have hd0 : decide ((p : Int) < 0) = false := decide_eq_false (by omega)
            have hd1 : decide ((l.length : Int) ≤ p) = false := decide_eq_false (by omega)
            have hd2 : decide (l.length ≤ p) = false := decide_eq_false (by omega)
            have hi0 : decide ((0 : Int) < ((j + 1 : Nat) : Int)) = true := decide_eq_true (by omega)
            have hi1 : decide (0 < j + 1) = true := decide_eq_true (by omega)
            have hi2 : decide ((0 : Int) < (j : Int) + 1) = true := decide_eq_true (by omega)
            have hbl : Op.bytesLess t1 t = true := (less_ltB t1 t).trans HR.out
            clear HRI HND HR4 HI4 HB3 CN HT HB HT4 CL HT2 HB2 hz HR
            go_wp2_with fail
            go_quiet (fail)
            go_wp2_with fail
            go_roundw
            case rel => exact ⟨j + 1 + 1, by omega, by go_num, hide (by obtain ⟨q, hq⟩ := HQ.out; exact ⟨_, by rw [hq, World.drewN_drewN]⟩)⟩
            case measure => simp [intOf]; omega
        · go_wp2_with fail
          go_ret
          obtain ⟨q, hq⟩ := HQ.out
          subst hq
          exact ⟨rfl, HB4.out.trans (below_drewN w4 q |>.mono (by have := HB4.out.size; omega))⟩
end Go.Proofs.Ytijpdoclmplclaa
