/- alive. -/
import Derived.Test.YtagpdceaononkaaWDec
import Derived.Test.YtagpdceaononkaaWEnc
import Derived.Test.YtagpdceaononkaaWSam
namespace Go.Proofs.Ytagpdceaononkaa
open Go.RowKit

def oneS : StM := ⟨1, 0, 1, -1, []⟩
theorem one_ok : Okl [oneS] := ⟨by decide, fun s hs => by
  rw [List.mem_singleton] at hs
  subst hs
  exact ⟨by decide, by decide, by decide, by decide, by decide, by decide, by decide, by decide, by decide, fun x hx => by simp [oneS] at hx⟩⟩
theorem one_chk : (chkM [oneS]).1 = 0 := by rw [okl_chk one_ok]
theorem one_enc : encL [oneS] = encB [oneS] := if_pos one_chk
theorem one_len : (encB [oneS]).length = 14 := rfl
theorem one_four : (encB [oneS])[4]? = some 1 := rfl
theorem one_five : (encB [oneS])[5]? = some 1 := rfl
theorem lxd_err : wholeM [108, 120, 100] = .error (8, 3) := by rfl
theorem byts_get {l : List Int} {i : Nat} {z : Int} (h : l[i]? = some z) : (byts l)[i]? = some (.int .u8 z) := by unfold byts; rw [List.getElem?_map, h]; rfl
theorem Gs.chl {B : Nat} {l : List StM} {a : Option Addr} {c : Nat} {w : World} (h : Gs B l (.slice a l.length c) w) (o : Okl l) : Sts w.heap.size w l a := h.sts fun s hs => by have := (o.may s hs).cl; omega
set_option maxRecDepth 100000 in
set_option maxHeartbeats 12800000 in
theorem alive_any (w : World) : Calls Try.prog 16 #[] w fun e w' => e = .returned (.bool true) ∧ Below w.heap.size w w' := by
  have hA := below_new w (.cells #[.int .i64 1, .int .i64 0, .int .i64 1, .int .i64 (-1), .slice none 0 0] 52)
  have hF := five_cells (fx_new w [.int .i64 1, .int .i64 0, .int .i64 1, .int .i64 (-1), .slice none 0 0] 52)
  have hsz : (w.alloc (.cells #[.int .i64 1, .int .i64 0, .int .i64 1, .int .i64 (-1), .slice none 0 0] 52)).heap.size = w.heap.size + 1 := by simp
  have hS : Sts (w.heap.size + 1) (w.alloc (.cells #[.int .i64 1, .int .i64 0, .int .i64 1, .int .i64 (-1), .slice none 0 0] 52)) [oneS] (some ⟨w.heap.size, 0, none⟩) := by
    intro i s hi
    match i, hi with
    | 0, hi =>
      simp at hi
      subst hi
      obtain ⟨c0, c1, c2, c3, c4⟩ := hF
      exact ⟨w.heap.size, 0, none, 0, rfl, by omega, c0, c1, c2, c3, c4, by decide, fun j x hx => by simp [oneS] at hx⟩
  have CE := hide (encode_any (lc := 1) (by rw [hsz]; exact Nat.le_refl _) (by decide) hS)
  have HA := hide hA
  clear hA hF hsz hS
  go_enter Try.func16, Try.ntmps16
  go_upto_region 2 with (go_at_call 11; refine CE.out.mono ?_; rintro _ w1 ⟨a1, c1, rfl, ho1, hb1⟩; rw [one_enc, one_len, one_chk]; rw [one_enc] at ho1; have HO1 := hide ho1; have HB1 := hide (HA.out.trans (hb1.mono HA.out.size)); clear ho1 hb1)
  obtain ⟨r1, r2, r3⟩ := row_of_owns HO1.out (enc_byte one_ok)
  have CD := hide (decode_any r1 r2 r3 (by rw [one_len]; decide))
  rw [one_len] at CD
  clear r1 r2 r3 CE
  go_upto_region 3 with (go_at_call 18; refine CD.out.mono ?_; rintro _ w2 ⟨hd, hb2⟩; obtain ⟨a2, c2, rfl, hg2⟩ := Decd.is (back_told one_ok) hd; have HG2 := hide hg2; have HB2 := hide (HB1.out.trans (hb2.mono HB1.out.size)); have HO2 := hide (owns_keep HO1.out fun g hg => hb2.block g (owns_lt HO1.out hg)); clear hd hg2 hb2)
  have hcv := Lib.run_convert_bytes_const (P := Try.prog) w2 29 5 #[.int .u8 108, .int .u8 120, .int .u8 100] 3 3 Try.underlying29 Try.underlying5
  rw [show (#[.int .u8 108, .int .u8 120, .int .u8 100] : Array Value).size = 3 from rfl] at hcv
  have hL := one_len
  have hB := below_new w2 (.cells #[.int .u8 108, .int .u8 120, .int .u8 100] 5 (3, 4))
  have hK := heap_alloc_new w2 (.cells #[.int .u8 108, .int .u8 120, .int .u8 100] 5 (3, 4))
  have hR : Row (w2.alloc (.cells #[.int .u8 108, .int .u8 120, .int .u8 100] 5 (3, 4))) (some ⟨w2.heap.size, 0, none⟩) [108, 120, 100] := by
    refine ⟨fun _ => ⟨_, _, rfl, fun i hi => ?_⟩, bytes_getD (fun z hz => by simp at hz; omega)⟩
    rw [cell_of_row _ _ _ _ _ _ hK]
    have : i = 0 ∨ i = 1 ∨ i = 2 := by simp at hi; omega
    rcases this with rfl | rfl | rfl <;> rfl
  have CL := hide (decode_any (bc := 3) hR (by simp) (by intro h; cases h) (by simp))
  have HB3 := hide (HB2.out.trans (hB.mono HB2.out.size))
  have HO3 := hide (owns_keep HO2.out fun g hg => hB.block g (owns_lt HO2.out hg))
  have HG3 := hide (HG2.out.keep (fun g _ hl => hB.block g hl) hB.size)
  clear hB hK hR HO2 HG2 HB2 HO1 CD HB1 HA
  go_upto_region 4 with (go_at_call 18; refine CL.out.mono ?_; rintro _ w3 ⟨hd, hb3⟩; have he := Decd.err lxd_err hd; subst he; have HB4 := hide (HB3.out.trans (hb3.mono HB3.out.size)); have HO4 := hide (owns_keep HO3.out fun g hg => hb3.block g (owns_lt HO3.out hg)); have HG4 := hide (HG3.out.keep (fun g _ hl => hb3.block g hl) hb3.size); clear hd hb3)
  clear hcv CL HO3 HG3 HB3
  obtain ⟨g1, rfl, -, -, hc1⟩ := own_news HO4.out (by rw [one_len]; decide)
  have c4 : w3.cell? ⟨g1, 4, none⟩ = some (.int .u8 1) := by have := hc1 4 _ (byts_get one_four); rwa [Addr.add_lit] at this
  have c5 : w3.cell? ⟨g1, 5, none⟩ = some (.int .u8 1) := by have := hc1 5 _ (byts_get one_five); rwa [Addr.add_lit] at this
  obtain ⟨g2, o2, ca, cc, rfl, -, -, -, -, q3, -⟩ := (HG4.out.chl one_ok) 0 oneS rfl
  have k3 : w3.cell? ⟨g2, o2 + 3, none⟩ = some (.int .i64 (-1)) := by simpa [oneS] using q3
  have CN := hide (fun e => lnum_any e w3)
  clear q3 hc1 HO4 HG4
  go_wp2_with (go_at_call 13; refine (CN.out _).mono ?_; rintro _ w9 ⟨rfl, hw⟩; subst w9)
  go_ret
  exact ⟨rfl, HB4.out⟩
end Go.Proofs.Ytagpdceaononkaa
