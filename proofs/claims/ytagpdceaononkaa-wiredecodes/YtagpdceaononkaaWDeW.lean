/- WireDecodes, walked: true of any bytes; nothing that was there is turned. -/
import Derived.Test.YtagpdceaononkaaRfD
namespace Go.Proofs.Ytagpdceaononkaa
open Go.RowKit

/-- The steps that bytes say, or none; the error; the place. -/
def stepsM (zs : List Int) : List StM := match wholeM zs with
  | .ok l => l
  | .error _ => []
def errM (zs : List Int) : Int := match wholeM zs with
  | .ok _ => 0
  | .error c => c.1
def placeM (zs : List Int) : Int := match wholeM zs with
  | .ok _ => zs.length
  | .error c => c.2
theorem stepsM_ok {zs : List Int} (hz : ∀ z ∈ zs, 0 ≤ z ∧ z ≤ 255) : Okl (stepsM zs) := by
  unfold stepsM
  cases h : wholeM zs with
  | ok l => exact ((whole_iff hz).1 h).1
  | error e => exact ⟨Nat.zero_le _, fun s hs => by simp at hs⟩
theorem Decd.all {zs : List Int} {w w' : World} {e : Ending} (hd : Decd zs w e w') : ∃ a c, e = .returned (.tuple #[.slice a (stepsM zs).length c, .int .i64 (errM zs), .int .i64 (placeM zs)]) ∧ Gs w.heap.size (stepsM zs) (.slice a (stepsM zs).length c) w' := by
  cases h : wholeM zs with
  | ok l =>
    obtain ⟨a, c, he, hg⟩ := Decd.is h hd
    have e1 : stepsM zs = l := by unfold stepsM; rw [h]
    have e2 : errM zs = 0 := by unfold errM; rw [h]
    have e3 : placeM zs = zs.length := by unfold placeM; rw [h]
    rw [e1, e2, e3]
    exact ⟨a, c, he, hg⟩
  | error x =>
    have he := Decd.err (c := x.1) (p := x.2) h hd
    have e1 : stepsM zs = [] := by unfold stepsM; rw [h]
    have e2 : errM zs = x.1 := by unfold errM; rw [h]
    have e3 : placeM zs = x.2 := by unfold placeM; rw [h]
    rw [e1, e2, e3]
    exact ⟨none, 0, he, Gs.nil⟩
theorem byte_mem {zs : List Int} (h : ∀ i : Nat, 0 ≤ zs[i]?.getD 0 ∧ zs[i]?.getD 0 ≤ 255) : ∀ z ∈ zs, 0 ≤ z ∧ z ≤ 255 := by
  intro z hz
  obtain ⟨i, hi, rfl⟩ := List.mem_iff_getElem.1 hz
  simpa [hi] using h i
set_option maxRecDepth 100000 in
set_option maxHeartbeats 12800000 in
theorem wireDecodes_any {w : World} {zs : List Int} {ba : Option Addr} {bc : Nat} (hrow : Row w ba zs) (hcap : zs.length ≤ bc) (hlen : zs.length ≤ 140737488351232) :
    Calls Try.prog 4 #[.slice ba zs.length bc] w fun e w' => e = .returned (.bool true) ∧ Below w.heap.size w w' := by
  have HRB := hide hrow
  have HBY := hide (byte_mem hrow.byte)
  have HSO := hide (stepsM_ok (byte_mem hrow.byte))
  have CC := hide (copy_any ba zs.length bc zs w rfl (by omega) hrow)
  have CN := hide (fun e w => lnum_any e w)
  have hs6 := HSO.out.len
  clear hrow
  go_enter Try.func4, Try.ntmps4
  go_upto_region 2 with (go_at_call 17; refine CC.out.mono ?_; rintro _ w1 ⟨v1, rfl, ho1, hb1⟩; obtain ⟨oa, oc, rfl⟩ := owns_slice ho1; have HO1 := hide ho1; have HB1 := hide hb1; clear ho1 hb1)
  obtain ⟨r1, r2, r3⟩ := row_of_owns HO1.out HBY.out
  have HR1 := hide r1
  have CD := hide (decode_any r1 r2 r3 hlen)
  clear r1 r2 r3 CC
  go_upto_region 3 with (go_at_call 18; refine CD.out.mono ?_; rintro _ w2 ⟨hd, hb2⟩; obtain ⟨a2, c2, rfl, hg2⟩ := hd.all; have HG2 := hide hg2; have HS2 := hide hb2.size; have HR2 := hide (HR1.out.below hb2 (Nat.le_refl _)); have HB2 := hide (HB1.out.trans (hb2.mono HB1.out.size)); clear hd hg2 hb2)
  have CE := hide (rdecode_any (HRB.out.below HB2.out (Nat.le_refl _)) hcap hlen)
  clear CD
  go_upto_region 4 with (go_at_call 19; refine CE.out.mono ?_; rintro _ w3 ⟨hd, hb3⟩; obtain ⟨a3, c3, rfl, hg3⟩ := hd.all; have HG3 := hide hg3; have HG2' := hide (HG2.out.keep (fun g _ hl => hb3.block g hl) hb3.size); have HR3 := hide (HR2.out.below hb3 (Nat.le_refl _)); have HB3 := hide (HB2.out.trans (hb3.mono HB2.out.size)); clear hd hg3 hb3)
  clear CE HG2
  generalize stepsM zs = sl at *
  generalize errM zs = er at *
  generalize placeM zs = pl at *
  have CS := hide (sameSteps_yes (c := c2) (d := c3) (HG2'.out.chl HSO.out) (HG3.out.chl HSO.out) (Nat.le_refl _) (Nat.le_refl _) (by omega))
  go_wp2_with (first
    | (go_at_call 15; refine CS.out.mono ?_; rintro _ w4 ⟨rfl, hb4⟩; have HB4 := hide (HB3.out.trans (hb4.mono HB3.out.size)); have HR4 := hide (HR3.out.below hb4 (Nat.le_refl _)); have C5 := hide (show Calls Try.prog 14 #[.slice oa zs.length oc, .slice ba zs.length bc] w4 (fun e w' => e = .returned (.bool true) ∧ Below w4.heap.size w4 w') from (decide_eq_true (p := zs = zs) rfl) ▸ same_any oa ba zs.length oc zs.length bc zs zs w4 rfl rfl (by omega) HR4.out (HRB.out.below HB4.out (Nat.le_refl _))); clear hb4)
    | (go_at_call 13; refine (CN.out _ _).mono ?_; rintro _ w9 ⟨rfl, hw⟩; subst w9)
    | (go_at_call 14; refine C5.out.mono ?_; rintro _ w5 ⟨rfl, hb5⟩; have HB5 := hide (HB4.out.trans (hb5.mono HB4.out.size)); have C6 := hide (alive_any w5); clear hb5)
    | (go_at_call 16; refine C6.out.mono ?_; rintro _ w6 ⟨rfl, hb6⟩; have HB6 := hide (HB5.out.trans (hb6.mono HB5.out.size)); clear hb6))
  go_ret
  exact ⟨rfl, HB6.out⟩
end Go.Proofs.Ytagpdceaononkaa
