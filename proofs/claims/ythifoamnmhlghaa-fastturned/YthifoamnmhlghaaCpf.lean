/- CopyInts, CopyIntLists: what they answer lies in memory of its own. -/
import Derived.Test.YthifoamnmhlghaaFlf
namespace Go.Proofs.Ythifoamnmhlghaa.Fa
open Go.RowKit

set_option maxRecDepth 100000 in
set_option maxHeartbeats 6400000 in
theorem copyInts_any {N : Nat} {w : World} {l : List Int} {a : Option Addr} {c : Nat} (h : Ints N w l (.slice a l.length c)) (hN : N ≤ w.heap.size) (hl : l.length ≤ 1048576) :
    Calls Try.prog 59 #[.slice a l.length c] w fun e w' => ∃ v, e = .returned v ∧ w'.ownsRow w.heap.size 3 1 v l.length (ints l) ∧ Below w.heap.size w w' := by
  obtain ⟨iI, hiI, zI0, zI1, zI2⟩ := info_parts infoI
  have HL := hide h
  obtain ⟨n, hnn⟩ : ∃ n, l.length = n := ⟨_, rfl⟩
  have HNN := hide hnn
  rw [hnn] at hl HL ⊢
  clear h hnn
  go_enter Try.func59, Try.ntmps59
  go_wp2_with fail
  go_loopw [3, 4] (fun mv x wr => ∃ (k : Nat) (ma : Option Addr) (mc : Nat), k ≤ n ∧ x = .int .i64 k ∧ mv = .slice ma k mc ∧ Hid (wr.ownsRow w.heap.size 3 1 (.slice ma k mc) k (ints (l.take k))) ∧ Hid (Below w.heap.size w wr)) (fun _ x _ => n - (intOf x).toNat)
  case atStart => exact ⟨0, none, 0, by omega, rfl, rfl, hide ⟨rfl, .inl ⟨rfl, rfl⟩⟩, hide (Below.refl _ _)⟩
  case round =>
    obtain ⟨k, ma, mc, hk, rfl, rfl, HO, HB⟩ := hrel
    by_cases hlt : k < n
    · obtain ⟨z, hz⟩ := get_at (l := l) (i := k) (by rw [HNN.out]; exact hlt)
      obtain ⟨g2, o2, rfl, hg2, hcz0⟩ := at_I HL.out hz
      have hcz := (World.cell?_of_block (HB.out.block g2 (by omega))).trans hcz0
      have HT : Hid (ints (l.take (k + 1)) = ints (l.take k) ++ [.int .i64 z]) := hide (by rw [take_snoc hz, ints_snoc])
      have hA := below_new wr (.cells #[.int .i64 z] 3)
      have HROW := hide (owns_keep HO.out fun g hg => hA.block g (owns_lt HO.out hg))
      have hs := HB.out.size
      have HOL : Hid (∀ g, Value.ownBlock (.slice ma k mc) = some g → w.heap.size ≤ g) := hide fun g e => (HO.out.lt g e).1
      clear hA hz hcz0 HO
      go_wp2_with (at_builtin; go_must (refine wpList_append_two _ rfl _ _ 26 rfl w.heap.size 3 iI _ 1 8 Try.underlying26 hiI zI0 zI1 zI2 rfl (by decide) _ _ (ints (l.take k)) rfl HROW.out ⟨wr.heap.size, 0, none⟩ 1 [.int .i64 z] rfl rfl (cell_one_new _ _ _) (by intro u hu; simp at hu; subst hu; rfl) (by unfold maxLen; omega) (by omega) (by simp; omega) ?_); intro g4 cap4 w4 hown4 hg4; have HO4 := hide hown4; have HB4 : Hid (Below w.heap.size w w4) := hide (HB.out.trans ((grown_fr (Z := fun k => w.heap.size ≤ k) rfl (by rcases hg4 with h | ⟨h1, h2⟩; exact .inl h; exact .inr ⟨by simpa using h1, h2⟩) HOL.out).below fun k hk => ⟨by omega, by omega⟩)); clear hown4 hg4)
      go_roundw
      case rel => exact ⟨k + 1, some ⟨g4, 0, none⟩, cap4, by omega, by go_num, rfl, hide (by rw [HT.out]; exact HO4.out), HB4⟩
      case measure => simp [intOf]; omega
    · have HE : Hid (wr.ownsRow w.heap.size 3 1 (.slice ma n mc) n (ints l)) := hide (by have := HO.out; rw [show k = n by omega, List.take_of_length_le (by rw [HNN.out]; omega)] at this; exact this)
      have hkn : k = n := by omega
      subst hkn
      clear HO
      go_wp2_with fail
      go_ret
      exact ⟨_, rfl, HE.out, HB.out⟩
/-- A list in one cell, in blocks of Z. -/
def cLz (Z : Nat → Prop) (w : World) (a : List Int) (xs : List Value) : Prop := ∃ v, xs = [v] ∧ RZ Z 1 cI w a v
theorem cLz_ag : ∀ Z Z' w w' x xs, Ag Z Z' w w' → cLz Z w x xs → cLz Z' w' x xs := fun _ _ _ _ _ _ hag ⟨v, e, h⟩ => ⟨v, e, RZ.keep h hag fun _ _ h => h⟩
theorem lists_rz {Z : Nat → Prop} {N : Nat} {w : World} {l : List (List Int)} {v : Value} (h : RZ Z 1 (cLz Z) w l v) (hz : ∀ g, Z g → g < N) : Lists N w l v :=
  RZ.rr h hz fun _ _ ⟨v, e, hv⟩ => ⟨v, e, RZ.rr hv hz fun _ _ h => h⟩
theorem rz_ints {Z : Nat → Prop} {b : Nat} {w : World} {v : Value} {l : List Int} (h : w.ownsRow b 3 1 v l.length (ints l)) (hz : ∀ g, v.ownBlock = some g → Z g) (hl : l.length ≤ 140737488351232) : RZ Z 1 cI w l v :=
  RZ.of_owns h hz hl fun i x hi => by
    unfold cI ints
    rw [Nat.mul_one, ← List.map_drop, drop_at hi]
    rfl
set_option maxRecDepth 100000 in
set_option maxHeartbeats 6400000 in
theorem copyLists_any {N : Nat} {w : World} {next : List (List Int)} {a : Option Addr} {c : Nat} (h : Lists N w next (.slice a next.length c)) (hN : N ≤ w.heap.size) (hn : next.length ≤ 1048576) (ht : ∀ (i : Nat) (l : List Int), next[i]? = some l → l.length ≤ 1048576) :
    Calls Try.prog 34 #[.slice a next.length c] w fun e w' => ∃ va vc, e = .returned (.slice va next.length vc) ∧ Gz 26 1 cLz w next next.length (.slice va next.length vc) w' := by
  obtain ⟨iL, hiL, zL0, zL1, zL2⟩ := info_parts infoL
  have HL := hide h
  have HRL : Hid (∀ (i : Nat) (l : List Int), next[i]? = some l → l.length ≤ 1048576) := hide ht
  obtain ⟨n, hnn⟩ : ∃ n, next.length = n := ⟨_, rfl⟩
  have HNN := hide hnn
  rw [hnn] at hn HL ⊢
  clear h hnn
  go_enter Try.func34, Try.ntmps34
  go_wp2_with fail
  go_loopw [3, 4] (fun mv x wr => ∃ (k : Nat) (ma : Option Addr) (mc : Nat), k ≤ n ∧ x = .int .i64 k ∧ mv = .slice ma k mc ∧ Hid (Gz 26 1 cLz w (next.take k) k (.slice ma k mc) wr)) (fun _ x _ => n - (intOf x).toNat)
  case atStart => exact ⟨0, none, 0, by omega, rfl, rfl, hide Gz.nil⟩
  case round =>
    obtain ⟨k, ma, mc, hk, rfl, rfl, HG⟩ := hrel
    have HB := hide HG.out.low
    by_cases hlt : k < n
    · obtain ⟨r, hr⟩ := get_at (l := next) (i := k) (by rw [HNN.out]; exact hlt)
      obtain ⟨g1, o1, a2, c2, rfl, hg1, hc0, hrc, _, hI⟩ := at_L HL.out hr
      have hc1 := (World.cell?_of_block (HB.out.block g1 (by omega))).trans hc0
      have hrl := HRL.out k r hr
      have CC := hide (copyInts_any (w := wr) (Ints.keep (fun g hg => HB.out.block g (by omega)) hI) (Nat.le_trans hN HB.out.size) hrl)
      have HT := hide (take_snoc hr)
      obtain ⟨m, hm⟩ : ∃ m, r.length = m := ⟨_, rfl⟩
      have HMM := hide hm
      rw [hm] at hc1 hrc hrl CC
      have hs := HB.out.size
      clear hr hI hm hc0
      go_upto_region 5 with fail
      go_wp2_with (first | (at_builtin; go_must (refine wpList_append_two _ rfl _ _ 22 rfl w.heap.size 26 iL _ 1 24 Try.underlying22 hiL zL0 zL1 zL2 rfl (by decide) _ _ xs rfl HROW.out ⟨wd.heap.size, 0, none⟩ 1 [.slice va m vc] rfl rfl (cell_one_new _ _ _) (by intro u hu; simp at hu; subst hu; rfl) (by unfold maxLen; omega) (by omega) (by simp; omega) ?_); intro g4 cap4 w4 hown4 hg4; have HO4 := hide hown4; have HG5 := hide hg4; clear hown4 hg4) | (go_at_call 59; refine CC.out.mono ?_; rintro e wd ⟨v, rfl, hv, hbd⟩; obtain ⟨va, vc, rfl⟩ := owns_slice hv; have HV := hide hv; have HBD := hide hbd; clear hv hbd; obtain ⟨hlow, hlen, Z, xs, hrow, hz, hold⟩ := HG.out; have HXS := hide hrow; have HZ := hide hz; have HOL := hide hold; have HLE := hide hlen; have HROW := hide (owns_keep hrow fun g hg => (HBD.out.trans ((below_new wd (.cells #[.slice va m vc] 26)).mono HBD.out.size)).block g (owns_lt hrow hg)); clear hlow hlen hrow hz hold; have hsd := HBD.out.size))
      have HG4 : Hid (Gz 26 1 cLz w (next.take k ++ [r]) (k + 1) (.slice (some ⟨g4, 0, none⟩) (k + 1) cap4) w4) := hide (Gz.grow cLz_ag HB.out HLE.out HXS.out HZ.out HOL.out HBD.out ⟨_, rfl, rz_ints (by rw [HMM.out]; exact HV.out) (fun g e => HV.out.lt g e) (by rw [HMM.out]; omega)⟩ (ys := [.slice va m vc]) rfl HO4.out (by rcases HG5.out with h | ⟨h1, h2⟩; exact .inl h; exact .inr ⟨by simpa using h1, h2⟩))
      go_roundw
      case rel => exact ⟨k + 1, some ⟨g4, 0, none⟩, cap4, by omega, by go_num, rfl, hide (by rw [HT.out]; exact HG4.out)⟩
      case measure => simp [intOf]; omega
    · have hkn : k = n := by omega
      subst hkn
      have HE : Hid (Gz 26 1 cLz w next k (.slice ma k mc) wr) := hide (by
        have := HG.out
        rw [List.take_of_length_le (by rw [HNN.out]; omega)] at this
        exact this)
      clear HG
      go_wp2_with fail
      go_ret
      exact ⟨_, _, rfl, HE.out⟩
end Go.Proofs.Ythifoamnmhlghaa.Fa
