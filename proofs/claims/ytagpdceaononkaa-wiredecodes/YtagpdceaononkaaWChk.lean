/- Check. -/
import Derived.Test.YtagpdceaononkaaWStp
namespace Go.Proofs.Ytagpdceaononkaa
open Go.RowKit

theorem chk_step {l : List StM} {k : Nat} {s : StM} (h : l[k]? = some s) : chkF k (l.drop k) = if mayM s then chkF (k + 1) (l.drop (k + 1)) else (201, (k : Int)) := by rw [drop_at h]; rfl
def dup (x : Int × Int) : Value := .tuple #[.int .i64 x.1, .int .i64 x.2]
theorem ret_dup {a b : Int} {x : Int × Int} (h : (a, b) = x) : Ending.returned (.tuple #[.int .i64 a, .int .i64 b]) = .returned (dup x) := by rw [← h]; rfl
set_option maxRecDepth 100000 in
set_option maxHeartbeats 6400000 in
theorem check_any {N : Nat} {w : World} {l : List StM} {a : Option Addr} {c : Nat} (hN : N ≤ w.heap.size) (hl : l.length ≤ 140737488351232) (h : Sts N w l a) :
    Calls Try.prog 9 #[.slice a l.length c] w fun e w' => e = .returned (dup (chkM l)) ∧ Below w.heap.size w w' := by
  by_cases hbig : 65536 < l.length
  · have hm : (3, 0) = chkM l := by unfold chkM; rw [if_pos hbig]
    have HM := hide hm
    clear h hm
    go_enter Try.func9, Try.ntmps9
    go_wp2_with fail
    go_ret2
    exact ⟨ret_dup HM.out, Below.refl _ _⟩
  · obtain ⟨o, ho⟩ : ∃ o, chkM l = o := ⟨_, rfl⟩
    rw [ho]
    have HO : Hid (chkF 0 (l.drop 0) = o) := hide (by rw [← ho, List.drop_zero]; unfold chkM; rw [if_neg hbig])
    have HH := hide h
    have HN := hide hN
    clear h ho hN
    go_enter Try.func9, Try.ntmps9
    go_wp2_with fail
    go_loopw [11] (fun x wr => ∃ (k : Nat), k ≤ l.length ∧ x = .int .i64 k ∧ Hid (chkF k (l.drop k) = o) ∧ Hid (Below w.heap.size w wr)) (fun x _ => l.length - (intOf x).toNat)
    case atStart => exact ⟨0, by omega, rfl, HO, hide (Below.refl _ _)⟩
    case round =>
      clear HO
      obtain ⟨k, hk, rfl, HK, HB⟩ := hrel
      by_cases hlt : k < l.length
      · obtain ⟨s, hs⟩ := get_at hlt
        obtain ⟨g, of, ca, cc, rfl, -, c0, c1, c2, c3, c4, hcl, hch⟩ := (HH.out.keep (w' := wr) fun g hg => HB.out.block g (by have := HN.out; omega)) k s hs
        have HS := hide (HK.out.symm.trans (chk_step hs))
        have hA := below_new wr (.cells (stc s ca cc).toArray 52)
        have hF := five_cells (fx_new wr (stc s ca cc) 52)
        have HB2 := hide (HB.out.trans (hA.mono HB.out.size))
        have HCH := hide (hch.keep (w' := wr.alloc (.cells (stc s ca cc).toArray 52)) fun g hg => hA.block g (by have := HN.out; have := HB.out.size; omega))
        have CM := hide (mayBe_any (by have := HN.out; have := HB2.out.size; omega) hcl HCH.out (cc := cc))
        clear hs hch HK hA HCH
        go_upto_region 6 with fail
        unfold stc at CM HB2 hF
        generalize wr.alloc (.cells [.int .i64 s.tag, .int .i64 s.lit, .int .i64 s.how, .int .i64 s.rule, .slice ca s.ch.length cc].toArray 52) = w2 at *
        obtain ⟨q0, q1, q2, q3, q4⟩ := hF
        clear c0 c1 c2 c3 c4
        unfold stv at CM
        by_cases hm : mayM s = true
        · rw [hm] at CM
          have HN2 := hide (HS.out.trans (if_pos hm))
          clear hm HS
          go_wp2_with (go_at_call 21; refine CM.out.mono ?_; rintro _ w3 ⟨rfl, hb3⟩; have HB3 := hide (HB2.out.trans (hb3.mono HB2.out.size)); clear hb3)
          go_roundw
          case rel => exact ⟨k + 1, by omega, by go_num, hide HN2.out.symm, HB3⟩
          case measure => simp [intOf]; omega
        · have HN2 := hide (HS.out.trans (if_neg hm))
          have hm' : mayM s = false := by cases hx : mayM s; rfl; exact absurd hx hm
          rw [hm'] at CM
          clear hm hm' HS
          go_wp2_with (go_at_call 21; refine CM.out.mono ?_; rintro _ w3 ⟨rfl, hb3⟩; have HB3 := hide (HB2.out.trans (hb3.mono HB2.out.size)); clear hb3)
          go_ret2
          exact ⟨ret_dup HN2.out.symm, HB3.out⟩
      · have HE : Hid ((0, (l.length : Int)) = o) := hide (by have := HK.out; rw [drop_end (by omega)] at this; rw [← this, show k = l.length by omega]; rfl)
        clear HK
        go_wp2_with fail
        go_ret2
        exact ⟨ret_dup HE.out, HB.out⟩
end Go.Proofs.Ytagpdceaononkaa
