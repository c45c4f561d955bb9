/- The closure of coneOf. -/
import Derived.Test.YtdmnoeooljofcaaPlcC
namespace Go.Proofs.Ytdmnoeooljofcaa.Cz
open Go.RowKit

theorem reach_snoc {l : List Int} {x : Int} {s : List Bool × List Int} : reachM (l ++ [x]) s = reachM [x] (reachM l s) := by
  induction l generalizing s with
  | nil => rfl
  | cons y l ih =>
    obtain ⟨R, W⟩ := s
    show reachM (l ++ [x]) _ = reachM [x] (reachM l _)
    exact ih
theorem reach_yes {x : Int} {R : List Bool} {W : List Int} (h : R.getD x.toNat false = true) : reachM [x] (R, W) = (R, W) := by
  show (if R.getD x.toNat false then (R, W) else _) = _
  rw [if_pos h]
theorem reach_no {x : Int} {R : List Bool} {W : List Int} (h : R.getD x.toNat false = false) : reachM [x] (R, W) = (R.set x.toNat true, W ++ [x]) := by
  show (if R.getD x.toNat false then (R, W) else _) = _
  rw [if_neg (by rw [h]; decide)]
/-- What the closure keeps: two boxes, what is reached, what waits. -/
structure Co (B rb wb g n : Nat) (R : List Bool) (W : List Int) (wv : Value) (w : World) : Prop where
  bx : Fx rb 80 [.slice (some ⟨g, 0, none⟩) n n] w
  wx : Fx wb 38 [wv] w
  rr : Fx g 4 (bools R) w
  ro : w.ownsRow B 3 1 wv W.length (ints W)
  lo : B ≤ rb ∧ B ≤ wb ∧ B ≤ g
  ln : R.length = n
section
variable {B rb wb g n : Nat} {R : List Bool} {W : List Int} {wv : Value} {w w' : World}
theorem Co.mark (h : Co B rb wb g n R W wv w) (i : Nat) : Co B rb wb g n (R.set i true) W wv (w.setCell ⟨g, i, none⟩ (.bool true)) := by
  refine ⟨h.bx.keep (other_set (fx_ne h.bx h.rr (by decide))), h.wx.keep (other_set (fx_ne h.wx h.rr (by decide))), ?_, owns_keep h.ro fun k hk => other_set fun e => own_fx h.ro h.rr (by decide) (e ▸ hk), h.lo, by rw [List.length_set]; exact h.ln⟩
  rw [← bools_set]
  exact h.rr.set i _
theorem Co.more (h : Co B rb wb g n R W wv w) {x : Int} {g4 cap4 : Nat} {ob : Obj} (hown : w'.ownsRow B 3 1 (.slice (some ⟨g4, 0, none⟩) (W.length + 1) cap4) (W.length + 1) (ints W ++ [.int .i64 x]))
    (hg : (wv.ownBlock = some g4 ∧ (w.alloc ob).grownBy w' (some g4)) ∨ (g4 = w.heap.size + 1 ∧ (w.alloc ob).grownBy w' none)) :
    w'.cell? ⟨wb, 0, none⟩ = some wv ∧ w'.frozen? ⟨wb, 0, none⟩ = false ∧ Co B rb wb g n R (W ++ [x]) (.slice (some ⟨g4, 0, none⟩) (W.length + 1) cap4) (w'.setCell ⟨wb, 0, none⟩ (.slice (some ⟨g4, 0, none⟩) (W.length + 1) cap4)) ∧ (B ≤ w.heap.size → Below B w (w'.setCell ⟨wb, 0, none⟩ (.slice (some ⟨g4, 0, none⟩) (W.length + 1) cap4))) := by
  have ho : ∀ k, k < w.heap.size → wv.ownBlock ≠ some k → w'.heap[k]? = w.heap[k]? := fun k hk hn => grown_old rfl hg hk hn
  have b1 := h.bx.keep (ho _ h.bx.lt (own_fx h.ro h.bx (by decide)))
  have b2 := h.wx.keep (ho _ h.wx.lt (own_fx h.ro h.wx (by decide)))
  have b3 := h.rr.keep (ho _ h.rr.lt (own_fx h.ro h.rr (by decide)))
  refine ⟨b2.get rfl, b2.frz 0, ⟨b1.keep (other_set (fx_ne b1 b2 (by decide))), b2.set 0 _, b3.keep (other_set (fx_ne b3 b2 (by decide))), ?_, h.lo, h.ln⟩, fun hB => ?_⟩
  · rw [List.length_append, ints_snoc]
    exact owns_keep hown fun k hk => other_set fun e => own_fx hown b2 (by decide) (e ▸ hk)
  · exact ((grown_fr (Z := fun k => B ≤ k) rfl hg fun g e => (h.ro.lt g e).1).below fun k hk => ⟨by omega, by omega⟩).setCell (p := ⟨wb, 0, none⟩) h.lo.2.1 _
end
set_option maxRecDepth 100000 in
set_option maxHeartbeats 6400000 in
theorem reach_any {B rb wb g n : Nat} {R : List Bool} {W l : List Int} {w : World} {a : Option Addr} {c : Nat} (h : ∃ wv, Co B rb wb g n R W wv w) (hB : B ≤ w.heap.size) (hl : Ints B w l (.slice a l.length c)) (hin : ∀ x ∈ l, 0 ≤ x ∧ x < (n : Int)) (hs : lackN R + W.length ≤ 4096) :
    Calls Try.prog 57 #[.slice a l.length c, ptr rb, ptr wb] w fun e w' => e = .returned (.tuple #[]) ∧ (∃ wv, Co B rb wb g n (reachM l (R, W)).1 (reachM l (R, W)).2 wv w') ∧ Below B w w' := by
  obtain ⟨iI, hiI, zI0, zI1, zI2⟩ := info_parts infoI
  have hRn : R.length = n := by obtain ⟨_, h1⟩ := h; exact h1.ln
  have HRn := hide hRn
  have HL := hide hl
  have HI := hide hin
  have hlim := hl.lim
  have HS := hide hs
  have H0 := hide h
  clear hl hin hs h hRn
  go_enter Try.func57, Try.ntmps57
  go_wp2_with fail
  go_loopw [8] (fun x wr => ∃ k : Nat, k ≤ l.length ∧ x = .int .i64 k ∧ Hid (∃ wv, Co B rb wb g n (reachM (l.take k) (R, W)).1 (reachM (l.take k) (R, W)).2 wv wr) ∧ Hid (Below B w wr)) (fun x _ => l.length - (intOf x).toNat)
  case atStart => exact ⟨0, by omega, rfl, H0, hide (Below.refl _ _)⟩
  case round =>
    clear H0
    obtain ⟨k, hk, rfl, HC, HW⟩ := hrel
    by_cases hlt : k < l.length
    · obtain ⟨x, hx⟩ := get_at hlt
      obtain ⟨ga, oa, rfl, hga, cx⟩ := at_I (HL.out.keep HW.out.block) hx
      obtain ⟨hx0, hx1⟩ := HI.out x (List.mem_of_getElem? hx)
      obtain ⟨xm, rfl⟩ := Int.eq_ofNat_of_zero_le hx0
      obtain ⟨wv, hc⟩ := HC.out
      have rc := reach_rc (l := l.take k) (R := R) (W := W) fun y hy => by have := HI.out y (List.mem_of_mem_take hy); have := HRn.out; omega
      have HT : Hid (reachM (l.take (k + 1)) (R, W) = reachM [(xm : Int)] (reachM (l.take k) (R, W))) := hide (by rw [take_snoc hx, reach_snoc])
      have hsum := rc.sum
      clear rc HC
      generalize reachM (l.take k) (R, W) = s at *
      obtain ⟨R1, W1⟩ := s
      simp only at hc HT hsum
      have hW1 : W1.length ≤ 4096 := by have := HS.out; omega
      have hB1 : B ≤ wr.heap.size := Nat.le_trans hB HW.out.size
      have hxn : xm < n := by omega
      have cb := hc.bx.get (i := 0) rfl
      have cr := hc.rr.get (boolz_at (R := R1) (k := xm) (by rw [hc.ln]; exact hxn))
      have fr := hc.rr.frz xm
      have HC := hide hc
      clear hx hx0 hx1 hsum hc
      cases hb : R1.getD xm false with
      | true =>
        rw [hb] at cr
        have HT2 : Hid (reachM (l.take (k + 1)) (R, W) = (R1, W1)) := hide (HT.out.trans (reach_yes (by simpa using hb)))
        clear hb HT
        go_wp2_with fail
        go_roundw
        case rel => exact ⟨k + 1, by omega, by go_num, hide (by rw [HT2.out]; exact ⟨wv, HC.out⟩), HW⟩
        case measure => simp [intOf]; omega
      | false =>
        rw [hb] at cr
        have HT2 : Hid (reachM (l.take (k + 1)) (R, W) = (R1.set xm true, W1 ++ [(xm : Int)])) := hide (HT.out.trans (reach_no (by simpa using hb)))
        have HM := hide (HC.out.mark xm)
        have HBm := hide (HW.out.setCell (p := ⟨g, xm, none⟩) HC.out.lo.2.2 (.bool true))
        clear hb HT HC HW
        go_upto_region 5 with fail
        have hsz : (wr.setCell ⟨g, xm, none⟩ (.bool true)).heap.size = wr.heap.size := by simp
        generalize wr.setCell ⟨g, xm, none⟩ (.bool true) = w2 at *
        rw [← hsz] at hB1
        clear cb cr fr cx hsz
        obtain ⟨wa, wc, rfl⟩ := owns_slice HM.out.ro
        have cw := HM.out.wx.get (i := 0) rfl
        obtain ⟨K, hK⟩ : ∃ K, W1.length = K := ⟨_, rfl⟩
        have HK := hide hK
        have hA := below_new w2 (.cells #[.int .i64 xm] 3)
        have HROW : Hid ((w2.alloc (.cells #[.int .i64 xm] 3)).ownsRow B 3 1 (.slice wa K wc) K (ints W1)) := hide (by
          have := owns_keep HM.out.ro fun g hg => hA.block g (owns_lt HM.out.ro hg)
          rw [HK.out] at this
          exact this)
        rw [hK] at cw hW1
        clear hA hK
        go_upto_region 6 with (at_builtin; go_must (refine wpList_append_two _ rfl _ _ 38 rfl B 3 iI _ 1 8 Try.underlying38 hiI zI0 zI1 zI2 rfl (by decide) _ _ (ints W1) rfl HROW.out ⟨w2.heap.size, 0, none⟩ 1 [.int .i64 xm] rfl rfl (cell_one_new _ _ _) (by intro u hu; simp at hu; subst hu; rfl) (by unfold maxLen; omega) (by omega) (by simp; omega) ?_); intro g4 cap4 w4 hown4 hg4; have HFin := hide (HM.out.more (w' := w4) (x := xm) (g4 := g4) (cap4 := cap4) (by rw [HK.out]; exact hown4) (by rw [HK.out]; rcases hg4 with h | ⟨h1, h2⟩; exact .inl h; exact .inr ⟨by simpa using h1, h2⟩)); rw [HK.out] at HFin; clear hown4 hg4; obtain ⟨hFa, hFb, hFc, hFd⟩ := HFin.out; have HFc := hide hFc; have HFd := hide (hFd hB1); clear hFc hFd HFin)
        have HB4 := hide (HBm.out.trans HFd.out)
        clear hFa hFb cw HROW HM HFd HBm
        generalize w4.setCell ⟨wb, 0, none⟩ (.slice (some ⟨g4, 0, none⟩) (K + 1) cap4) = w5 at *
        go_wp2_with fail
        go_roundw
        case rel => exact ⟨k + 1, by omega, by go_num, hide (by rw [HT2.out]; exact ⟨_, HFc.out⟩), HB4⟩
        case measure => simp [intOf]; omega
    · have hkl : l.take k = l := List.take_of_length_le (by omega)
      have HC2 : Hid (∃ wv, Co B rb wb g n (reachM l (R, W)).1 (reachM l (R, W)).2 wv wr) := hide (by have := HC.out; rw [hkl] at this; exact this)
      clear HC hkl
      go_wp2_with fail
      go_end0
      exact ⟨rfl, HC2.out, HW.out⟩
end Go.Proofs.Ytdmnoeooljofcaa.Cz
