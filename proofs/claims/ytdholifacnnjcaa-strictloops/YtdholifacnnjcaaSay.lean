/- put, and say. -/
import Derived.Test.YtdholifacnnjcaaCk
namespace Go.Proofs.Ytdholifacnnjcaa
open Go.RowKit

def putM (s : Cs) (l : Int) : Cs := if hit s.cm l then s else { s with cm := s.cm.set l.toNat true, qu := s.qu ++ [l] }
theorem bool_at {R : List Bool} {k : Nat} (h : k < R.length) : (bools R)[k]? = some (.bool (R.getD k false)) := by
  unfold bools
  rw [List.getElem?_map, List.getElem?_eq_getElem h, List.getD_eq_getElem?_getD, List.getElem?_eq_getElem h]
  rfl
theorem int_at {l : List Int} {k : Nat} (h : k < l.length) : (ints l)[k]? = some (.int .i64 (l.getD k 0)) := by
  unfold ints
  rw [List.getElem?_map, List.getElem?_eq_getElem h, List.getD_eq_getElem?_getD, List.getElem?_eq_getElem h]
  rfl
section
variable {K : Nat → Prop} {a : Adr} {n R : Nat} {s : Cs} {H : List (List Int)} {vs : List Value} {w : World}
set_option maxRecDepth 100000 in
set_option maxHeartbeats 6400000 in
theorem put_any {l : Int} {b : Bool} (hhit : hit s.cm l = b) (h : ∃ qv, Ck K a n R s H vs qv w) (hl : 0 ≤ l ∧ l < (n : Int)) (hcm : s.cm.length = n) (hs : s.qu.length ≤ 4096) :
    Calls Try.prog 41 #[.int .i64 l, ptr a.cb, ptr a.qb] w fun e w' => e = .returned (.bool (!b)) ∧ (∃ qv, Ck K a n R (putM s l) H vs qv w') ∧ Fr (fun k => ¬ K k) w w' := by
  obtain ⟨iI, hiI, zI0, zI1, zI2⟩ := info_parts infoI
  obtain ⟨xm, rfl⟩ := Int.eq_ofNat_of_zero_le hl.1
  obtain ⟨qv, hc⟩ := h
  have hxn : xm < n := by omega
  have cb := hc.cbx.get (i := 0) rfl
  have cr := hc.crw.get (bool_at (R := s.cm) (k := xm) (by omega))
  have fr := hc.crw.frz xm
  have HC := hide hc
  have HH : Hid (s.cm.getD xm false = b) := hide (by rw [← hhit]; unfold hit; simp)
  have HI := hide hhit
  rw [HH.out] at cr
  clear hc hl hcm hhit
  cases b with
  | true =>
    have HP : Hid (putM s (xm : Int) = s) := hide (by unfold putM; rw [HI.out, if_pos rfl])
    go_enter Try.func41, Try.ntmps41
    go_wp2_with fail
    go_ret
    rw [HP.out]
    exact ⟨rfl, ⟨qv, HC.out⟩, Fr.refl _ _⟩
  | false =>
    have HP : Hid (putM s (xm : Int) = { s with cm := s.cm.set xm true, qu := s.qu ++ [(xm : Int)] }) := hide (by unfold putM; rw [HI.out, if_neg (by decide)]; simp)
    have HM := hide (HC.out.mark xm).1
    have HF := hide (HC.out.mark xm).2
    clear HC
    go_enter Try.func41, Try.ntmps41
    go_upto_region 4 with fail
    generalize w.setCell ⟨a.cr, xm, none⟩ (.bool true) = w2 at *
    clear cb cr fr
    have cw := HM.out.qbx.get (i := 0) rfl
    obtain ⟨wa, wc, rfl⟩ := HM.out.qrw.form
    obtain ⟨k, hk⟩ : ∃ k, s.qu.length = k := ⟨_, rfl⟩
    have HK := hide hk
    have HROW : Hid (Qr 0 (w2.alloc (.cells #[.int .i64 xm] 3)) (.slice wa k wc) s.qu) := hide (by
      have := HM.out.qrw.keep fun g hg => (below_new w2 (.cells #[.int .i64 xm] 3)).block g (HM.out.qrw.lt hg).2
      rw [← HK.out]
      exact this)
    simp only [hk] at cw hs
    clear hk
    go_upto_region 5 with (at_builtin; go_must (refine wpList_append_q _ rfl _ _ 26 rfl 0 iI _ Try.underlying26 hiI zI0 zI1 zI2 rfl _ s.qu rfl HROW.out ⟨w2.heap.size, 0, none⟩ 1 xm rfl (cell_one_new _ _ _ 0 _ rfl) (by rw [HK.out]; omega) (Nat.zero_le _) ?_); intro g4 o4 c4 w4 hg4 hq4 hgr4; have HFin := hide (HM.out.grow (w' := w4) (x := xm) (g := g4) (off := o4) (c := c4) hq4 (by rcases hg4 with h | h; exact .inl (by rw [← HK.out] at h; exact h); exact .inr (by simp at h; omega)) (by rw [← HK.out] at hgr4; exact hgr4)); rw [HK.out] at HFin ⊢; clear hq4 hgr4 hg4; obtain ⟨hFa, hFb, hFc, hFd⟩ := HFin.out; have HFc := hide hFc; have HFd := hide hFd; clear hFc hFd HFin)
    have HF4 := hide (HF.out.trans HFd.out)
    clear hFa hFb cw HROW HM HFd HF
    go_wp2_with fail
    go_ret
    rw [HP.out]
    exact ⟨rfl, ⟨_, HFc.out⟩, HF4.out⟩
theorem put_say {l i m : Int} (hb : hit s.cm l = false) : sayM s l i m = { (putM s l) with sg := (putM s l).sg.set l.toNat i, rd := (putM s l).rd.set l.toNat m } := by
  rw [sayM_no hb]
  unfold putM
  rw [hb]
  rfl
set_option maxRecDepth 100000 in
set_option maxHeartbeats 6400000 in
theorem say_any {l i m : Int} (h : ∃ qv, Ck K a n R s H vs qv w) (hl : 0 ≤ l ∧ l < (n : Int)) (hcm : s.cm.length = n) (hsg : s.sg.length = n) (hrd : s.rd.length = n) (hs : s.qu.length ≤ 4096) :
    Calls Try.prog 25 #[.int .i64 l, .int .i64 i, .int .i64 m, ptr a.pb, ptr a.sb] w fun e w' => e = .returned (.tuple #[]) ∧ (∃ qv, Ck K a n R (sayM s l i m) H vs qv w') ∧ Fr (fun k => ¬ K k) w w' := by
  obtain ⟨b, hb⟩ : ∃ b, hit s.cm l = b := ⟨_, rfl⟩
  have CP := hide (put_any hb h hl hcm hs)
  obtain ⟨xm, rfl⟩ := Int.eq_ofNat_of_zero_le hl.1
  have hxn : xm < n := by omega
  have cp : w.cell? ⟨a.pb, 0, none⟩ = some (.func (.func 41) #[] #[ptr a.cb, ptr a.qb]) := by
    obtain ⟨qv, hc⟩ := h
    exact hc.pbx.get (i := 0) rfl
  have HSG : Hid ((putM s (xm : Int)).sg = s.sg ∧ (putM s (xm : Int)).rd = s.rd) := hide (by unfold putM; split <;> exact ⟨rfl, rfl⟩)
  have HL := hide hsg
  have HL2 := hide hrd
  clear h hl hcm hs hsg hrd
  cases b with
  | true =>
    have HP : Hid (sayM s (xm : Int) i m = s ∧ putM s (xm : Int) = s) := hide ⟨sayM_yes hb, by unfold putM; rw [hb]; rfl⟩
    clear hb
    go_enter Try.func25, Try.ntmps25
    go_wp2_with (go_at_call 41; refine CP.out.mono ?_; rintro _ w2 ⟨rfl, hco, hf⟩; have HC := hide hco; have HF := hide hf; clear hco hf)
    go_end0
    rw [HP.out.1]
    have := HC.out
    rw [HP.out.2] at this
    exact ⟨rfl, this, HF.out⟩
  | false =>
    have HP := hide (put_say (s := s) (i := i) (m := m) hb)
    clear hb
    go_enter Try.func25, Try.ntmps25
    go_upto_region 1 with (go_at_call 41; refine CP.out.mono ?_; rintro _ w2 ⟨rfl, hco, hf⟩; have HC := hide hco; have HF := hide hf; clear hco hf)
    clear cp CP
    obtain ⟨qv, hc⟩ := HC.out
    clear HC
    have h1 := hc.sign xm i
    have h2 := h1.1.rnd xm m
    have h3 := hc.rnd xm m
    have s0 := hc.sbx.get (i := 0) rfl
    have s1 := hc.sbx.get (i := 1) rfl
    have c0 := hc.srw.get (int_at (l := (putM s (xm : Int)).sg) (k := xm) (by rw [HSG.out.1, HL.out]; exact hxn))
    have c1 := hc.rrw.get (int_at (l := (putM s (xm : Int)).rd) (k := xm) (by rw [HSG.out.2, HL2.out]; exact hxn))
    have f0 := hc.srw.frz xm
    have f1 := hc.rrw.frz xm
    have d0 := h1.1.rrw.get (int_at (l := (putM s (xm : Int)).rd) (k := xm) (by rw [HSG.out.2, HL2.out]; exact hxn))
    have d1 := h1.1.rrw.frz xm
    have d2 := h3.1.srw.get (int_at (l := (putM s (xm : Int)).sg) (k := xm) (by rw [HSG.out.1, HL.out]; exact hxn))
    have d3 := h3.1.srw.frz xm
    have e0 := h1.1.sbx.get (i := 0) rfl
    have e1 := h1.1.sbx.get (i := 1) rfl
    have e2 := h3.1.sbx.get (i := 0) rfl
    have e3 := h3.1.sbx.get (i := 1) rfl
    have HA := hide h2.1
    have HB := hide (h1.2.trans h2.2)
    clear h1 h2 h3 hc
    generalize (putM s (xm : Int)).sg.getD xm 0 = v0 at *
    generalize (putM s (xm : Int)).rd.getD xm 0 = v1 at *
    go_region
    go_wp2_with fail
    go_end0
    rw [HP.out]
    exact ⟨rfl, ⟨qv, HA.out.go (Below.refl _ _).drew⟩, HF.out.trans (HB.out.trans (Fr.of_below (Below.refl _ _).drew))⟩
set_option maxRecDepth 100000 in
set_option maxHeartbeats 6400000 in
theorem met_any {r : Nat} {b : Bool} (h : ∃ qv, Ck K a n R s H vs qv w) (hr : r < R) (hms : s.ms.length = R) (hlo : 0 ≤ s.ms.getD r 0 ∧ s.ms.getD r 0 ≤ 4096) (hb : decide (s.ms.getD r 0 - 1 = 0) = b) :
    Calls Try.prog 43 #[ptr a.kb, .int .i64 r] w fun e w' => e = .returned (.bool b) ∧ (∃ qv, Ck K a n R (metM s r) H vs qv w') ∧ Fr (fun k => ¬ K k) w w' := by
  obtain ⟨qv, hc⟩ := h
  have k0 := hc.kbx.get (i := 0) rfl
  have c0 := hc.mrw.get (int_at (l := s.ms) (k := r) (by omega))
  have f0 := hc.mrw.frz r
  have hm := hc.miss r (s.ms.getD r 0 - 1)
  have k1 := hm.1.kbx.get (i := 0) rfl
  have c1 : (w.setCell ⟨a.mr, r, none⟩ (.int .i64 (s.ms.getD r 0 - 1))).cell? ⟨a.mr, r, none⟩ = some (.int .i64 (s.ms.getD r 0 - 1)) := hm.1.mrw.get (by show (ints (s.ms.set r _))[r]? = _; unfold ints; rw [List.getElem?_map, List.getElem?_set_self (by omega)]; rfl)
  have HM := hide hm.1
  have HF := hide hm.2
  have HB := hide hb
  clear hm hc hb
  unfold metM
  generalize s.ms.getD r 0 = v0 at *
  go_enter Try.func43, Try.ntmps43
  go_wp2_with fail
  go_ret
  exact ⟨by rw [← HB.out]; rfl, ⟨qv, HM.out⟩, HF.out⟩
set_option maxRecDepth 100000 in
set_option maxHeartbeats 6400000 in
theorem refute_any {r : Nat} {h : Int} {b : Bool} (hck : ∃ qv, Ck K a n R s H vs qv w) (hr : r < R) (hrf : s.rf.length = R) (hh : 0 ≤ h ∧ h < (n : Int)) (hop : s.op.length = n) (hlo : 0 ≤ gi s.op h ∧ gi s.op h ≤ 4096) (hb : (!s.rf.getD r false && decide (gi s.op h - 1 = 0)) = b) :
    Calls Try.prog 44 #[ptr a.kb, .int .i64 r, .int .i64 h] w fun e w' => e = .returned (.bool b) ∧ (∃ qv, Ck K a n R (refM s r h) H vs qv w') ∧ Fr (fun k => ¬ K k) w w' := by
  obtain ⟨qv, hc⟩ := hck
  obtain ⟨xm, rfl⟩ := Int.eq_ofNat_of_zero_le hh.1
  have hxn : xm < n := by omega
  have k1 := hc.kbx.get (i := 1) rfl
  have c1 := hc.frw.get (bool_at (R := s.rf) (k := r) (by omega))
  have f1 := hc.frw.frz r
  have HC := hide hc
  have HB := hide hb
  unfold refM
  cases hf : s.rf.getD r false with
  | true =>
    rw [hf] at c1
    have HB2 : Hid (b = false) := hide (by rw [← HB.out, hf]; rfl)
    clear hb hf hc hlo
    rw [if_pos rfl]
    go_enter Try.func44, Try.ntmps44
    go_wp2_with fail
    go_ret
    exact ⟨by rw [HB2.out]; rfl, ⟨qv, HC.out⟩, Fr.refl _ _⟩
  | false =>
    rw [hf] at c1
    have hm := hc.refu r
    have k2 := hm.1.kbx.get (i := 2) rfl
    have c2 := hm.1.orw.get (int_at (l := s.op) (k := xm) (by omega))
    have f2 := hm.1.orw.frz xm
    have hm2 := hm.1.opn xm (s.op.getD xm 0 - 1)
    have k3 := hm2.1.kbx.get (i := 2) rfl
    have c3 : ((w.setCell ⟨a.fr, r, none⟩ (.bool true)).setCell ⟨a.oo, xm, none⟩ (.int .i64 (s.op.getD xm 0 - 1))).cell? ⟨a.oo, xm, none⟩ = some (.int .i64 (s.op.getD xm 0 - 1)) := hm2.1.orw.get (by show (ints (s.op.set xm _))[xm]? = _; unfold ints; rw [List.getElem?_map, List.getElem?_set_self (by omega)]; rfl)
    have HM := hide hm2.1
    have HF := hide (hm.2.trans hm2.2)
    have HB2 : Hid (b = decide (s.op.getD xm 0 - 1 = 0)) := hide (by rw [← HB.out, hf]; show (true && decide (gi s.op (xm : Int) - 1 = 0)) = _; rw [gi_nat, Bool.true_and])
    rw [gi_nat] at hlo
    clear hb hf hc hm hm2 HB HC
    rw [if_neg (by decide), gi_nat]
    simp only [Int.toNat_natCast]
    generalize s.op.getD xm 0 = v0 at *
    go_enter Try.func44, Try.ntmps44
    go_wp2_with fail
    go_ret
    exact ⟨by rw [HB2.out]; rfl, ⟨qv, HM.out⟩, HF.out⟩
set_option maxRecDepth 100000 in
set_option maxHeartbeats 6400000 in
theorem follows_any {r : Nat} {i h : Int} {b : Bool} (hck : ∃ qv, Ck K a n R s H vs qv w) (hi : i = 1 ∨ i = 2) (hr : r < R) (hms : s.ms.length = R) (hlm : 0 ≤ s.ms.getD r 0 ∧ s.ms.getD r 0 ≤ 4096) (hrf : s.rf.length = R) (hh : 0 ≤ h ∧ h < (n : Int)) (hop : s.op.length = n) (hlo : 0 ≤ gi s.op h ∧ gi s.op h ≤ 4096) (hb : folM s i r h = b) :
    Calls Try.prog 28 #[ptr a.kb, .int .i64 i, .int .i64 r, .int .i64 h] w fun e w' => e = .returned (.bool b) ∧ (∃ qv, Ck K a n R (stepM s i r h) H vs qv w') ∧ Fr (fun k => ¬ K k) w w' := by
  rcases hi with rfl | rfl
  · have CM := hide (met_any (b := b) hck hr hms hlm hb)
    clear hck hms hlm hrf hop hlo hb hh hr
    go_enter Try.func28, Try.ntmps28
    go_wp2_with (go_at_call 43; refine CM.out.mono ?_; rintro _ w2 ⟨rfl, hco, hf⟩; have HC := hide hco; have HF := hide hf; clear hco hf)
    go_ret
    exact ⟨rfl, HC.out, HF.out⟩
  · have CM := hide (refute_any (b := b) hck hr hrf hh hop hlo hb)
    clear hck hms hlm hrf hop hlo hb hh hr
    go_enter Try.func28, Try.ntmps28
    go_wp2_with (go_at_call 44; refine CM.out.mono ?_; rintro _ w2 ⟨rfl, hco, hf⟩; have HC := hide hco; have HF := hide hf; clear hco hf)
    go_ret
    exact ⟨rfl, HC.out, HF.out⟩
end
end Go.Proofs.Ytdholifacnnjcaa
