/- visit. -/
import Derived.Test.YthifoamnmhlghaaShut
import Derived.BigRegion
namespace Go.Proofs.Ythifoamnmhlghaa
open Go.RowKit

section
variable {B W : Nat} {nv : Value} {next : List (List Int)} {n cb bb sb : Nat} {ov kv : Value} {Z : Nat → Prop} {s : Wk} {w w' : World}
/-- One open more. -/
theorem Wi.opened (h : Wi B W nv next n cb bb sb ov kv Z s w) (hB : B ≤ w.heap.size) {x : Int} {K oc : Nat} {oa : Option Addr} (hK : s.opn.length = K) (hov : ov = .slice oa s.opn.length oc) {g4 cap4 : Nat} {ob : Obj} (hown : w'.ownsRow B 3 1 (.slice (some ⟨g4, 0, none⟩) (K + 1) cap4) (K + 1) (ints s.opn ++ [.int .i64 x]))
    (hg : (Value.ownBlock (.slice oa K oc) = some g4 ∧ (w.alloc ob).grownBy w' (some g4)) ∨ (g4 = w.heap.size + 1 ∧ (w.alloc ob).grownBy w' none)) :
    w'.cell? ⟨W, 4, none⟩ = some (.slice oa K oc) ∧ w'.frozen? ⟨W, 4, none⟩ = false ∧ Wi B W nv next n cb bb sb (.slice (some ⟨g4, 0, none⟩) (K + 1) cap4) kv Z { s with opn := s.opn ++ [x] } (w'.setCell ⟨W, 4, none⟩ (.slice (some ⟨g4, 0, none⟩) (K + 1) cap4)) ∧ Below B w (w'.setCell ⟨W, 4, none⟩ (.slice (some ⟨g4, 0, none⟩) (K + 1) cap4)) := by
  subst hK
  rw [← hov] at hg ⊢
  have hoW : ov.ownBlock ≠ some W := own_fx h.ro h.bx (by decide)
  have ho : ∀ k, k < w.heap.size → ov.ownBlock ≠ some k → w'.heap[k]? = w.heap[k]? := fun k hk hn => grown_old rfl hg hk hn
  have hbx := h.bx.keep (ho _ h.bx.lt hoW)
  have hfc := h.fc.keep (ho _ h.fc.lt h.ne.2.1)
  have hfb := h.fb.keep (ho _ h.fb.lt h.ne.2.2)
  have hfs := h.fs.keep (ho _ h.fs.lt (own_fx h.ro h.fs (by decide)))
  obtain ⟨xs, k1, _⟩ := h.rk
  obtain ⟨l1, l2, l3, l4⟩ := h.lo
  have hz := h.hz (.inl rfl)
  have hzo : ∀ g, Z g → (w'.setCell ⟨W, 4, none⟩ (.slice (some ⟨g4, 0, none⟩) (s.opn.length + 1) cap4)).heap[g]? = w.heap[g]? := fun g hg => by
    obtain ⟨_, _, _, h4, vs, h5⟩ := h.z g hg
    rw [other_set (hz g hg)]
    exact ho g h5.lt h4
  have hn4 : ∀ g, g < w.heap.size → ov.ownBlock ≠ some g → g4 ≠ g := fun g hl hn e => by
    subst e
    rcases hg with ⟨h1, _⟩ | ⟨h1, _⟩
    · exact hn h1
    · omega
  refine ⟨hbx.get (by rw [hov]; rfl), hbx.frz 4, ⟨hbx.set 4 _, h.nx.keep fun g hg => ?_, h.lo, hfc.keep (other_set (fx_ne hfc hbx (by decide))), hfb.keep (other_set (fx_ne hfb hbx (by decide))), hfs.keep (other_set (fx_ne hfs hbx (by decide))), ?_, ⟨h.ne.1, fun e => ?_, fun e => ?_⟩, knots_keep h.rk (fun g hg => ?_) hzo, fun g hg => ?_⟩, ?_⟩
  · rw [other_set (by omega)]
    exact ho g (by omega) fun e => by have := (h.ro.lt g e).1; omega
  · show World.ownsRow _ _ _ _ _ (s.opn ++ [x]).length (ints (s.opn ++ [x]))
    rw [List.length_append, ints_snoc]
    exact owns_keep hown fun g e => other_set fun (e2 : g = W) => own_fx hown hbx (by decide) (e2 ▸ e)
  · exact hn4 cb h.fc.lt h.ne.2.1 (by simpa [Value.ownBlock] using e)
  · exact hn4 bb h.fb.lt h.ne.2.2 (by simpa [Value.ownBlock] using e)
  · rw [other_set fun (e : g = W) => own_fx k1 h.bx (by decide) (e ▸ hg)]
    exact ho g (owns_lt k1 hg) (own_ne2 (owns_down h.ro (Nat.zero_le _)) (owns_down k1 (Nat.zero_le _)) (by decide) hg)
  · obtain ⟨h1, h2, h3, h4, vs, h5⟩ := h.z g hg
    exact ⟨h1, h2, h3, fun e => hn4 g h5.lt h4 (by simpa [Value.ownBlock] using e), vs, h5.keep (hzo g hg)⟩
  · exact ((grown_fr (Z := fun k => B ≤ k) rfl hg fun g e => (h.ro.lt g e).1).below fun k hk => ⟨by omega, by omega⟩).setCell (p := ⟨W, 4, none⟩) h.lo.1 _
end
set_option maxRecDepth 100000 in
set_option maxHeartbeats 12800000 in
theorem visit_step {B W : Nat} {nv : Value} {next : List (List Int)} {n cb bb sb : Nat} (hn : n ≤ 4096) (hnl : next.length = n) (hnx : ∀ (i : Nat) l, next[i]? = some l → ∀ z ∈ l, 0 ≤ z ∧ z < (n : Int)) (f : Nat)
    (ih : ∀ (s : Wk) (w : World) (p : Nat), WI B W nv next n cb bb sb s w → B ≤ w.heap.size → OkW n s → p < n → s.came.getD p 0 = 0 → unv s.came ≤ f →
      Calls Try.prog 78 #[ptr W, .int .i64 p] w fun e w' => e = .returned (.tuple #[]) ∧ WI B W nv next n cb bb sb (visitM next f p s) w' ∧ Below B w w')
    (s : Wk) (w : World) (p : Nat) (h : WI B W nv next n cb bb sb s w) (hB : B ≤ w.heap.size) (ho : OkW n s) (hp : p < n) (h0 : s.came.getD p 0 = 0) (hu : unv s.came ≤ f + 1) :
    Calls Try.prog 78 #[ptr W, .int .i64 p] w fun e w' => e = .returned (.tuple #[]) ∧ WI B W nv next n cb bb sb (visitM next (f + 1) p s) w' ∧ Below B w w' := by
  obtain ⟨iI, hiI, zI0, zI1, zI2⟩ := info_parts infoI
  obtain ⟨ov, kv, Z, hw⟩ := h
  have hcl0 := ho.c0
  have hcl1 := ho.c1
  have hol := ho.ol
  obtain ⟨c0, c1, c2, c3, c4, c5, c6⟩ := hw.cells
  have kfr := hw.bx.frz 3
  have W1 := hide (hw.clock (s.clock + 1))
  have HB1 := hide ((Below.refl B w).setCell (p := ⟨W, 3, none⟩) hw.lo.1 (.int .i64 (s.clock + 1)))
  have hck : s.clock + 1 ≤ 4096 := by have := (ho.come (p := p) ⟨by omega, by omega⟩ (by simpa using h0)).2; omega
  clear hw
  go_enter Try.func78, Try.ntmps78
  go_upto_region 1 with fail
  have hBw1 : B ≤ (w.setCell ⟨W, 3, none⟩ (.int .i64 (s.clock + 1))).heap.size := by simp; omega
  clear c0 c1 c2 c3 c4 c5 c6 kfr
  generalize w.setCell ⟨W, 3, none⟩ (.int .i64 (s.clock + 1)) = w1 at *
  obtain ⟨c0, c1, c2, c3, c4, c5, c6⟩ := W1.out.cells
  have kc := W1.out.fc.get (ints_at (l := s.came) (i := p) (by rw [ho.lc]; exact hp))
  have kcf := W1.out.fc.frz p
  have kb := W1.out.fb.get (ints_at (l := s.back) (i := p) (by rw [ho.lb]; exact hp))
  have kbf := W1.out.fb.frz p
  have W2 := hide ((W1.out.came p (s.clock + 1)).back p (s.clock + 1))
  have kb2 := (W1.out.came p (s.clock + 1)).fb.get (ints_at (l := s.back) (i := p) (by rw [ho.lb]; exact hp))
  have kbf2 := (W1.out.came p (s.clock + 1)).fb.frz p
  have W2d := hide (W2.out.call (Below.refl _ _).drew (by simp; omega))
  have HB2 := hide (((HB1.out.setCell (p := ⟨cb, p, none⟩) W1.out.lo.2.1 (.int .i64 (s.clock + 1))).setCell (p := ⟨bb, p, none⟩) W1.out.lo.2.2.1 (.int .i64 (s.clock + 1))).drew)
  have HIH := hide ih
  have HNX := hide hnx
  have HOK := hide ho
  have HH0 := hide h0
  clear W2
  go_region
  go_upto_region 2 with fail
  have hBw2 : B ≤ (((w1.setCell ⟨cb, p, none⟩ (.int .i64 (s.clock + 1))).setCell ⟨bb, p, none⟩ (.int .i64 (s.clock + 1))).drew).heap.size := by simp; omega
  clear c0 c1 c2 c3 c4 c5 c6 kc kcf kb kbf kb2 kbf2 W1 HB1 ih hnx ho h0
  generalize ((w1.setCell ⟨cb, p, none⟩ (.int .i64 (s.clock + 1))).setCell ⟨bb, p, none⟩ (.int .i64 (s.clock + 1))).drew = w2 at *
  obtain ⟨c0, c1, c2, c3, c4, c5, c6⟩ := W2d.out.cells
  obtain ⟨oa, oc, eov⟩ := owns_slice W2d.out.ro
  obtain ⟨K, hK⟩ : ∃ K, s.opn.length = K := ⟨_, rfl⟩
  have HEov : Hid (ov = .slice oa s.opn.length oc) := hide eov
  have HK := hide hK
  have hA := below_new w2 (.cells #[.int .i64 p] 3)
  have HROW : Hid ((w2.alloc (.cells #[.int .i64 p] 3)).ownsRow B 3 1 (.slice oa K oc) K (ints s.opn)) := hide (by
    have := owns_keep W2d.out.ro fun g hg => hA.block g (owns_lt W2d.out.ro hg)
    rw [HEov.out, HK.out] at this
    exact this)
  rw [eov] at c4
  simp only [hK] at c4
  have hK4 : K ≤ 4096 := by omega
  obtain ⟨na, nc, rfl, hnc, hnl2⟩ := W2d.out.nx.form
  clear hA eov hK
  go_upto_region 3 with (at_builtin; go_must (refine wpList_append_two _ rfl _ _ 26 rfl B 3 iI _ 1 8 Try.underlying26 hiI zI0 zI1 zI2 rfl (by decide) _ _ (ints s.opn) rfl HROW.out ⟨w2.heap.size, 0, none⟩ 1 [.int .i64 p] rfl rfl (cell_one_new _ _ _) (by intro u hu; simp at hu; subst hu; rfl) (by unfold maxLen; omega) (by omega) (by simp; omega) ?_); intro g4 cap4 w4 hown4 hg4; have HFin := hide (W2d.out.opened hBw2 (x := p) HK.out HEov.out hown4 (by rcases hg4 with h | ⟨h1, h2⟩; exact .inl h; exact .inr ⟨by simpa using h1, h2⟩)); clear hown4 hg4; obtain ⟨hFa, hFb, hFc, hFd⟩ := HFin.out; have HFc := hide hFc; have HFd := hide hFd; clear hFc hFd HFin)
  have HB4 := hide (HB2.out.trans HFd.out)
  have HB5 := hide (HB2.out.trans HFd.out)
  clear hFa hFb c0 c1 c2 c3 c4 c5 c6 HROW W2d HFd HB2
  generalize w4.setCell ⟨W, 4, none⟩ (.slice (some ⟨g4, 0, none⟩) (K + 1) cap4) = w5 at *
  have HW5 : Hid (WI B W (.slice na next.length nc) next n cb bb sb (comeM p s) w5) := hide ⟨_, _, _, HFc.out⟩
  obtain ⟨hok1, hun1⟩ := HOK.out.come (p := p) ⟨by omega, by omega⟩ (by simpa using HH0.out)
  obtain ⟨l, hl⟩ := get_at (l := next) (i := p) (by omega)
  obtain ⟨g6, o6, la, lc, ena, -, kl, -, hll, hI⟩ := at_L HFc.out.nx hl
  obtain ⟨c0, c1, c2, c3, c4, c5, c6⟩ := HFc.out.cells
  have HIl := hide hI
  have HLr := hide (HNX.out p l hl)
  have HRow : Hid (row next (p : Int) = l) := hide (row_at (by simpa using hl))
  obtain ⟨R, hR⟩ : ∃ R, othersM (visitM next f) p l (comeM p s) = R := ⟨_, rfl⟩
  have HR0 : Hid (othersM (visitM next f) p (l.drop 0) (comeM p s) = R) := hide (by rw [List.drop_zero]; exact hR)
  have HOK1 := hide hok1
  have HUN1 : Hid (unv (comeM p s).came ≤ f) := hide (by omega)
  have HFinal : Hid (visitM next (f + 1) p s = endM p R) := hide (by rw [visitM, HRow.out, hR])
  have HEna := hide ena
  rw [ena] at c0
  subst ena
  clear hl hI hR hok1 hun1 HFc
  have hpl : p < next.length := by omega
  go_wp2_with fail
  clear c0 c1 c2 c3 c4 c5 c6 kl
  go_loopw [51] (fun z wr => ∃ (k : Nat) (t : Wk), k ≤ l.length ∧ z = .int .i64 k ∧ Hid (WI B W (.slice (some ⟨g6, o6, none⟩) next.length nc) next n cb bb sb t wr) ∧ Hid (OkW n t) ∧ Hid (unv t.came ≤ f) ∧ Hid (∃ ex, t.opn = s.opn ++ [(p : Int)] ++ ex) ∧ Hid (othersM (visitM next f) p (l.drop k) t = R) ∧ Hid (Below B w wr)) (fun z _ => l.length - (intOf z).toNat)
  case atStart => exact ⟨0, comeM p s, by omega, rfl, HW5, HOK1, HUN1, hide ⟨[], by show s.opn ++ [(p : Int)] = _; simp⟩, HR0, HB4⟩
  case round =>
    clear HR0 HUN1 HOK1 HW5 HB4
    obtain ⟨k, t, hk, rfl, HWT, HOKT, HUT, HET, HRT, HBT⟩ := hrel
    have hBr : B ≤ wr.heap.size := Nat.le_trans hB HBT.out.size
    by_cases hlt : k < l.length
    · obtain ⟨x, hx⟩ := get_at hlt
      obtain ⟨hx0, hx1⟩ := HLr.out x (List.mem_of_getElem? hx)
      obtain ⟨m, rfl⟩ := Int.eq_ofNat_of_zero_le hx0
      have hmn : m < n := by omega
      obtain ⟨lg, lo', rfl, -, kx⟩ := at_I (Ints.keep (fun g hg => (HBT.out.block g hg).trans (HB5.out.block g hg).symm) HIl.out) hx
      have HRS : Hid (othersM (visitM next f) p (l.drop (k + 1)) (lowerM p m (if t.came.getD m 0 = 0 then visitM next f m t else t)) = R) := hide (by have := HRT.out; rw [drop_at hx, othersM] at this; simpa using this)
      obtain ⟨ov2, kv2, Z2, hwt⟩ := HWT.out
      obtain ⟨c0, c1, c2, c3, c4, c5, c6⟩ := hwt.cells
      have kcm := hwt.fc.get (ints_at (l := t.came) (i := m) (by rw [HOKT.out.lc]; exact hmn))
      clear hx hx0 hx1 HRT
      by_cases hz : t.came.getD m 0 = 0
      · rw [hz] at kcm
        have CV := hide (HIH.out t wr m HWT.out hBr HOKT.out hmn hz HUT.out)
        obtain ⟨v1, v2, v3⟩ := visit_ok HNX.out f m t HOKT.out ⟨by omega, by omega⟩ (by simpa using hz)
        have HR2 := HRS
        rw [if_pos hz] at HR2
        generalize hvt : visitM next f m t = t2 at *
        have HOK2 := hide v1
        have HUN2 : Hid (unv t2.came ≤ f) := hide (Nat.le_trans v2 HUT.out)
        have HEX2 : Hid (∃ ex, t2.opn = s.opn ++ [(p : Int)] ++ ex) := hide (by obtain ⟨e1, h1⟩ := v3; obtain ⟨e2, h2⟩ := HET.out; exact ⟨e2 ++ e1, by rw [h1, h2]; simp⟩)
        clear v1 v2 v3 hwt HWT HRS hvt hz
        go_upto_region 8 with (go_at_call 78; refine CV.out.mono ?_; rintro _ wv ⟨rfl, hv1, hv2⟩; have HV1 := hide hv1; have HB2 := hide (HBT.out.trans hv2); clear hv1 hv2)
        clear c0 c1 c2 c3 c4 c5 c6 kcm kx
        obtain ⟨ov3, kv3, Z3, hw3⟩ := HV1.out
        have W2 := hide hw3
        have hBv : B ≤ wv.heap.size := Nat.le_trans hB HB2.out.size
        clear hw3 HV1
        have hsm : m < t2.shut.length := by rw [HOK2.out.ls]; exact hmn
        have ksh := W2.out.fs.get (bools_at hsm)
        obtain ⟨d0, d1, d2, d3, d4, d5, d6⟩ := W2.out.cells
        cases hsb : t2.shut.getD m false with
        | true =>
          rw [hsb] at ksh
          have HN : Hid (othersM (visitM next f) p (l.drop (k + 1)) t2 = R) := hide (by have := HR2.out; unfold lowerM at this; rw [show (m : Int).toNat = m by omega, hsb] at this; exact this)
          have HWI2 : Hid (WI B W (.slice (some ⟨g6, o6, none⟩) next.length nc) next n cb bb sb t2 wv) := hide ⟨_, _, _, W2.out⟩
          clear HR2 W2 hsb
          go_wp2_with fail
          go_roundw
          case rel => exact ⟨k + 1, t2, by omega, by go_num, HWI2, HOK2, HUN2, HEX2, HN, HB2⟩
          case measure => simp [intOf]; omega
        | false =>
          rw [hsb] at ksh
          have hpb : p < t2.back.length := by rw [HOK2.out.lb]; exact hp
          have hmb : m < t2.back.length := by rw [HOK2.out.lb]; exact hmn
          have kbp := W2.out.fb.get (ints_at hpb)
          have kbm := W2.out.fb.get (ints_at hmb)
          have kbf := W2.out.fb.frz p
          have HN : Hid (othersM (visitM next f) p (l.drop (k + 1)) { t2 with back := t2.back.set p (min (t2.back.getD p 0) (t2.back.getD m 0)) } = R) := hide (by have := HR2.out; unfold lowerM at this; rw [show (m : Int).toNat = m by omega, show (p : Int).toNat = p by omega, hsb] at this; exact this)
          have HOK3 : Hid (OkW n { t2 with back := t2.back.set p (min (t2.back.getD p 0) (t2.back.getD m 0)) }) := hide ⟨HOK2.out.lc, by rw [List.length_set]; exact HOK2.out.lb, HOK2.out.ls, HOK2.out.c0, HOK2.out.c1, HOK2.out.op, HOK2.out.ol, HOK2.out.kl, HOK2.out.kn⟩
          have W3 := W2.out.back p (min (t2.back.getD p 0) (t2.back.getD m 0))
          rw [← min_if] at W3
          have hsz3 : B ≤ (wv.setCell ⟨bb, p, none⟩ (.int .i64 (if t2.back.getD m 0 < t2.back.getD p 0 then t2.back.getD m 0 else t2.back.getD p 0))).heap.size := by simp; omega
          have HWI3 : Hid (WI B W (.slice (some ⟨g6, o6, none⟩) next.length nc) next n cb bb sb { t2 with back := t2.back.set p (min (t2.back.getD p 0) (t2.back.getD m 0)) } ((wv.setCell ⟨bb, p, none⟩ (.int .i64 (if t2.back.getD m 0 < t2.back.getD p 0 then t2.back.getD m 0 else t2.back.getD p 0))).drew)) := hide ⟨_, _, _, by rw [← min_if]; exact W3.call (Below.refl _ _).drew hsz3⟩
          have HB3 := hide ((HB2.out.setCell (p := ⟨bb, p, none⟩) W2.out.lo.2.2.1 (.int .i64 (if t2.back.getD m 0 < t2.back.getD p 0 then t2.back.getD m 0 else t2.back.getD p 0))).drew)
          clear HR2 W2 W3 hsb HOK2
          generalize t2.back.getD p 0 = bp at *
          generalize t2.back.getD m 0 = bm at *
          go_upto_region 9 with fail
          go_region
          go_wp2_with fail
          go_roundw
          case rel => exact ⟨k + 1, _, by omega, by go_num, HWI3, HOK3, HUN2, HEX2, HN, HB3⟩
          case measure => simp [intOf]; omega
      · have hz2 : (t.came.getD m 0 == 0) = false := beq_eq_false_iff_ne.2 hz
        have HR2 := HRS
        rw [if_neg hz] at HR2
        have W2 := hide hwt
        clear hwt HWT HRS
        generalize t.came.getD m 0 = cm at *
        go_upto_region 8 with fail
        clear c0 c1 c2 c3 c4 c5 c6 kcm kx
        have hsm : m < t.shut.length := by rw [HOKT.out.ls]; exact hmn
        have ksh := W2.out.fs.get (bools_at hsm)
        obtain ⟨d0, d1, d2, d3, d4, d5, d6⟩ := W2.out.cells
        cases hsb : t.shut.getD m false with
        | true =>
          rw [hsb] at ksh
          have HN : Hid (othersM (visitM next f) p (l.drop (k + 1)) t = R) := hide (by have := HR2.out; unfold lowerM at this; rw [show (m : Int).toNat = m by omega, hsb] at this; exact this)
          have HWI2 : Hid (WI B W (.slice (some ⟨g6, o6, none⟩) next.length nc) next n cb bb sb t wr) := hide ⟨_, _, _, W2.out⟩
          clear HR2 W2 hsb
          go_wp2_with fail
          go_roundw
          case rel => exact ⟨k + 1, t, by omega, by go_num, HWI2, HOKT, HUT, HET, HN, HBT⟩
          case measure => simp [intOf]; omega
        | false =>
          rw [hsb] at ksh
          have hpb : p < t.back.length := by rw [HOKT.out.lb]; exact hp
          have hmb : m < t.back.length := by rw [HOKT.out.lb]; exact hmn
          have kbp := W2.out.fb.get (ints_at hpb)
          have kbm := W2.out.fb.get (ints_at hmb)
          have kbf := W2.out.fb.frz p
          have HN : Hid (othersM (visitM next f) p (l.drop (k + 1)) { t with back := t.back.set p (min (t.back.getD p 0) (t.back.getD m 0)) } = R) := hide (by have := HR2.out; unfold lowerM at this; rw [show (m : Int).toNat = m by omega, show (p : Int).toNat = p by omega, hsb] at this; exact this)
          have HOK3 : Hid (OkW n { t with back := t.back.set p (min (t.back.getD p 0) (t.back.getD m 0)) }) := hide ⟨HOKT.out.lc, by rw [List.length_set]; exact HOKT.out.lb, HOKT.out.ls, HOKT.out.c0, HOKT.out.c1, HOKT.out.op, HOKT.out.ol, HOKT.out.kl, HOKT.out.kn⟩
          have W3 := W2.out.back p (min (t.back.getD p 0) (t.back.getD m 0))
          rw [← min_if] at W3
          have hsz3 : B ≤ (wr.setCell ⟨bb, p, none⟩ (.int .i64 (if t.back.getD m 0 < t.back.getD p 0 then t.back.getD m 0 else t.back.getD p 0))).heap.size := by simp; omega
          have HWI3 : Hid (WI B W (.slice (some ⟨g6, o6, none⟩) next.length nc) next n cb bb sb { t with back := t.back.set p (min (t.back.getD p 0) (t.back.getD m 0)) } ((wr.setCell ⟨bb, p, none⟩ (.int .i64 (if t.back.getD m 0 < t.back.getD p 0 then t.back.getD m 0 else t.back.getD p 0))).drew)) := hide ⟨_, _, _, by rw [← min_if]; exact W3.call (Below.refl _ _).drew hsz3⟩
          have HB3 := hide ((HBT.out.setCell (p := ⟨bb, p, none⟩) W2.out.lo.2.2.1 (.int .i64 (if t.back.getD m 0 < t.back.getD p 0 then t.back.getD m 0 else t.back.getD p 0))).drew)
          clear HR2 W2 W3 hsb HOKT
          generalize t.back.getD p 0 = bp at *
          generalize t.back.getD m 0 = bm at *
          go_upto_region 9 with fail
          go_region
          go_wp2_with fail
          go_roundw
          case rel => exact ⟨k + 1, _, by omega, by go_num, HWI3, HOK3, HUT, HET, HN, HB3⟩
          case measure => simp [intOf]; omega
    · have hkn : k = l.length := by omega
      have HRE : Hid (t = R) := hide (by have := HRT.out; rw [hkn, List.drop_length] at this; exact this)
      obtain ⟨ov2, kv2, Z2, hwt⟩ := HWT.out
      obtain ⟨c0, c1, c2, c3, c4, c5, c6⟩ := hwt.cells
      have kcp := hwt.fc.get (ints_at (l := t.came) (i := p) (by rw [HOKT.out.lc]; exact hp))
      have kbp := hwt.fb.get (ints_at (l := t.back) (i := p) (by rw [HOKT.out.lb]; exact hp))
      clear hkn HRT
      by_cases hz : t.back.getD p 0 = t.came.getD p 0
      · have HE : Hid (visitM next (f + 1) p s = shutM p t) := hide (by rw [HFinal.out, ← HRE.out]; unfold endM; rw [show (p : Int).toNat = p by omega, if_pos hz])
        have HF : Hid (∀ q, Calls Try.prog 90 #[ptr W, .int .i64 p] (wr.drewN q) fun e w' => e = .returned (.tuple #[]) ∧ WI B W (.slice (some ⟨g6, o6, none⟩) next.length nc) next n cb bb sb (shutM p t) w' ∧ Below B (wr.drewN q) w') := hide fun q => shutKnot_any ⟨_, _, _, hwt.call (below_drewN wr q) hBr⟩ hBr HOKT.out hn (by obtain ⟨ex, h⟩ := HET.out; rw [h]; simp)
        rw [hz] at kbp
        clear hwt HWT hz
        generalize t.came.getD p 0 = cp at *
        go_wp2_with fail
        go_quiet (fail)
        go_wp2_with (go_at_call 90; refine (HF.out _).mono ?_; rintro _ wv ⟨rfl, hv1, hv2⟩; have HV1 := hide hv1; have HV2 := hide hv2; clear hv1 hv2)
        go_end0
        exact ⟨rfl, by rw [HE.out]; exact HV1.out, (HBT.out.trans ((below_drewN wr _).mono hBr)).trans HV2.out⟩
      · have hz2 : (t.back.getD p 0 == t.came.getD p 0) = false := beq_eq_false_iff_ne.2 hz
        have HE : Hid (visitM next (f + 1) p s = t) := hide (by rw [HFinal.out, ← HRE.out]; unfold endM; rw [show (p : Int).toNat = p by omega, if_neg hz])
        have HF : Hid (∀ q, WI B W (.slice (some ⟨g6, o6, none⟩) next.length nc) next n cb bb sb t (wr.drewN q)) := hide fun q => ⟨_, _, _, hwt.call (below_drewN wr q) hBr⟩
        clear hwt HWT
        generalize t.came.getD p 0 = cp at *
        generalize t.back.getD p 0 = bp at *
        go_wp2_with fail
        go_quiet (fail)
        go_wp2_with fail
        go_end0
        exact ⟨rfl, by rw [HE.out]; exact HF.out _, HBT.out.trans ((below_drewN wr _).mono hBr)⟩
end Go.Proofs.Ythifoamnmhlghaa
