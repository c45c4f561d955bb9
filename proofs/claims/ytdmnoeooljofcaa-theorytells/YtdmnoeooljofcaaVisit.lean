/- visit. -/
import Derived.Test.YtdmnoeooljofcaaWk
import Derived.BigRegion
import Derived.Deep.CutRange
namespace Go.Proofs.Ytdmnoeooljofcaa
open Go.RowKit

section
variable {B W : Nat} {nv : Value} {next : List (List Int)} {n cb bb sb : Nat} {ov kv : Value} {Z : Nat → Prop} {s : Wk} {w w' : World}
/-- One open more. -/
theorem Wi.opened (h : Wi B W nv next n cb bb sb ov kv Z s w) (hB : B ≤ w.heap.size) {x : Int} {K oc : Nat} {oa : Option Addr} (hK : s.opn.length = K) (hov : ov = .slice oa s.opn.length oc) {g4 cap4 : Nat} {ob : Obj} (hown : w'.ownsRow B 3 1 (.slice (some ⟨g4, 0, none⟩) (K + 1) cap4) (K + 1) (ints s.opn ++ [.int .i64 x]))
    (hg : (Value.ownBlock (.slice oa K oc) = some g4 ∧ (w.alloc ob).grownBy w' (some g4)) ∨ (g4 = w.heap.size + 1 ∧ (w.alloc ob).grownBy w' none)) :
    w'.cell? ⟨W, 4, none⟩ = some (.slice oa K oc) ∧ w'.frozen? ⟨W, 4, none⟩ = false ∧ Wi B W nv next n cb bb sb (.slice (some ⟨g4, 0, none⟩) (K + 1) cap4) kv Z { s with opn := s.opn ++ [x] } (w'.setCell ⟨W, 4, none⟩ (.slice (some ⟨g4, 0, none⟩) (K + 1) cap4)) ∧ Below B w (w'.setCell ⟨W, 4, none⟩ (.slice (some ⟨g4, 0, none⟩) (K + 1) cap4)) := by
  subst hK
  rw [← hov] at hg ⊢
  have hoW : ov.ownBlock ≠ some W := own_fx h.ro h.bx (by decide)
  have ho : ∀ k, k < w.heap.size → ov.ownBlock ≠ some k → w'.heap[k]? = w.heap[k]? := fun k hk hn => grown_old rfl hg hk hn
  have hbx := h.bx.keep (ho _ h.bx.lt hoW)
  have hfc := h.fc.keep (ho _ h.fc.lt h.ne.2.1)
  have hfb := h.fb.keep (ho _ h.fb.lt h.ne.2.2)
  have hfs := h.fs.keep (ho _ h.fs.lt (own_fx h.ro h.fs (by decide)))
  obtain ⟨xs, k1, _⟩ := h.rk
  obtain ⟨l1, l2, l3, l4⟩ := h.lo
  have hz := h.hz (.inl rfl)
  have hzo : ∀ g, Z g → (w'.setCell ⟨W, 4, none⟩ (.slice (some ⟨g4, 0, none⟩) (s.opn.length + 1) cap4)).heap[g]? = w.heap[g]? := fun g hg => by
    obtain ⟨_, _, _, h4, vs, h5⟩ := h.z g hg
    rw [other_set (hz g hg)]
    exact ho g h5.lt h4
  have hn4 : ∀ g, g < w.heap.size → ov.ownBlock ≠ some g → g4 ≠ g := fun g hl hn e => by
    subst e
    rcases hg with ⟨h1, _⟩ | ⟨h1, _⟩
    · exact hn h1
    · omega
  refine ⟨hbx.get (by rw [hov]; rfl), hbx.frz 4, ⟨hbx.set 4 _, h.nx.keep fun g hg => ?_, h.lo, hfc.keep (other_set (fx_ne hfc hbx (by decide))), hfb.keep (other_set (fx_ne hfb hbx (by decide))), hfs.keep (other_set (fx_ne hfs hbx (by decide))), ?_, ⟨h.ne.1, fun e => ?_, fun e => ?_⟩, knots_keep h.rk (fun g hg => ?_) hzo, fun g hg => ?_⟩, ?_⟩
  · rw [other_set (by omega)]
    exact ho g (by omega) fun e => by have := (h.ro.lt g e).1; omega
  · show World.ownsRow _ _ _ _ _ (s.opn ++ [x]).length (ints (s.opn ++ [x]))
    rw [List.length_append, ints_snoc]
    exact owns_keep hown fun g e => other_set fun (e2 : g = W) => own_fx hown hbx (by decide) (e2 ▸ e)
  · exact hn4 cb h.fc.lt h.ne.2.1 (by simpa [Value.ownBlock] using e)
  · exact hn4 bb h.fb.lt h.ne.2.2 (by simpa [Value.ownBlock] using e)
  · rw [other_set fun (e : g = W) => own_fx k1 h.bx (by decide) (e ▸ hg)]
    exact ho g (owns_lt k1 hg) (own_ne2 (owns_down h.ro (Nat.zero_le _)) (owns_down k1 (Nat.zero_le _)) (by decide) hg)
  · obtain ⟨h1, h2, h3, h4, vs, h5⟩ := h.z g hg
    exact ⟨h1, h2, h3, fun e => hn4 g h5.lt h4 (by simpa [Value.ownBlock] using e), vs, h5.keep (hzo g hg)⟩
  · exact ((grown_fr (Z := fun k => B ≤ k) rfl hg fun g e => (h.ro.lt g e).1).below fun k hk => ⟨by omega, by omega⟩).setCell (p := ⟨W, 4, none⟩) h.lo.1 _
end
set_option maxRecDepth 100000 in
set_option maxHeartbeats 12800000 in
theorem visit_step {B W : Nat} {nv : Value} {next : List (List Int)} {n cb bb sb : Nat} (hn : n ≤ 4096) (hnl : next.length = n) (hnx : ∀ (i : Nat) l, next[i]? = some l → ∀ z ∈ l, 0 ≤ z ∧ z < (n : Int)) (f : Nat)
    (ih : ∀ (s : Wk) (w : World) (p : Nat), WI B W nv next n cb bb sb s w → B ≤ w.heap.size → OkW n s → p < n → s.came.getD p 0 = 0 → unv s.came ≤ f →
      Calls Try.prog 74 #[ptr W, .int .i64 p] w fun e w' => e = .returned (.tuple #[]) ∧ WI B W nv next n cb bb sb (visitM next f p s) w' ∧ Below B w w')
    (s : Wk) (w : World) (p : Nat) (h : WI B W nv next n cb bb sb s w) (hB : B ≤ w.heap.size) (ho : OkW n s) (hp : p < n) (h0 : s.came.getD p 0 = 0) (hu : unv s.came ≤ f + 1) :
    Calls Try.prog 74 #[ptr W, .int .i64 p] w fun e w' => e = .returned (.tuple #[]) ∧ WI B W nv next n cb bb sb (visitM next (f + 1) p s) w' ∧ Below B w w' := by
  obtain ⟨iI, hiI, zI0, zI1, zI2⟩ := info_parts infoI
  obtain ⟨ov, kv, Z, hw⟩ := h
  have hcl0 := ho.c0
  have hcl1 := ho.c1
  have hol := ho.ol
  obtain ⟨c0, c1, c2, c3, c4, c5, c6⟩ := hw.cells
  have kfr := hw.bx.frz 3
  have W1 := hide (hw.clock (s.clock + 1))
  have HB1 := hide ((Below.refl B w).setCell (p := ⟨W, 3, none⟩) hw.lo.1 (.int .i64 (s.clock + 1)))
  have hck : s.clock + 1 ≤ 4096 := by have := (ho.come (p := p) ⟨by omega, by omega⟩ (by simpa using h0)).2; omega
  clear hw
  go_enter Try.func74, Try.ntmps74
  go_upto_region 1 with fail
  have hBw1 : B ≤ (w.setCell ⟨W, 3, none⟩ (.int .i64 (s.clock + 1))).heap.size := by simp; omega
  clear c0 c1 c2 c3 c4 c5 c6 kfr
  generalize w.setCell ⟨W, 3, none⟩ (.int .i64 (s.clock + 1)) = w1 at *
  obtain ⟨c0, c1, c2, c3, c4, c5, c6⟩ := W1.out.cells
  have kc := W1.out.fc.get (ints_at (l := s.came) (i := p) (by rw [ho.lc]; exact hp))
  have kcf := W1.out.fc.frz p
  have kb := W1.out.fb.get (ints_at (l := s.back) (i := p) (by rw [ho.lb]; exact hp))
  have kbf := W1.out.fb.frz p
  have W2 := hide ((W1.out.came p (s.clock + 1)).back p (s.clock + 1))
  have kb2 := (W1.out.came p (s.clock + 1)).fb.get (ints_at (l := s.back) (i := p) (by rw [ho.lb]; exact hp))
  have kbf2 := (W1.out.came p (s.clock + 1)).fb.frz p
  have W2d := hide (W2.out.call (Below.refl _ _).drew (by simp; omega))
  have HB2 := hide (((HB1.out.setCell (p := ⟨cb, p, none⟩) W1.out.lo.2.1 (.int .i64 (s.clock + 1))).setCell (p := ⟨bb, p, none⟩) W1.out.lo.2.2.1 (.int .i64 (s.clock + 1))).drew)
  have HIH := hide ih
  have HNX := hide hnx
  have HOK := hide ho
  have HH0 := hide h0
  clear W2
  go_region
  go_upto_region 2 with fail
  have hBw2 : B ≤ (((w1.setCell ⟨cb, p, none⟩ (.int .i64 (s.clock + 1))).setCell ⟨bb, p, none⟩ (.int .i64 (s.clock + 1))).drew).heap.size := by simp; omega
  clear c0 c1 c2 c3 c4 c5 c6 kc kcf kb kbf kb2 kbf2 W1 HB1 ih hnx ho h0
  generalize ((w1.setCell ⟨cb, p, none⟩ (.int .i64 (s.clock + 1))).setCell ⟨bb, p, none⟩ (.int .i64 (s.clock + 1))).drew = w2 at *
  obtain ⟨c0, c1, c2, c3, c4, c5, c6⟩ := W2d.out.cells
  obtain ⟨oa, oc, eov⟩ := owns_slice W2d.out.ro
  obtain ⟨K, hK⟩ : ∃ K, s.opn.length = K := ⟨_, rfl⟩
  have HEov : Hid (ov = .slice oa s.opn.length oc) := hide eov
  have HK := hide hK
  have hA := below_new w2 (.cells #[.int .i64 p] 3)
  have HROW : Hid ((w2.alloc (.cells #[.int .i64 p] 3)).ownsRow B 3 1 (.slice oa K oc) K (ints s.opn)) := hide (by
    have := owns_keep W2d.out.ro fun g hg => hA.block g (owns_lt W2d.out.ro hg)
    rw [HEov.out, HK.out] at this
    exact this)
  rw [eov] at c4
  simp only [hK] at c4
  have hK4 : K ≤ 4096 := by omega
  obtain ⟨na, nc, rfl, hnc, hnl2⟩ := W2d.out.nx.form
  clear hA eov hK
  go_upto_region 3 with (at_builtin; go_must (refine wpList_append_two _ rfl _ _ 38 rfl B 3 iI _ 1 8 Try.underlying38 hiI zI0 zI1 zI2 rfl (by decide) _ _ (ints s.opn) rfl HROW.out ⟨w2.heap.size, 0, none⟩ 1 [.int .i64 p] rfl rfl (cell_one_new _ _ _) (by intro u hu; simp at hu; subst hu; rfl) (by unfold maxLen; omega) (by omega) (by simp; omega) ?_); intro g4 cap4 w4 hown4 hg4; have HFin := hide (W2d.out.opened hBw2 (x := p) HK.out HEov.out hown4 (by rcases hg4 with h | ⟨h1, h2⟩; exact .inl h; exact .inr ⟨by simpa using h1, h2⟩)); clear hown4 hg4; obtain ⟨hFa, hFb, hFc, hFd⟩ := HFin.out; have HFc := hide hFc; have HFd := hide hFd; clear hFc hFd HFin)
  have HB4 := hide (HB2.out.trans HFd.out)
  have HB5 := hide (HB2.out.trans HFd.out)
  clear hFa hFb c0 c1 c2 c3 c4 c5 c6 HROW W2d HFd HB2
  generalize w4.setCell ⟨W, 4, none⟩ (.slice (some ⟨g4, 0, none⟩) (K + 1) cap4) = w5 at *
  have HW5 : Hid (WI B W (.slice na next.length nc) next n cb bb sb (comeM p s) w5) := hide ⟨_, _, _, HFc.out⟩
  obtain ⟨hok1, hun1⟩ := HOK.out.come (p := p) ⟨by omega, by omega⟩ (by simpa using HH0.out)
  obtain ⟨l, hl⟩ := get_at (l := next) (i := p) (by omega)
  obtain ⟨g6, o6, la, lc, ena, -, kl, -, hll, hI⟩ := at_L HFc.out.nx hl
  obtain ⟨c0, c1, c2, c3, c4, c5, c6⟩ := HFc.out.cells
  have HIl := hide hI
  have HLr := hide (HNX.out p l hl)
  have HRow : Hid (row next (p : Int) = l) := hide (row_at (by simpa using hl))
  obtain ⟨R, hR⟩ : ∃ R, othersM (visitM next f) p l (comeM p s) = R := ⟨_, rfl⟩
  have HR0 : Hid (othersM (visitM next f) p (l.drop 0) (comeM p s) = R) := hide (by rw [List.drop_zero]; exact hR)
  have HOK1 := hide hok1
  have HUN1 : Hid (unv (comeM p s).came ≤ f) := hide (by omega)
  have HFinal : Hid (visitM next (f + 1) p s = endM p R) := hide (by rw [visitM, HRow.out, hR])
  have HEna := hide ena
  rw [ena] at c0
  subst ena
  clear hl hI hR hok1 hun1 HFc
  have hpl : p < next.length := by omega
  go_wp2_with fail
  clear c0 c1 c2 c3 c4 c5 c6 kl
  go_loopw [51] (fun z wr => ∃ (k : Nat) (t : Wk), k ≤ l.length ∧ z = .int .i64 k ∧ Hid (WI B W (.slice (some ⟨g6, o6, none⟩) next.length nc) next n cb bb sb t wr) ∧ Hid (OkW n t) ∧ Hid (unv t.came ≤ f) ∧ Hid (∃ ex, t.opn = s.opn ++ [(p : Int)] ++ ex) ∧ Hid (othersM (visitM next f) p (l.drop k) t = R) ∧ Hid (Below B w wr)) (fun z _ => l.length - (intOf z).toNat)
  case atStart => exact ⟨0, comeM p s, by omega, rfl, HW5, HOK1, HUN1, hide ⟨[], by show s.opn ++ [(p : Int)] = _; simp⟩, HR0, HB4⟩
  case round =>
    clear HR0 HUN1 HOK1 HW5 HB4
    obtain ⟨k, t, hk, rfl, HWT, HOKT, HUT, HET, HRT, HBT⟩ := hrel
    have hBr : B ≤ wr.heap.size := Nat.le_trans hB HBT.out.size
    by_cases hlt : k < l.length
    · obtain ⟨x, hx⟩ := get_at hlt
      obtain ⟨hx0, hx1⟩ := HLr.out x (List.mem_of_getElem? hx)
      obtain ⟨m, rfl⟩ := Int.eq_ofNat_of_zero_le hx0
      have hmn : m < n := by omega
      obtain ⟨lg, lo', rfl, -, kx⟩ := at_I (Ints.keep (fun g hg => (HBT.out.block g hg).trans (HB5.out.block g hg).symm) HIl.out) hx
      have HRS : Hid (othersM (visitM next f) p (l.drop (k + 1)) (lowerM p m (if t.came.getD m 0 = 0 then visitM next f m t else t)) = R) := hide (by have := HRT.out; rw [drop_at hx, othersM] at this; simpa using this)
      obtain ⟨ov2, kv2, Z2, hwt⟩ := HWT.out
      obtain ⟨c0, c1, c2, c3, c4, c5, c6⟩ := hwt.cells
      have kcm := hwt.fc.get (ints_at (l := t.came) (i := m) (by rw [HOKT.out.lc]; exact hmn))
      clear hx hx0 hx1 HRT
      by_cases hz : t.came.getD m 0 = 0
      · rw [hz] at kcm
        have CV := hide (HIH.out t wr m HWT.out hBr HOKT.out hmn hz HUT.out)
        obtain ⟨v1, v2, v3⟩ := visit_ok HNX.out f m t HOKT.out ⟨by omega, by omega⟩ (by simpa using hz)
        have HR2 := HRS
        rw [if_pos hz] at HR2
        generalize hvt : visitM next f m t = t2 at *
        have HOK2 := hide v1
        have HUN2 : Hid (unv t2.came ≤ f) := hide (Nat.le_trans v2 HUT.out)
        have HEX2 : Hid (∃ ex, t2.opn = s.opn ++ [(p : Int)] ++ ex) := hide (by obtain ⟨e1, h1⟩ := v3; obtain ⟨e2, h2⟩ := HET.out; exact ⟨e2 ++ e1, by rw [h1, h2]; simp⟩)
        clear v1 v2 v3 hwt HWT HRS hvt hz
        go_upto_region 8 with (go_at_call 74; refine CV.out.mono ?_; rintro _ wv ⟨rfl, hv1, hv2⟩; have HV1 := hide hv1; have HB2 := hide (HBT.out.trans hv2); clear hv1 hv2)
        clear c0 c1 c2 c3 c4 c5 c6 kcm kx
        obtain ⟨ov3, kv3, Z3, hw3⟩ := HV1.out
        have W2 := hide hw3
        have hBv : B ≤ wv.heap.size := Nat.le_trans hB HB2.out.size
        clear hw3 HV1
        have hsm : m < t2.shut.length := by rw [HOK2.out.ls]; exact hmn
        have ksh := W2.out.fs.get (bools_at hsm)
        obtain ⟨d0, d1, d2, d3, d4, d5, d6⟩ := W2.out.cells
        cases hsb : t2.shut.getD m false with
        | true =>
          rw [hsb] at ksh
          have HN : Hid (othersM (visitM next f) p (l.drop (k + 1)) t2 = R) := hide (by have := HR2.out; unfold lowerM at this; rw [show (m : Int).toNat = m by omega, hsb] at this; exact this)
          have HWI2 : Hid (WI B W (.slice (some ⟨g6, o6, none⟩) next.length nc) next n cb bb sb t2 wv) := hide ⟨_, _, _, W2.out⟩
          clear HR2 W2 hsb
          go_wp2_with fail
          go_roundw
          case rel => exact ⟨k + 1, t2, by omega, by go_num, HWI2, HOK2, HUN2, HEX2, HN, HB2⟩
          case measure => simp [intOf]; omega
        | false =>
          rw [hsb] at ksh
          have hpb : p < t2.back.length := by rw [HOK2.out.lb]; exact hp
          have hmb : m < t2.back.length := by rw [HOK2.out.lb]; exact hmn
          have kbp := W2.out.fb.get (ints_at hpb)
          have kbm := W2.out.fb.get (ints_at hmb)
          have kbf := W2.out.fb.frz p
          have HN : Hid (othersM (visitM next f) p (l.drop (k + 1)) { t2 with back := t2.back.set p (min (t2.back.getD p 0) (t2.back.getD m 0)) } = R) := hide (by have := HR2.out; unfold lowerM at this; rw [show (m : Int).toNat = m by omega, show (p : Int).toNat = p by omega, hsb] at this; exact this)
          have HOK3 : Hid (OkW n { t2 with back := t2.back.set p (min (t2.back.getD p 0) (t2.back.getD m 0)) }) := hide ⟨HOK2.out.lc, by rw [List.length_set]; exact HOK2.out.lb, HOK2.out.ls, HOK2.out.c0, HOK2.out.c1, HOK2.out.op, HOK2.out.ol, HOK2.out.kl, HOK2.out.kn⟩
          have W3 := W2.out.back p (min (t2.back.getD p 0) (t2.back.getD m 0))
          rw [← min_if] at W3
          have hsz3 : B ≤ (wv.setCell ⟨bb, p, none⟩ (.int .i64 (if t2.back.getD m 0 < t2.back.getD p 0 then t2.back.getD m 0 else t2.back.getD p 0))).heap.size := by simp; omega
          have HWI3 : Hid (WI B W (.slice (some ⟨g6, o6, none⟩) next.length nc) next n cb bb sb { t2 with back := t2.back.set p (min (t2.back.getD p 0) (t2.back.getD m 0)) } ((wv.setCell ⟨bb, p, none⟩ (.int .i64 (if t2.back.getD m 0 < t2.back.getD p 0 then t2.back.getD m 0 else t2.back.getD p 0))).drew)) := hide ⟨_, _, _, by rw [← min_if]; exact W3.call (Below.refl _ _).drew hsz3⟩
          have HB3 := hide ((HB2.out.setCell (p := ⟨bb, p, none⟩) W2.out.lo.2.2.1 (.int .i64 (if t2.back.getD m 0 < t2.back.getD p 0 then t2.back.getD m 0 else t2.back.getD p 0))).drew)
          clear HR2 W2 W3 hsb HOK2
          generalize t2.back.getD p 0 = bp at *
          generalize t2.back.getD m 0 = bm at *
          go_upto_region 9 with fail
          go_region
          go_wp2_with fail
          go_roundw
          case rel => exact ⟨k + 1, _, by omega, by go_num, HWI3, HOK3, HUN2, HEX2, HN, HB3⟩
          case measure => simp [intOf]; omega
      · have hz2 : (t.came.getD m 0 == 0) = false := beq_eq_false_iff_ne.2 hz
        have HR2 := HRS
        rw [if_neg hz] at HR2
        have W2 := hide hwt
        clear hwt HWT HRS
        generalize t.came.getD m 0 = cm at *
        go_upto_region 8 with fail
        clear c0 c1 c2 c3 c4 c5 c6 kcm kx
        have hsm : m < t.shut.length := by rw [HOKT.out.ls]; exact hmn
        have ksh := W2.out.fs.get (bools_at hsm)
        obtain ⟨d0, d1, d2, d3, d4, d5, d6⟩ := W2.out.cells
        cases hsb : t.shut.getD m false with
        | true =>
          rw [hsb] at ksh
          have HN : Hid (othersM (visitM next f) p (l.drop (k + 1)) t = R) := hide (by have := HR2.out; unfold lowerM at this; rw [show (m : Int).toNat = m by omega, hsb] at this; exact this)
          have HWI2 : Hid (WI B W (.slice (some ⟨g6, o6, none⟩) next.length nc) next n cb bb sb t wr) := hide ⟨_, _, _, W2.out⟩
          clear HR2 W2 hsb
          go_wp2_with fail
          go_roundw
          case rel => exact ⟨k + 1, t, by omega, by go_num, HWI2, HOKT, HUT, HET, HN, HBT⟩
          case measure => simp [intOf]; omega
        | false =>
          rw [hsb] at ksh
          have hpb : p < t.back.length := by rw [HOKT.out.lb]; exact hp
          have hmb : m < t.back.length := by rw [HOKT.out.lb]; exact hmn
          have kbp := W2.out.fb.get (ints_at hpb)
          have kbm := W2.out.fb.get (ints_at hmb)
          have kbf := W2.out.fb.frz p
          have HN : Hid (othersM (visitM next f) p (l.drop (k + 1)) { t with back := t.back.set p (min (t.back.getD p 0) (t.back.getD m 0)) } = R) := hide (by have := HR2.out; unfold lowerM at this; rw [show (m : Int).toNat = m by omega, show (p : Int).toNat = p by omega, hsb] at this; exact this)
          have HOK3 : Hid (OkW n { t with back := t.back.set p (min (t.back.getD p 0) (t.back.getD m 0)) }) := hide ⟨HOKT.out.lc, by rw [List.length_set]; exact HOKT.out.lb, HOKT.out.ls, HOKT.out.c0, HOKT.out.c1, HOKT.out.op, HOKT.out.ol, HOKT.out.kl, HOKT.out.kn⟩
          have W3 := W2.out.back p (min (t.back.getD p 0) (t.back.getD m 0))
          rw [← min_if] at W3
          have hsz3 : B ≤ (wr.setCell ⟨bb, p, none⟩ (.int .i64 (if t.back.getD m 0 < t.back.getD p 0 then t.back.getD m 0 else t.back.getD p 0))).heap.size := by simp; omega
          have HWI3 : Hid (WI B W (.slice (some ⟨g6, o6, none⟩) next.length nc) next n cb bb sb { t with back := t.back.set p (min (t.back.getD p 0) (t.back.getD m 0)) } ((wr.setCell ⟨bb, p, none⟩ (.int .i64 (if t.back.getD m 0 < t.back.getD p 0 then t.back.getD m 0 else t.back.getD p 0))).drew)) := hide ⟨_, _, _, by rw [← min_if]; exact W3.call (Below.refl _ _).drew hsz3⟩
          have HB3 := hide ((HBT.out.setCell (p := ⟨bb, p, none⟩) W2.out.lo.2.2.1 (.int .i64 (if t.back.getD m 0 < t.back.getD p 0 then t.back.getD m 0 else t.back.getD p 0))).drew)
          clear HR2 W2 W3 hsb HOKT
          generalize t.back.getD p 0 = bp at *
          generalize t.back.getD m 0 = bm at *
          go_upto_region 9 with fail
          go_region
          go_wp2_with fail
          go_roundw
          case rel => exact ⟨k + 1, _, by omega, by go_num, HWI3, HOK3, HUT, HET, HN, HB3⟩
          case measure => simp [intOf]; omega
    · have hkn : k = l.length := by omega
      have HRE : Hid (t = R) := hide (by have := HRT.out; rw [hkn, List.drop_length] at this; exact this)
      obtain ⟨ov2, kv2, Z2, hwt⟩ := HWT.out
      obtain ⟨c0, c1, c2, c3, c4, c5, c6⟩ := hwt.cells
      have kcp := hwt.fc.get (ints_at (l := t.came) (i := p) (by rw [HOKT.out.lc]; exact hp))
      have kbp := hwt.fb.get (ints_at (l := t.back) (i := p) (by rw [HOKT.out.lb]; exact hp))
      clear hkn HRT
      by_cases hz : t.back.getD p 0 = t.came.getD p 0
      · have HE : Hid (visitM next (f + 1) p s = shutM p t) := hide (by rw [HFinal.out, ← HRE.out]; unfold endM; rw [show (p : Int).toNat = p by omega, if_pos hz])
        have HF : Hid (∀ q, Calls Try.prog 78 #[ptr W, .int .i64 p] (wr.drewN q) fun e w' => e = .returned (.tuple #[]) ∧ WI B W (.slice (some ⟨g6, o6, none⟩) next.length nc) next n cb bb sb (shutM p t) w' ∧ Below B (wr.drewN q) w') := hide fun q => shutKnot_any ⟨_, _, _, hwt.call (below_drewN wr q) hBr⟩ hBr HOKT.out hn (by obtain ⟨ex, h⟩ := HET.out; rw [h]; simp)
        rw [hz] at kbp
        clear hwt HWT hz
        generalize t.came.getD p 0 = cp at *
        go_wp2_with fail
        go_quiet (fail)
        go_wp2_with (go_at_call 78; refine (HF.out _).mono ?_; rintro _ wv ⟨rfl, hv1, hv2⟩; have HV1 := hide hv1; have HV2 := hide hv2; clear hv1 hv2)
        go_end0
        exact ⟨rfl, by rw [HE.out]; exact HV1.out, (HBT.out.trans ((below_drewN wr _).mono hBr)).trans HV2.out⟩
      · have hz2 : (t.back.getD p 0 == t.came.getD p 0) = false := beq_eq_false_iff_ne.2 hz
        have HE : Hid (visitM next (f + 1) p s = t) := hide (by rw [HFinal.out, ← HRE.out]; unfold endM; rw [show (p : Int).toNat = p by omega, if_neg hz])
        have HF : Hid (∀ q, WI B W (.slice (some ⟨g6, o6, none⟩) next.length nc) next n cb bb sb t (wr.drewN q)) := hide fun q => ⟨_, _, _, hwt.call (below_drewN wr q) hBr⟩
        clear hwt HWT
        generalize t.came.getD p 0 = cp at *
        generalize t.back.getD p 0 = bp at *
        go_wp2_with fail
        go_quiet (fail)
        go_wp2_with fail
        go_end0
        exact ⟨rfl, by rw [HE.out]; exact HF.out _, HBT.out.trans ((below_drewN wr _).mono hBr)⟩
end Go.Proofs.Ytdmnoeooljofcaa
/- knotsOf. -/
namespace Go.Proofs.Ytdmnoeooljofcaa
open Go.RowKit

theorem visit_any {B W : Nat} {nv : Value} {next : List (List Int)} {n cb bb sb : Nat} (hn : n ≤ 4096) (hnl : next.length = n) (hnx : ∀ (i : Nat) l, next[i]? = some l → ∀ z ∈ l, 0 ≤ z ∧ z < (n : Int)) :
    ∀ (f : Nat) (s : Wk) (w : World) (p : Nat), WI B W nv next n cb bb sb s w → B ≤ w.heap.size → OkW n s → p < n → s.came.getD p 0 = 0 → unv s.came ≤ f →
      Calls Try.prog 74 #[ptr W, .int .i64 p] w fun e w' => e = .returned (.tuple #[]) ∧ WI B W nv next n cb bb sb (visitM next f p s) w' ∧ Below B w w' := by
  intro f
  induction f with
  | zero =>
    intro s w p _ _ ho hp h0 hu
    exfalso
    have := unv_set (l := s.came) (i := p) (z := 1) (by rw [ho.lc]; exact hp) h0 (by decide)
    omega
  | succ f ih => intro s w p h hB ho hp h0 hu; exact visit_step hn hnl hnx f ih s w p h hB ho hp h0 hu
theorem start_ok (n : Nat) : OkW n (startM n) := by
  refine ⟨by simp [startM], by simp [startM], by simp [startM], by simp [startM], ?_, by simp [startM], by simp [startM], by simp [startM], by simp [startM]⟩
  show (0 : Int) + (unv (List.replicate n 0) : Nat) ≤ n
  have : unv (List.replicate n 0) ≤ n := by unfold unv; exact Nat.le_trans (List.length_filter_le _ _) (by simp)
  omega
theorem run_make_fix {P : Program} {t e : TypeId} {i : TypeInfo} {z : Value} (h1 : P.underlying t = some (.slice e)) (h2 : P.info? e = some i) (h3 : i.zero = some z) (h4 : i.size = 1) (h5 : z.cells = #[z]) (n : Nat) (b2 : i.bytes * n ≤ 281474976710656) (b3 : n ≤ maxLen) (w : World) :
    (Instr.makeSlice t (.int .i64 n) (.int .i64 n)).run P w = .ok (.slice (some ⟨w.heap.size, 0, none⟩) n n) (w.alloc (.cells (Array.replicate n z) e)) := by
  have hb' : (i.bytes : Int) * (n : Int) ≤ 281474976710656 := by
    have h : ((i.bytes * n : Nat) : Int) ≤ 281474976710656 := by omega
    rwa [Int.natCast_mul] at h
  have h63' : (n : Int) ≤ 9223372036854775807 := by
    have h := b3
    simp [maxLen] at h
    omega
  have hrun := run_make (P := P) w t e i z h1 h2 h3 .i64 .i64 n n (by omega) (Int.le_refl _) hb' h63'
  rw [h4, Nat.mul_one, h5, made_one] at hrun
  simpa using hrun
theorem alloc4 (w : World) (o0 o1 o2 o3 : Obj) : Below w.heap.size w ((((w.alloc o0).alloc o1).alloc o2).alloc o3).drew ∧ ((((w.alloc o0).alloc o1).alloc o2).alloc o3).drew.heap[w.heap.size]? = some o0 ∧ ((((w.alloc o0).alloc o1).alloc o2).alloc o3).drew.heap[w.heap.size + 1]? = some o1 ∧ ((((w.alloc o0).alloc o1).alloc o2).alloc o3).drew.heap[w.heap.size + 1 + 1]? = some o2 ∧ ((((w.alloc o0).alloc o1).alloc o2).alloc o3).drew.heap[w.heap.size + 1 + 1 + 1]? = some o3 := by
  have b1 := below_new w o0
  have s1 : (w.alloc o0).heap.size = w.heap.size + 1 := by simp
  have s2 : ((w.alloc o0).alloc o1).heap.size = w.heap.size + 1 + 1 := by simp
  have s3 : (((w.alloc o0).alloc o1).alloc o2).heap.size = w.heap.size + 1 + 1 + 1 := by simp
  have e0 := heap_alloc_new w o0
  have e1 := heap_alloc_new (w.alloc o0) o1
  have e2 := heap_alloc_new ((w.alloc o0).alloc o1) o2
  have e3 := heap_alloc_new (((w.alloc o0).alloc o1).alloc o2) o3
  rw [s1] at e1
  rw [s2] at e2
  rw [s3] at e3
  have k1 : ∀ g, g < (w.alloc o0).heap.size → ((w.alloc o0).alloc o1).heap[g]? = (w.alloc o0).heap[g]? := fun g hg => Below.heap_alloc _ _ _ hg
  have k2 : ∀ g, g < ((w.alloc o0).alloc o1).heap.size → (((w.alloc o0).alloc o1).alloc o2).heap[g]? = ((w.alloc o0).alloc o1).heap[g]? := fun g hg => Below.heap_alloc _ _ _ hg
  have k3 : ∀ g, g < (((w.alloc o0).alloc o1).alloc o2).heap.size → ((((w.alloc o0).alloc o1).alloc o2).alloc o3).heap[g]? = (((w.alloc o0).alloc o1).alloc o2).heap[g]? := fun g hg => Below.heap_alloc _ _ _ hg
  refine ⟨(((b1.alloc (by omega) _).alloc (by omega) _).alloc (by omega) _).drew, ?_, ?_, ?_, e3⟩
  · exact (k3 _ (by omega)).trans ((k2 _ (by omega)).trans ((k1 _ (by omega)).trans e0))
  · exact (k3 _ (by omega)).trans ((k2 _ (by omega)).trans e1)
  · exact (k3 _ (by omega)).trans e2
theorem start_wi {w wc : World} {next : List (List Int)} {na : Option Addr} {nc W cb bb sb : Nat} (h : Lists w.heap.size w next (.slice na next.length nc)) (hb : Below w.heap.size w wc)
    (hW : wc.heap[W]? = some (.cells #[.slice na next.length nc, sl cb next.length, sl bb next.length, .int .i64 0, .slice none 0 0, sl sb next.length, .slice none 0 0] 113 (0, 0)))
    (hc : wc.heap[cb]? = some (.cells (Array.replicate next.length (.int .i64 0)) 3 (0, 0))) (hbb : wc.heap[bb]? = some (.cells (Array.replicate next.length (.int .i64 0)) 3 (0, 0))) (hs : wc.heap[sb]? = some (.cells (Array.replicate next.length (.bool false)) 4 (0, 0)))
    (lo : w.heap.size ≤ W ∧ w.heap.size ≤ cb ∧ w.heap.size ≤ bb ∧ w.heap.size ≤ sb) (ne : cb ≠ bb) : WI w.heap.size W (.slice na next.length nc) next next.length cb bb sb (startM next.length) wc := by
  refine ⟨.slice none 0 0, .slice none 0 0, fun _ => False, ⟨hW, h.keep hb.block, lo, ?_, ?_, ?_, ⟨rfl, .inl ⟨rfl, rfl⟩⟩, ⟨ne, by simp [Value.ownBlock], by simp [Value.ownBlock]⟩, ⟨[], ⟨rfl, .inl ⟨rfl, rfl⟩⟩, fun i k hk => by simp [startM] at hk⟩, fun g hg => hg.elim⟩⟩
  · unfold Fx; rw [hc, ints_rep]; rfl
  · unfold Fx; rw [hbb, ints_rep]; rfl
  · unfold Fx; rw [hs, bools_rep]; rfl
theorem WI.done {B W : Nat} {nv : Value} {next : List (List Int)} {n cb bb sb : Nat} {s : Wk} {w : World} (h : WI B W nv next n cb bb sb s w) (ho : OkW n s) (hn : n ≤ 4096) : ∃ ka kc, w.cell? ⟨W, 6, none⟩ = some (.slice ka s.knots.length kc) ∧ Lists w.heap.size w s.knots (.slice ka s.knots.length kc) := by
  obtain ⟨ov, kv, Z, hw⟩ := h
  obtain ⟨xs, k1, k2⟩ := hw.rk
  obtain ⟨ka, kc, rfl⟩ := owns_slice k1
  have hkl : s.knots.length ≤ 4096 := by have h1 := ho.kl; have h2 := ho.c1; omega
  refine ⟨ka, kc, hw.cells.2.2.2.2.2.2, ?_⟩
  have hx := owns_at1 k1
  have hcap : s.knots.length ≤ kc := by
    rcases k1.2 with ⟨e, h0⟩ | ⟨g, cap, cur, e, _, _, h5, _⟩
    · omega
    · simp only [Value.slice.injEq] at e; omega
  refine ⟨ka, kc, rfl, hcap, by omega, fun i k hi => ?_⟩
  obtain ⟨v, h3, h4⟩ := k2 i k hi
  obtain ⟨g, o, e, hcell⟩ := hx i v h3
  refine ⟨g, o, [v], e, World.block_lt_of_cell? w _ hcell, rfl, fun j u hu => ?_, v, rfl, h4.rr (fun g hg => (hw.z g hg).2.2.2.2.elim fun vs h => h.lt) fun _ _ h => h⟩
  match j, hu with
  | 0, hu => cases hu; rw [Nat.mul_one, Nat.add_zero]; exact hcell
theorem each_ok {next : List (List Int)} {n : Nat} (hn : ∀ (i : Nat) l, next[i]? = some l → ∀ z ∈ l, 0 ≤ z ∧ z < (n : Int)) (f : Nat) : ∀ k i s, OkW n s → i + k ≤ n → OkW n (eachM next f k i s)
  | 0, _, _, h, _ => h
  | k + 1, i, s, h, hi => by
    unfold eachM
    by_cases hz : s.came.getD i 0 = 0
    · rw [if_pos hz]
      exact each_ok hn f k (i + 1) _ (visit_ok hn f i s h ⟨by omega, by omega⟩ (by simpa using hz)).1 (by omega)
    · rw [if_neg hz]
      exact each_ok hn f k (i + 1) _ h (by omega)
set_option maxRecDepth 100000 in
set_option maxHeartbeats 12800000 in
theorem knotsOf_any {w : World} {next : List (List Int)} {na : Option Addr} {nc : Nat} (h : Lists w.heap.size w next (.slice na next.length nc)) (hn : next.length ≤ 4096) (hnx : ∀ (i : Nat) l, next[i]? = some l → ∀ z ∈ l, 0 ≤ z ∧ z < (next.length : Int)) :
    Calls Try.prog 66 #[.slice na next.length nc] w fun e w' => ∃ ka kc, e = .returned (.slice ka (knotsM next).length kc) ∧ Lists w'.heap.size w' (knotsM next) (.slice ka (knotsM next).length kc) ∧ Below w.heap.size w w' := by
  obtain ⟨iI, hiI, zI0, zI1, zI2⟩ := info_parts infoI
  obtain ⟨iB, hiB, zB0, zB1, zB2⟩ := info_parts infoBo
  have hm1 := fun W => run_make_fix (P := Try.prog) Try.underlying38 hiI zI0 zI1 rfl next.length (by rw [zI2]; omega) (by unfold maxLen; omega) W
  have hm2 := fun W => run_make_fix (P := Try.prog) Try.underlying80 hiB zB0 zB1 rfl next.length (by rw [zB2]; omega) (by unfold maxLen; omega) W
  have HH := hide h
  have HNX := hide hnx
  have hlim := h.lim
  obtain ⟨R, hR⟩ : ∃ R, eachM next next.length next.length 0 (startM next.length) = R := ⟨_, rfl⟩
  have HOK : Hid (OkW next.length R) := hide (by rw [← hR]; exact each_ok hnx _ _ _ _ (start_ok _) (by omega))
  have HK : Hid (knotsM next = R.knots) := hide (by unfold knotsM; rw [hR])
  have HR0 : Hid (eachM next next.length (next.length - 0) 0 (startM next.length) = R) := hide (by rw [Nat.sub_zero]; exact hR)
  rw [HK.out]
  clear h hnx hR
  go_enter Try.func66, Try.ntmps66
  go_upto_region 1 with fail
  go_cut [3] from 5 to 16 (fun s wc => ∃ W cb bb sb, s = ptr W ∧ Hid (WI w.heap.size W (.slice na next.length nc) next next.length cb bb sb (startM next.length) wc) ∧ Hid (Below w.heap.size w wc))
  case first =>
    go_region
    all_goals (go_wp2_with fail; go_meet)
    · exact ⟨_, _, _, _, rfl, hide (start_wi HH.out (alloc4 w _ _ _ _).1 (alloc4 w _ _ _ _).2.2.2.2 (alloc4 w _ _ _ _).2.1 (alloc4 w _ _ _ _).2.2.1 (alloc4 w _ _ _ _).2.2.2.1 (by omega) (by omega)), hide (alloc4 w _ _ _ _).1⟩
    · exact ⟨_, _, _, _, rfl, hide (start_wi HH.out (alloc4 w _ _ _ _).1 (alloc4 w _ _ _ _).2.2.2.2 (alloc4 w _ _ _ _).2.1 (alloc4 w _ _ _ _).2.2.2.1 (alloc4 w _ _ _ _).2.2.1 (by omega) (by omega)), hide (alloc4 w _ _ _ _).1⟩
    · exact ⟨_, _, _, _, rfl, hide (start_wi HH.out (alloc4 w _ _ _ _).1 (alloc4 w _ _ _ _).2.2.2.2 (alloc4 w _ _ _ _).2.2.1 (alloc4 w _ _ _ _).2.1 (alloc4 w _ _ _ _).2.2.2.1 (by omega) (by omega)), hide (alloc4 w _ _ _ _).1⟩
    · exact ⟨_, _, _, _, rfl, hide (start_wi HH.out (alloc4 w _ _ _ _).1 (alloc4 w _ _ _ _).2.2.2.2 (alloc4 w _ _ _ _).2.2.2.1 (alloc4 w _ _ _ _).2.1 (alloc4 w _ _ _ _).2.2.1 (by omega) (by omega)), hide (alloc4 w _ _ _ _).1⟩
    · exact ⟨_, _, _, _, rfl, hide (start_wi HH.out (alloc4 w _ _ _ _).1 (alloc4 w _ _ _ _).2.2.2.2 (alloc4 w _ _ _ _).2.2.1 (alloc4 w _ _ _ _).2.2.2.1 (alloc4 w _ _ _ _).2.1 (by omega) (by omega)), hide (alloc4 w _ _ _ _).1⟩
    · exact ⟨_, _, _, _, rfl, hide (start_wi HH.out (alloc4 w _ _ _ _).1 (alloc4 w _ _ _ _).2.2.2.2 (alloc4 w _ _ _ _).2.2.2.1 (alloc4 w _ _ _ _).2.2.1 (alloc4 w _ _ _ _).2.1 (by omega) (by omega)), hide (alloc4 w _ _ _ _).1⟩
  case rest =>
    obtain ⟨W, cb, bb, sb, rfl, HW, HB⟩ := hcut
    clear hm1 hm2
    go_wp2_with fail
    go_loopw [19] (fun z wr => ∃ (k : Nat) (t : Wk), k ≤ next.length ∧ z = .int .i64 k ∧ Hid (WI w.heap.size W (.slice na next.length nc) next next.length cb bb sb t wr) ∧ Hid (OkW next.length t) ∧ Hid (eachM next next.length (next.length - k) k t = R) ∧ Hid (Below w.heap.size w wr)) (fun z _ => next.length - (intOf z).toNat)
    case atStart => exact ⟨0, _, by omega, rfl, HW, hide (start_ok _), HR0, HB⟩
    case round =>
      clear HR0 HW HB
      obtain ⟨k, t, hk, rfl, HWT, HOKT, HRT, HBT⟩ := hrel
      by_cases hlt : k < next.length
      · have HRS : Hid (eachM next next.length (next.length - (k + 1)) (k + 1) (if t.came.getD k 0 = 0 then visitM next next.length k t else t) = R) := hide (by have := HRT.out; rw [show next.length - k = (next.length - (k + 1)) + 1 by omega, eachM] at this; exact this)
        obtain ⟨ov2, kv2, Z2, hwt⟩ := HWT.out
        obtain ⟨c0, c1, c2, c3, c4, c5, c6⟩ := hwt.cells
        have kcm := hwt.fc.get (ints_at (l := t.came) (i := k) (by rw [HOKT.out.lc]; exact hlt))
        by_cases hz : t.came.getD k 0 = 0
        · have hunv : unv t.came ≤ next.length := by have := HOKT.out.lc; unfold unv; exact Nat.le_trans (List.length_filter_le _ _) (by omega)
          have CV := hide (visit_any hn rfl HNX.out next.length t wr k HWT.out HBT.out.size HOKT.out hlt hz hunv)
          have HOK2 := hide (visit_ok HNX.out next.length k t HOKT.out ⟨by omega, by omega⟩ (by simpa using hz)).1
          rw [if_pos hz] at HRS
          rw [hz] at kcm
          clear hwt hz HRT HWT hunv
          go_wp2_with (go_at_call 74; refine CV.out.mono ?_; rintro _ wv ⟨rfl, hv1, hv2⟩; have HV1 := hide hv1; have HB2 := hide (HBT.out.trans hv2); clear hv1 hv2)
          go_roundw
          case rel => exact ⟨k + 1, _, by omega, by go_num, HV1, HOK2, HRS, HB2⟩
          case measure => simp [intOf]; omega
        · have hz2 : (t.came.getD k 0 == 0) = false := beq_eq_false_iff_ne.2 hz
          rw [if_neg hz] at HRS
          clear hwt HRT
          generalize t.came.getD k 0 = cm at *
          go_wp2_with fail
          go_roundw
          case rel => exact ⟨k + 1, t, by omega, by go_num, HWT, HOKT, HRS, HBT⟩
          case measure => simp [intOf]; omega
      · have HE : Hid (t = R) := hide (by have := HRT.out; rw [show next.length - k = 0 by omega] at this; exact this)
        obtain ⟨ka, kc, q1, q2⟩ := HWT.out.done HOKT.out hn
        have HQ := hide q2
        clear q2 HRT HWT
        go_wp2_with fail
        go_ret
        rw [← HE.out]
        exact ⟨ka, kc, rfl, HQ.out, HBT.out⟩
end Go.Proofs.Ytdmnoeooljofcaa
