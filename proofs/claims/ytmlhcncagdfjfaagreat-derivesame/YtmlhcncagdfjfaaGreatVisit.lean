import Derived.Test.YtmlhcncagdfjfaaGreatShut
import Derived.BigRegion
import Derived.Deep.CutRange
set_option maxRecDepth 100000
set_option maxHeartbeats 12800000
namespace Go.Proofs.YtmlhcncagdfjfaaGreat
open Go.RowKit
section
variable {B W : Nat} {nv : Value} {next : List (List Int)} {n cb bb sb : Nat} {ov kv : Value} {Z : Nat → Prop} {s : Wk} {w w' : World}
theorem Wi.opened (h : Wi B W nv next n cb bb sb ov kv Z s w) (hB : B ≤ w.heap.size) {x : Int} {K oc : Nat} {oa : Option Addr} (hK : s.opn.length = K) (hov : ov = .slice oa s.opn.length oc) {g4 cap4 : Nat} {ob : Obj} (hown : w'.ownsRow B 3 1 (.slice (some ⟨g4, 0, none⟩) (K + 1) cap4) (K + 1) (aw s.opn ++ [.int .i64 x]))
    (hg : (Value.ownBlock (.slice oa K oc) = some g4 ∧ (w.alloc ob).grownBy w' (some g4)) ∨ (g4 = w.heap.size + 1 ∧ (w.alloc ob).grownBy w' none)) :
    w'.cell? ⟨W, 4, none⟩ = some (.slice oa K oc) ∧ w'.frozen? ⟨W, 4, none⟩ = false ∧ Wi B W nv next n cb bb sb (.slice (some ⟨g4, 0, none⟩) (K + 1) cap4) kv Z { s with opn := s.opn ++ [x] } (w'.setCell ⟨W, 4, none⟩ (.slice (some ⟨g4, 0, none⟩) (K + 1) cap4)) ∧ Below B w (w'.setCell ⟨W, 4, none⟩ (.slice (some ⟨g4, 0, none⟩) (K + 1) cap4)) := by
 subst hK
 rw [← hov] at hg ⊢
 have Ag : ov.ownBlock ≠ some W := ay h.ro h.bx (by decide)
 have ho : ∀ k, k < w.heap.size → ov.ownBlock ≠ some k → w'.heap[k]? = w.heap[k]? := fun k hk hn => eZ rfl hg hk hn
 have Aa := h.bx.keep (ho _ h.bx.lt Ag)
 have Ad := h.fc.keep (ho _ h.fc.lt h.ne.2.1)
 have Ae := h.fb.keep (ho _ h.fb.lt h.ne.2.2)
 have Ac := h.fs.keep (ho _ h.fs.lt (ay h.ro h.fs (by decide)))
 obtain ⟨xs, k1, _⟩ := h.rk
 obtain ⟨l1, l2, l3, l4⟩ := h.lo
 have hz := h.hz (.inl rfl)
 have Af : ∀ g, Z g → (w'.setCell ⟨W, 4, none⟩ (.slice (some ⟨g4, 0, none⟩) (s.opn.length + 1) cap4)).heap[g]? = w.heap[g]? := fun g hg => by
  obtain ⟨_, _, _, h4, vs, h5⟩ := h.z g hg
  rw [other_set (hz g hg)]
  exact ho g h5.lt h4
 have Ab : ∀ g, g < w.heap.size → ov.ownBlock ≠ some g → g4 ≠ g := fun g hl hn e => by
  subst e
  rcases hg with ⟨h1, _⟩ | ⟨h1, _⟩
  · exact hn h1
  · omega
 refine ⟨Aa.get (by rw [hov]; rfl), Aa.frz 4, ⟨Aa.set 4 _, h.nx.keep fun g hg => ?_, h.lo, Ad.keep (other_set (an Ad Aa (by decide))), Ae.keep (other_set (an Ae Aa (by decide))), Ac.keep (other_set (an Ac Aa (by decide))), ?_, ⟨h.ne.1, fun e => ?_, fun e => ?_⟩, ga h.rk (fun g hg => ?_) Af, fun g hg => ?_⟩, ?_⟩
 · rw [other_set (by omega)]
   exact ho g (by omega) fun e => by have := (h.ro.lt g e).1; omega
 · show World.ownsRow _ _ _ _ _ (s.opn ++ [x]).length (aw (s.opn ++ [x]))
   rw [List.length_append, dO]
   exact owns_keep hown fun g e => other_set fun (e2 : g = W) => ay hown Aa (by decide) (e2 ▸ e)
 · exact Ab cb h.fc.lt h.ne.2.1 (by simpa [Value.ownBlock] using e)
 · exact Ab bb h.fb.lt h.ne.2.2 (by simpa [Value.ownBlock] using e)
 · rw [other_set fun (e : g = W) => ay k1 h.bx (by decide) (e ▸ hg)]
   exact ho g (aE k1 hg) (lI (be h.ro (Nat.zero_le _)) (be k1 (Nat.zero_le _)) (by decide) hg)
 · obtain ⟨h1, h2, h3, h4, vs, h5⟩ := h.z g hg
   exact ⟨h1, h2, h3, fun e => Ab g h5.lt h4 (by simpa [Value.ownBlock] using e), vs, h5.keep (Af g hg)⟩
 · exact ((dx (Z := fun k => B ≤ k) rfl hg fun g e => (h.ro.lt g e).1).below fun k hk => ⟨by omega, by omega⟩).setCell (p := ⟨W, 4, none⟩) h.lo.1 _
end
theorem su {B W : Nat} {nv : Value} {next : List (List Int)} {n cb bb sb : Nat} (hn : n ≤ 4096) (hnl : next.length = n) (hnx : ∀ (i : Nat) l, next[i]? = some l → ∀ z ∈ l, 0 ≤ z ∧ z < (n : Int)) (f : Nat)
    (ih : ∀ (s : Wk) (w : World) (p : Nat), WI B W nv next n cb bb sb s w → B ≤ w.heap.size → OkW n s → p < n → s.came.getD p 0 = 0 → eE s.came ≤ f →
     Calls Tryz.prog 141 #[ab W, .int .i64 p] w fun e w' => e = .returned (.tuple #[]) ∧ WI B W nv next n cb bb sb (aV next f p s) w' ∧ Below B w w')
    (s : Wk) (w : World) (p : Nat) (h : WI B W nv next n cb bb sb s w) (hB : B ≤ w.heap.size) (ho : OkW n s) (hp : p < n) (h0 : s.came.getD p 0 = 0) (hu : eE s.came ≤ f + 1) :
    Calls Tryz.prog 141 #[ab W, .int .i64 p] w fun e w' => e = .returned (.tuple #[]) ∧ WI B W nv next n cb bb sb (aV next (f + 1) p s) w' ∧ Below B w w' := by
 obtain ⟨iI, Bc, Bj, Bg, Bn⟩ := info_parts iE
 obtain ⟨ov, kv, Z, hw⟩ := h
 have Bx := ho.c0
 have Bu := ho.c1
 have BC := ho.ol
 obtain ⟨c0, c1, c2, c3, c4, c5, c6⟩ := hw.cells
 have Bp := hw.bx.frz 3
 have W1 := hide (hw.clock (s.clock + 1))
 have AM := hide ((Below.refl B w).setCell (p := ⟨W, 3, none⟩) hw.lo.1 (.int .i64 (s.clock + 1)))
 have Bz : s.clock + 1 ≤ 4096 := by have := (ho.come (p := p) ⟨by omega, by omega⟩ (by simpa using h0)).2; omega
 clear hw
 go_enter Tryz.func141, Tryz.ntmps141
 go_upto_region 1 with fail
 have Bw : B ≤ (w.setCell ⟨W, 3, none⟩ (.int .i64 (s.clock + 1))).heap.size := by simp; omega
 clear c0 c1 c2 c3 c4 c5 c6 Bp
 generalize w.setCell ⟨W, 3, none⟩ (.int .i64 (s.clock + 1)) = w1 at *
 obtain ⟨c0, c1, c2, c3, c4, c5, c6⟩ := W1.out.cells
 have kc := W1.out.fc.get (cT (l := s.came) (i := p) (by rw [ho.lc]; exact hp))
 have Bf := W1.out.fc.frz p
 have kb := W1.out.fb.get (cT (l := s.back) (i := p) (by rw [ho.lb]; exact hp))
 have AE := W1.out.fb.frz p
 have W2 := hide ((W1.out.came p (s.clock + 1)).back p (s.clock + 1))
 have Bm := (W1.out.came p (s.clock + 1)).fb.get (cT (l := s.back) (i := p) (by rw [ho.lb]; exact hp))
 have AX := (W1.out.came p (s.clock + 1)).fb.frz p
 have W2d := hide (W2.out.call (Below.refl _ _).drew (by simp; omega))
 have Ae := hide (((AM.out.setCell (p := ⟨cb, p, none⟩) W1.out.lo.2.1 (.int .i64 (s.clock + 1))).setCell (p := ⟨bb, p, none⟩) W1.out.lo.2.2.1 (.int .i64 (s.clock + 1))).drew)
 have Bl := hide ih
 have AQ := hide hnx
 have Bo := hide ho
 have Bi := hide h0
 clear W2
 go_region
 go_upto_region 2 with fail
 have AZ : B ≤ (((w1.setCell ⟨cb, p, none⟩ (.int .i64 (s.clock + 1))).setCell ⟨bb, p, none⟩ (.int .i64 (s.clock + 1))).drew).heap.size := by simp; omega
 clear c0 c1 c2 c3 c4 c5 c6 kc Bf kb AE Bm AX W1 AM ih hnx ho h0
 generalize ((w1.setCell ⟨cb, p, none⟩ (.int .i64 (s.clock + 1))).setCell ⟨bb, p, none⟩ (.int .i64 (s.clock + 1))).drew = w2 at *
 obtain ⟨c0, c1, c2, c3, c4, c5, c6⟩ := W2d.out.cells
 obtain ⟨oa, oc, AK⟩ := ci W2d.out.ro
 obtain ⟨K, hK⟩ : ∃ K, s.opn.length = K := ⟨_, rfl⟩
 have HEov : Hid (ov = .slice oa s.opn.length oc) := hide AK
 have HK := hide hK
 have hA := ac w2 (.cells #[.int .i64 p] 3)
 have AH : Hid ((w2.alloc (.cells #[.int .i64 p] 3)).ownsRow B 3 1 (.slice oa K oc) K (aw s.opn)) := hide (by
  have := owns_keep W2d.out.ro fun g hg => hA.block g (aE W2d.out.ro hg)
  rw [HEov.out, HK.out] at this
  exact this)
 rw [AK] at c4
 simp only [hK] at c4
 have BG : K ≤ 4096 := by omega
 obtain ⟨na, nc, rfl, BH, Bv⟩ := W2d.out.nx.form
 clear hA AK hK
 go_upto_region 3 with (at_builtin; go_must (refine bB _ rfl _ _ 26 rfl B 3 iI _ 1 8 Tryz.underlying26 Bc Bj Bg Bn rfl (by decide) _ _ (aw s.opn) rfl AH.out ⟨w2.heap.size, 0, none⟩ 1 [.int .i64 p] rfl rfl (cell_one_new _ _ _) (by intro u hu; simp at hu; subst hu; rfl) (by unfold maxLen; omega) (by omega) (by simp; omega) ?_); intro g4 Ba w4 As AV; have HFin := hide (W2d.out.opened AZ (x := p) HK.out HEov.out As (by rcases AV with h | ⟨h1, h2⟩; exact .inl h; exact .inr ⟨by simpa using h1, h2⟩)); clear As AV; obtain ⟨Bb, Be, AW, AL⟩ := HFin.out; have HFc := hide AW; have HFd := hide AL; clear AW AL HFin)
 have AN := hide (Ae.out.trans HFd.out)
 have Bt := hide (Ae.out.trans HFd.out)
 clear Bb Be c0 c1 c2 c3 c4 c5 c6 AH W2d HFd Ae
 generalize w4.setCell ⟨W, 4, none⟩ (.slice (some ⟨g4, 0, none⟩) (K + 1) Ba) = w5 at *
 have AS : Hid (WI B W (.slice na next.length nc) next n cb bb sb (gq p s) w5) := hide ⟨_, _, _, HFc.out⟩
 obtain ⟨AJ, AY⟩ := Bo.out.come (p := p) ⟨by omega, by omega⟩ (by simpa using Bi.out)
 obtain ⟨l, hl⟩ := am (l := next) (i := p) (by omega)
 obtain ⟨g6, o6, la, lc, AD, -, kl, -, BA, hI⟩ := d8 HFc.out.nx hl
 obtain ⟨c0, c1, c2, c3, c4, c5, c6⟩ := HFc.out.cells
 have HIl := hide hI
 have HLr := hide (AQ.out p l hl)
 have HRow : Hid (row next (p : Int) = l) := hide (bS (by simpa using hl))
 obtain ⟨R, hR⟩ : ∃ R, bR (aV next f) p l (gq p s) = R := ⟨_, rfl⟩
 have AU : Hid (bR (aV next f) p (l.drop 0) (gq p s) = R) := hide (by rw [List.drop_zero]; exact hR)
 have AC := hide AJ
 have AG : Hid (eE (gq p s).came ≤ f) := hide (by omega)
 have HFinal : Hid (aV next (f + 1) p s = lU p R) := hide (by rw [aV, HRow.out, hR])
 have HEna := hide AD
 rw [AD] at c0
 subst AD
 clear hl hI hR AJ AY HFc
 have BD : p < next.length := by omega
 go_wp2_with fail
 clear c0 c1 c2 c3 c4 c5 c6 kl
 go_loopw [51] (fun z wr => ∃ (k : Nat) (t : Wk), k ≤ l.length ∧ z = .int .i64 k ∧ Hid (WI B W (.slice (some ⟨g6, o6, none⟩) next.length nc) next n cb bb sb t wr) ∧ Hid (OkW n t) ∧ Hid (eE t.came ≤ f) ∧ Hid (∃ ex, t.opn = s.opn ++ [(p : Int)] ++ ex) ∧ Hid (bR (aV next f) p (l.drop k) t = R) ∧ Hid (Below B w wr)) (fun z _ => l.length - (intOf z).toNat)
 case atStart => exact ⟨0, gq p s, by omega, rfl, AS, AC, AG, hide ⟨[], by show s.opn ++ [(p : Int)] = _; simp⟩, AU, AN⟩
 case round =>
  clear AU AG AC AS AN
  obtain ⟨k, t, hk, rfl, Af, Aa, At, Au, Aq, Ag⟩ := hrel
  have Ai : B ≤ wr.heap.size := Nat.le_trans hB Ag.out.size
  by_cases hlt : k < l.length
  · obtain ⟨x, hx⟩ := am hlt
    obtain ⟨AO, Br⟩ := HLr.out x (List.mem_of_getElem? hx)
    obtain ⟨m, rfl⟩ := Int.eq_ofNat_of_zero_le AO
    have Ah : m < n := by omega
    obtain ⟨lg, lo', rfl, -, kx⟩ := jt (Ints.keep (fun g hg => (Ag.out.block g hg).trans (Bt.out.block g hg).symm) HIl.out) hx
    have Av : Hid (bR (aV next f) p (l.drop (k + 1)) (em p m (if t.came.getD m 0 = 0 then aV next f m t else t)) = R) := hide (by have := Aq.out; rw [aY hx, bR] at this; simpa using this)
    obtain ⟨Bh, Bq, Z2, Ac⟩ := Af.out
    obtain ⟨c0, c1, c2, c3, c4, c5, c6⟩ := Ac.cells
    have AB := Ac.fc.get (cT (l := t.came) (i := m) (by rw [Aa.out.lc]; exact Ah))
    clear hx AO Br Aq
    by_cases hz : t.came.getD m 0 = 0
    · rw [hz] at AB
      have CV := hide (Bl.out t wr m Af.out Ai Aa.out Ah hz At.out)
      obtain ⟨v1, v2, v3⟩ := mN AQ.out f m t Aa.out ⟨by omega, by omega⟩ (by simpa using hz)
      have Ad := Av
      rw [if_pos hz] at Ad
      generalize hvt : aV next f m t = t2 at *
      have Ab := hide v1
      have AI : Hid (eE t2.came ≤ f) := hide (Nat.le_trans v2 At.out)
      have Az : Hid (∃ ex, t2.opn = s.opn ++ [(p : Int)] ++ ex) := hide (by obtain ⟨e1, h1⟩ := v3; obtain ⟨e2, h2⟩ := Au.out; exact ⟨e2 ++ e1, by rw [h1, h2]; simp⟩)
      clear v1 v2 v3 Ac Af Av hvt hz
      go_upto_region 8 with (go_at_call 141; refine CV.out.mono ?_; rintro _ wv ⟨rfl, Ak, Aj⟩; have Ar := hide Ak; have Ae := hide (Ag.out.trans Aj); clear Ak Aj)
      clear c0 c1 c2 c3 c4 c5 c6 AB kx
      obtain ⟨By, BB, Z3, AT⟩ := Ar.out
      have W2 := hide AT
      have BE : B ≤ wv.heap.size := Nat.le_trans hB Ae.out.size
      clear AT Ar
      have Ax : m < t2.shut.length := by rw [Ab.out.ls]; exact Ah
      have Al := W2.out.fs.get (ko Ax)
      obtain ⟨d0, d1, d2, d3, d4, d5, d6⟩ := W2.out.cells
      cases hsb : t2.shut.getD m false with
      | true =>
       rw [hsb] at Al
       have HN : Hid (bR (aV next f) p (l.drop (k + 1)) t2 = R) := hide (by have := Ad.out; unfold em at this; rw [show (m : Int).toNat = m by omega, hsb] at this; exact this)
       have An : Hid (WI B W (.slice (some ⟨g6, o6, none⟩) next.length nc) next n cb bb sb t2 wv) := hide ⟨_, _, _, W2.out⟩
       clear Ad W2 hsb
       go_wp2_with fail
       go_roundw
       case rel => exact ⟨k + 1, t2, by omega, by go_num, An, Ab, AI, Az, HN, Ae⟩
       case measure => simp [intOf]; omega
      | false =>
       rw [hsb] at Al
       have Aw : p < t2.back.length := by rw [Ab.out.lb]; exact hp
       have AA : m < t2.back.length := by rw [Ab.out.lb]; exact Ah
       have AF := W2.out.fb.get (cT Aw)
       have Bd := W2.out.fb.get (cT AA)
       have AE := W2.out.fb.frz p
       have HN : Hid (bR (aV next f) p (l.drop (k + 1)) { t2 with back := t2.back.set p (min (t2.back.getD p 0) (t2.back.getD m 0)) } = R) := hide (by have := Ad.out; unfold em at this; rw [show (m : Int).toNat = m by omega, show (p : Int).toNat = p by omega, hsb] at this; exact this)
       have Am : Hid (OkW n { t2 with back := t2.back.set p (min (t2.back.getD p 0) (t2.back.getD m 0)) }) := hide ⟨Ab.out.lc, by rw [List.length_set]; exact Ab.out.lb, Ab.out.ls, Ab.out.c0, Ab.out.c1, Ab.out.op, Ab.out.ol, Ab.out.kl, Ab.out.kn⟩
       have W3 := W2.out.back p (min (t2.back.getD p 0) (t2.back.getD m 0))
       rw [← jN] at W3
       have Ap : B ≤ (wv.setCell ⟨bb, p, none⟩ (.int .i64 (if t2.back.getD m 0 < t2.back.getD p 0 then t2.back.getD m 0 else t2.back.getD p 0))).heap.size := by simp; omega
       have Ao : Hid (WI B W (.slice (some ⟨g6, o6, none⟩) next.length nc) next n cb bb sb { t2 with back := t2.back.set p (min (t2.back.getD p 0) (t2.back.getD m 0)) } ((wv.setCell ⟨bb, p, none⟩ (.int .i64 (if t2.back.getD m 0 < t2.back.getD p 0 then t2.back.getD m 0 else t2.back.getD p 0))).drew)) := hide ⟨_, _, _, by rw [← jN]; exact W3.call (Below.refl _ _).drew Ap⟩
       have Ay := hide ((Ae.out.setCell (p := ⟨bb, p, none⟩) W2.out.lo.2.2.1 (.int .i64 (if t2.back.getD m 0 < t2.back.getD p 0 then t2.back.getD m 0 else t2.back.getD p 0))).drew)
       clear Ad W2 W3 hsb Ab
       generalize t2.back.getD p 0 = bp at *
       generalize t2.back.getD m 0 = bm at *
       go_upto_region 9 with fail
       go_region
       go_wp2_with fail
       go_roundw
       case rel => exact ⟨k + 1, _, by omega, by go_num, Ao, Am, AI, Az, HN, Ay⟩
       case measure => simp [intOf]; omega
    · have Bk : (t.came.getD m 0 == 0) = false := beq_eq_false_iff_ne.2 hz
      have Ad := Av
      rw [if_neg hz] at Ad
      have W2 := hide Ac
      clear Ac Af Av
      generalize t.came.getD m 0 = cm at *
      go_upto_region 8 with fail
      clear c0 c1 c2 c3 c4 c5 c6 AB kx
      have Ax : m < t.shut.length := by rw [Aa.out.ls]; exact Ah
      have Al := W2.out.fs.get (ko Ax)
      obtain ⟨d0, d1, d2, d3, d4, d5, d6⟩ := W2.out.cells
      cases hsb : t.shut.getD m false with
      | true =>
       rw [hsb] at Al
       have HN : Hid (bR (aV next f) p (l.drop (k + 1)) t = R) := hide (by have := Ad.out; unfold em at this; rw [show (m : Int).toNat = m by omega, hsb] at this; exact this)
       have An : Hid (WI B W (.slice (some ⟨g6, o6, none⟩) next.length nc) next n cb bb sb t wr) := hide ⟨_, _, _, W2.out⟩
       clear Ad W2 hsb
       go_wp2_with fail
       go_roundw
       case rel => exact ⟨k + 1, t, by omega, by go_num, An, Aa, At, Au, HN, Ag⟩
       case measure => simp [intOf]; omega
      | false =>
       rw [hsb] at Al
       have Aw : p < t.back.length := by rw [Aa.out.lb]; exact hp
       have AA : m < t.back.length := by rw [Aa.out.lb]; exact Ah
       have AF := W2.out.fb.get (cT Aw)
       have Bd := W2.out.fb.get (cT AA)
       have AE := W2.out.fb.frz p
       have HN : Hid (bR (aV next f) p (l.drop (k + 1)) { t with back := t.back.set p (min (t.back.getD p 0) (t.back.getD m 0)) } = R) := hide (by have := Ad.out; unfold em at this; rw [show (m : Int).toNat = m by omega, show (p : Int).toNat = p by omega, hsb] at this; exact this)
       have Am : Hid (OkW n { t with back := t.back.set p (min (t.back.getD p 0) (t.back.getD m 0)) }) := hide ⟨Aa.out.lc, by rw [List.length_set]; exact Aa.out.lb, Aa.out.ls, Aa.out.c0, Aa.out.c1, Aa.out.op, Aa.out.ol, Aa.out.kl, Aa.out.kn⟩
       have W3 := W2.out.back p (min (t.back.getD p 0) (t.back.getD m 0))
       rw [← jN] at W3
       have Ap : B ≤ (wr.setCell ⟨bb, p, none⟩ (.int .i64 (if t.back.getD m 0 < t.back.getD p 0 then t.back.getD m 0 else t.back.getD p 0))).heap.size := by simp; omega
       have Ao : Hid (WI B W (.slice (some ⟨g6, o6, none⟩) next.length nc) next n cb bb sb { t with back := t.back.set p (min (t.back.getD p 0) (t.back.getD m 0)) } ((wr.setCell ⟨bb, p, none⟩ (.int .i64 (if t.back.getD m 0 < t.back.getD p 0 then t.back.getD m 0 else t.back.getD p 0))).drew)) := hide ⟨_, _, _, by rw [← jN]; exact W3.call (Below.refl _ _).drew Ap⟩
       have Ay := hide ((Ag.out.setCell (p := ⟨bb, p, none⟩) W2.out.lo.2.2.1 (.int .i64 (if t.back.getD m 0 < t.back.getD p 0 then t.back.getD m 0 else t.back.getD p 0))).drew)
       clear Ad W2 W3 hsb Aa
       generalize t.back.getD p 0 = bp at *
       generalize t.back.getD m 0 = bm at *
       go_upto_region 9 with fail
       go_region
       go_wp2_with fail
       go_roundw
       case rel => exact ⟨k + 1, _, by omega, by go_num, Ao, Am, At, Au, HN, Ay⟩
       case measure => simp [intOf]; omega
  · have AR : k = l.length := by omega
    have AP : Hid (t = R) := hide (by have := Aq.out; rw [AR, List.drop_length] at this; exact this)
    obtain ⟨Bh, Bq, Z2, Ac⟩ := Af.out
    obtain ⟨c0, c1, c2, c3, c4, c5, c6⟩ := Ac.cells
    have BF := Ac.fc.get (cT (l := t.came) (i := p) (by rw [Aa.out.lc]; exact hp))
    have AF := Ac.fb.get (cT (l := t.back) (i := p) (by rw [Aa.out.lb]; exact hp))
    clear AR Aq
    by_cases hz : t.back.getD p 0 = t.came.getD p 0
    · have HE : Hid (aV next (f + 1) p s = ji p t) := hide (by rw [HFinal.out, ← AP.out]; unfold lU; rw [show (p : Int).toNat = p by omega, if_pos hz])
      have HF : Hid (∀ q, Calls Tryz.prog 168 #[ab W, .int .i64 p] (wr.drewN q) fun e w' => e = .returned (.tuple #[]) ∧ WI B W (.slice (some ⟨g6, o6, none⟩) next.length nc) next n cb bb sb (ji p t) w' ∧ Below B (wr.drewN q) w') := hide fun q => qb ⟨_, _, _, Ac.call (ah wr q) Ai⟩ Ai Aa.out hn (by obtain ⟨ex, h⟩ := Au.out; rw [h]; simp)
      rw [hz] at AF
      clear Ac Af hz
      generalize t.came.getD p 0 = cp at *
      go_wp2_with fail
      go_quiet (fail)
      go_wp2_with (go_at_call 168; refine (HF.out _).mono ?_; rintro _ wv ⟨rfl, Ak, Aj⟩; have Ar := hide Ak; have Bs := hide Aj; clear Ak Aj)
      go_end0
      exact ⟨rfl, by rw [HE.out]; exact Ar.out, (Ag.out.trans ((ah wr _).mono Ai)).trans Bs.out⟩
    · have Bk : (t.back.getD p 0 == t.came.getD p 0) = false := beq_eq_false_iff_ne.2 hz
      have HE : Hid (aV next (f + 1) p s = t) := hide (by rw [HFinal.out, ← AP.out]; unfold lU; rw [show (p : Int).toNat = p by omega, if_neg hz])
      have HF : Hid (∀ q, WI B W (.slice (some ⟨g6, o6, none⟩) next.length nc) next n cb bb sb t (wr.drewN q)) := hide fun q => ⟨_, _, _, Ac.call (ah wr q) Ai⟩
      clear Ac Af
      generalize t.came.getD p 0 = cp at *
      generalize t.back.getD p 0 = bp at *
      go_wp2_with fail
      go_quiet (fail)
      go_wp2_with fail
      go_end0
      exact ⟨rfl, by rw [HE.out]; exact HF.out _, Ag.out.trans ((ah wr _).mono Ai)⟩
set_option maxRecDepth 100000
set_option maxHeartbeats 12800000
theorem uu {B W : Nat} {nv : Value} {next : List (List Int)} {n cb bb sb : Nat} (hn : n ≤ 4096) (hnl : next.length = n) (hnx : ∀ (i : Nat) l, next[i]? = some l → ∀ z ∈ l, 0 ≤ z ∧ z < (n : Int)) :
    ∀ (f : Nat) (s : Wk) (w : World) (p : Nat), WI B W nv next n cb bb sb s w → B ≤ w.heap.size → OkW n s → p < n → s.came.getD p 0 = 0 → eE s.came ≤ f →
     Calls Tryz.prog 141 #[ab W, .int .i64 p] w fun e w' => e = .returned (.tuple #[]) ∧ WI B W nv next n cb bb sb (aV next f p s) w' ∧ Below B w w' := by
 intro f
 induction f with
 | zero =>
  intro s w p _ _ ho hp h0 hu
  exfalso
  have := rP (l := s.came) (i := p) (z := 1) (by rw [ho.lc]; exact hp) h0 (by decide)
  omega
 | succ f ih => intro s w p h hB ho hp h0 hu; exact su hn hnl hnx f ih s w p h hB ho hp h0 hu
theorem jV (n : Nat) : OkW n (dt n) := by
 refine ⟨by simp [dt], by simp [dt], by simp [dt], by simp [dt], ?_, by simp [dt], by simp [dt], by simp [dt], by simp [dt]⟩
 show (0 : Int) + (eE (List.replicate n 0) : Nat) ≤ n
 have : eE (List.replicate n 0) ≤ n := by unfold eE; exact Nat.le_trans (List.length_filter_le _ _) (by simp)
 omega
theorem aW {P : Program} {t e : TypeId} {i : TypeInfo} {z : Value} (h1 : P.underlying t = some (.slice e)) (h2 : P.info? e = some i) (h3 : i.zero = some z) (h4 : i.size = 1) (h5 : z.cells = #[z]) (n : Nat) (b2 : i.bytes * n ≤ 281474976710656) (b3 : n ≤ maxLen) (w : World) :
    (Instr.makeSlice t (.int .i64 n) (.int .i64 n)).run P w = .ok (.slice (some ⟨w.heap.size, 0, none⟩) n n) (w.alloc (.cells (Array.replicate n z) e)) := by
 have hb' : (i.bytes : Int) * (n : Int) ≤ 281474976710656 := by
  have h : ((i.bytes * n : Nat) : Int) ≤ 281474976710656 := by omega
  rwa [Int.natCast_mul] at h
 have h63' : (n : Int) ≤ 9223372036854775807 := by
  have h := b3
  simp [maxLen] at h
  omega
 have Aa := run_make (P := P) w t e i z h1 h2 h3 .i64 .i64 n n (by omega) (Int.le_refl _) hb' h63'
 rw [h4, Nat.mul_one, h5, pT] at Aa
 simpa using Aa
theorem aO (w : World) (o0 o1 o2 o3 : Obj) : Below w.heap.size w ((((w.alloc o0).alloc o1).alloc o2).alloc o3).drew ∧ ((((w.alloc o0).alloc o1).alloc o2).alloc o3).drew.heap[w.heap.size]? = some o0 ∧ ((((w.alloc o0).alloc o1).alloc o2).alloc o3).drew.heap[w.heap.size + 1]? = some o1 ∧ ((((w.alloc o0).alloc o1).alloc o2).alloc o3).drew.heap[w.heap.size + 1 + 1]? = some o2 ∧ ((((w.alloc o0).alloc o1).alloc o2).alloc o3).drew.heap[w.heap.size + 1 + 1 + 1]? = some o3 := by
 have b1 := ac w o0
 have s1 : (w.alloc o0).heap.size = w.heap.size + 1 := by simp
 have s2 : ((w.alloc o0).alloc o1).heap.size = w.heap.size + 1 + 1 := by simp
 have s3 : (((w.alloc o0).alloc o1).alloc o2).heap.size = w.heap.size + 1 + 1 + 1 := by simp
 have e0 := heap_alloc_new w o0
 have e1 := heap_alloc_new (w.alloc o0) o1
 have e2 := heap_alloc_new ((w.alloc o0).alloc o1) o2
 have e3 := heap_alloc_new (((w.alloc o0).alloc o1).alloc o2) o3
 rw [s1] at e1
 rw [s2] at e2
 rw [s3] at e3
 have k1 : ∀ g, g < (w.alloc o0).heap.size → ((w.alloc o0).alloc o1).heap[g]? = (w.alloc o0).heap[g]? := fun g hg => Below.heap_alloc _ _ _ hg
 have k2 : ∀ g, g < ((w.alloc o0).alloc o1).heap.size → (((w.alloc o0).alloc o1).alloc o2).heap[g]? = ((w.alloc o0).alloc o1).heap[g]? := fun g hg => Below.heap_alloc _ _ _ hg
 have k3 : ∀ g, g < (((w.alloc o0).alloc o1).alloc o2).heap.size → ((((w.alloc o0).alloc o1).alloc o2).alloc o3).heap[g]? = (((w.alloc o0).alloc o1).alloc o2).heap[g]? := fun g hg => Below.heap_alloc _ _ _ hg
 refine ⟨(((b1.alloc (by omega) _).alloc (by omega) _).alloc (by omega) _).drew, ?_, ?_, ?_, e3⟩
 · exact (k3 _ (by omega)).trans ((k2 _ (by omega)).trans ((k1 _ (by omega)).trans e0))
 · exact (k3 _ (by omega)).trans ((k2 _ (by omega)).trans e1)
 · exact (k3 _ (by omega)).trans e2
theorem gR {w wc : World} {next : List (List Int)} {na : Option Addr} {nc W cb bb sb : Nat} (h : Lists w.heap.size w next (.slice na next.length nc)) (hb : Below w.heap.size w wc)
    (hW : wc.heap[W]? = some (.cells #[.slice na next.length nc, sl cb next.length, sl bb next.length, .int .i64 0, .slice none 0 0, sl sb next.length, .slice none 0 0] 198 (0, 0)))
    (hc : wc.heap[cb]? = some (.cells (Array.replicate next.length (.int .i64 0)) 3 (0, 0))) (hbb : wc.heap[bb]? = some (.cells (Array.replicate next.length (.int .i64 0)) 3 (0, 0))) (hs : wc.heap[sb]? = some (.cells (Array.replicate next.length (.bool false)) 4 (0, 0)))
    (lo : w.heap.size ≤ W ∧ w.heap.size ≤ cb ∧ w.heap.size ≤ bb ∧ w.heap.size ≤ sb) (ne : cb ≠ bb) : WI w.heap.size W (.slice na next.length nc) next next.length cb bb sb (dt next.length) wc := by
 refine ⟨.slice none 0 0, .slice none 0 0, fun _ => False, ⟨hW, h.keep hb.block, lo, ?_, ?_, ?_, ⟨rfl, .inl ⟨rfl, rfl⟩⟩, ⟨ne, by simp [Value.ownBlock], by simp [Value.ownBlock]⟩, ⟨[], ⟨rfl, .inl ⟨rfl, rfl⟩⟩, fun i k hk => by simp [dt] at hk⟩, fun g hg => hg.elim⟩⟩
 · unfold Fx; rw [hc, mI]; rfl
 · unfold Fx; rw [hbb, mI]; rfl
 · unfold Fx; rw [hs, uf]; rfl
theorem WI.done {B W : Nat} {nv : Value} {next : List (List Int)} {n cb bb sb : Nat} {s : Wk} {w : World} (h : WI B W nv next n cb bb sb s w) (ho : OkW n s) (hn : n ≤ 4096) : ∃ ka kc, w.cell? ⟨W, 6, none⟩ = some (.slice ka s.knots.length kc) ∧ Lists w.heap.size w s.knots (.slice ka s.knots.length kc) := by
 obtain ⟨ov, kv, Z, hw⟩ := h
 obtain ⟨xs, k1, k2⟩ := hw.rk
 obtain ⟨ka, kc, rfl⟩ := ci k1
 have Ad : s.knots.length ≤ 4096 := by have h1 := ho.kl; have h2 := ho.c1; omega
 refine ⟨ka, kc, hw.cells.2.2.2.2.2.2, ?_⟩
 have hx := iW k1
 have Ab : s.knots.length ≤ kc := by
  rcases k1.2 with ⟨e, h0⟩ | ⟨g, cap, Ac, e, _, _, h5, _⟩
  · omega
  · simp only [Value.slice.injEq] at e; omega
 refine ⟨ka, kc, rfl, Ab, by omega, fun i k hi => ?_⟩
 obtain ⟨v, h3, h4⟩ := k2 i k hi
 obtain ⟨g, o, e, Aa⟩ := hx i v h3
 refine ⟨g, o, [v], e, World.block_lt_of_cell? w _ Aa, rfl, fun j u hu => ?_, v, rfl, h4.rr (fun g hg => (hw.z g hg).2.2.2.2.elim fun vs h => h.lt) fun _ _ h => h⟩
 match j, hu with
 | 0, hu => cases hu; rw [Nat.mul_one, Nat.add_zero]; exact Aa
theorem nM {next : List (List Int)} {n : Nat} (hn : ∀ (i : Nat) l, next[i]? = some l → ∀ z ∈ l, 0 ≤ z ∧ z < (n : Int)) (f : Nat) : ∀ k i s, OkW n s → i + k ≤ n → OkW n (eachM next f k i s)
 | 0, _, _, h, _ => h
 | k + 1, i, s, h, hi => by
  unfold eachM
  by_cases hz : s.came.getD i 0 = 0
  · rw [if_pos hz]
    exact nM hn f k (i + 1) _ (mN hn f i s h ⟨by omega, by omega⟩ (by simpa using hz)).1 (by omega)
  · rw [if_neg hz]
    exact nM hn f k (i + 1) _ h (by omega)
theorem ri {w : World} {next : List (List Int)} {na : Option Addr} {nc : Nat} (h : Lists w.heap.size w next (.slice na next.length nc)) (hn : next.length ≤ 4096) (hnx : ∀ (i : Nat) l, next[i]? = some l → ∀ z ∈ l, 0 ≤ z ∧ z < (next.length : Int)) :
    Calls Tryz.prog 107 #[.slice na next.length nc] w fun e w' => ∃ ka kc, e = .returned (.slice ka (ja next).length kc) ∧ Lists w'.heap.size w' (ja next) (.slice ka (ja next).length kc) ∧ Below w.heap.size w w' := by
 obtain ⟨iI, As, At, Ar, Aq⟩ := info_parts iE
 obtain ⟨iB, Ax, Au, Ap, Ay⟩ := info_parts kP
 have Ao := fun W => aW (P := Tryz.prog) Tryz.underlying26 As At Ar rfl next.length (by rw [Aq]; omega) (by unfold maxLen; omega) W
 have Av := fun W => aW (P := Tryz.prog) Tryz.underlying106 Ax Au Ap rfl next.length (by rw [Ay]; omega) (by unfold maxLen; omega) W
 have HH := hide h
 have Ak := hide hnx
 have Az := h.lim
 obtain ⟨R, hR⟩ : ∃ R, eachM next next.length next.length 0 (dt next.length) = R := ⟨_, rfl⟩
 have AB : Hid (OkW next.length R) := hide (by rw [← hR]; exact nM hnx _ _ _ _ (jV _) (by omega))
 have HK : Hid (ja next = R.knots) := hide (by unfold ja; rw [hR])
 have Ah : Hid (eachM next next.length (next.length - 0) 0 (dt next.length) = R) := hide (by rw [Nat.sub_zero]; exact hR)
 rw [HK.out]
 clear h hnx hR
 go_enter Tryz.func107, Tryz.ntmps107
 go_upto_region 1 with fail
 go_cut [3] from 5 to 16 (fun s wc => ∃ W cb bb sb, s = ab W ∧ Hid (WI w.heap.size W (.slice na next.length nc) next next.length cb bb sb (dt next.length) wc) ∧ Hid (Below w.heap.size w wc))
 case first =>
  go_region
  all_goals (go_wp2_with fail; go_meet)
  · exact ⟨_, _, _, _, rfl, hide (gR HH.out (aO w _ _ _ _).1 (aO w _ _ _ _).2.2.2.2 (aO w _ _ _ _).2.1 (aO w _ _ _ _).2.2.1 (aO w _ _ _ _).2.2.2.1 (by omega) (by omega)), hide (aO w _ _ _ _).1⟩
  · exact ⟨_, _, _, _, rfl, hide (gR HH.out (aO w _ _ _ _).1 (aO w _ _ _ _).2.2.2.2 (aO w _ _ _ _).2.1 (aO w _ _ _ _).2.2.2.1 (aO w _ _ _ _).2.2.1 (by omega) (by omega)), hide (aO w _ _ _ _).1⟩
  · exact ⟨_, _, _, _, rfl, hide (gR HH.out (aO w _ _ _ _).1 (aO w _ _ _ _).2.2.2.2 (aO w _ _ _ _).2.2.1 (aO w _ _ _ _).2.1 (aO w _ _ _ _).2.2.2.1 (by omega) (by omega)), hide (aO w _ _ _ _).1⟩
  · exact ⟨_, _, _, _, rfl, hide (gR HH.out (aO w _ _ _ _).1 (aO w _ _ _ _).2.2.2.2 (aO w _ _ _ _).2.2.2.1 (aO w _ _ _ _).2.1 (aO w _ _ _ _).2.2.1 (by omega) (by omega)), hide (aO w _ _ _ _).1⟩
  · exact ⟨_, _, _, _, rfl, hide (gR HH.out (aO w _ _ _ _).1 (aO w _ _ _ _).2.2.2.2 (aO w _ _ _ _).2.2.1 (aO w _ _ _ _).2.2.2.1 (aO w _ _ _ _).2.1 (by omega) (by omega)), hide (aO w _ _ _ _).1⟩
  · exact ⟨_, _, _, _, rfl, hide (gR HH.out (aO w _ _ _ _).1 (aO w _ _ _ _).2.2.2.2 (aO w _ _ _ _).2.2.2.1 (aO w _ _ _ _).2.2.1 (aO w _ _ _ _).2.1 (by omega) (by omega)), hide (aO w _ _ _ _).1⟩
 case rest =>
  obtain ⟨W, cb, bb, sb, rfl, HW, HB⟩ := hcut
  clear Ao Av
  go_wp2_with fail
  go_loopw [19] (fun z wr => ∃ (k : Nat) (t : Wk), k ≤ next.length ∧ z = .int .i64 k ∧ Hid (WI w.heap.size W (.slice na next.length nc) next next.length cb bb sb t wr) ∧ Hid (OkW next.length t) ∧ Hid (eachM next next.length (next.length - k) k t = R) ∧ Hid (Below w.heap.size w wr)) (fun z _ => next.length - (intOf z).toNat)
  case atStart => exact ⟨0, _, by omega, rfl, HW, hide (jV _), Ah, HB⟩
  case round =>
   clear Ah HW HB
   obtain ⟨k, t, hk, rfl, Ab, Aa, Ac, Ae⟩ := hrel
   by_cases hlt : k < next.length
   · have Af : Hid (eachM next next.length (next.length - (k + 1)) (k + 1) (if t.came.getD k 0 = 0 then aV next next.length k t else t) = R) := hide (by have := Ac.out; rw [show next.length - k = (next.length - (k + 1)) + 1 by omega, eachM] at this; exact this)
     obtain ⟨AA, AC, Z2, Ad⟩ := Ab.out
     obtain ⟨c0, c1, c2, c3, c4, c5, c6⟩ := Ad.cells
     have Aw := Ad.fc.get (cT (l := t.came) (i := k) (by rw [Aa.out.lc]; exact hlt))
     by_cases hz : t.came.getD k 0 = 0
     · have Ag : eE t.came ≤ next.length := by have := Aa.out.lc; unfold eE; exact Nat.le_trans (List.length_filter_le _ _) (by omega)
       have CV := hide (uu hn rfl Ak.out next.length t wr k Ab.out Ae.out.size Aa.out hlt hz Ag)
       have Al := hide (mN Ak.out next.length k t Aa.out ⟨by omega, by omega⟩ (by simpa using hz)).1
       rw [if_pos hz] at Af
       rw [hz] at Aw
       clear Ad hz Ac Ab Ag
       go_wp2_with (go_at_call 141; refine CV.out.mono ?_; rintro _ wv ⟨rfl, Ai, Aj⟩; have An := hide Ai; have Am := hide (Ae.out.trans Aj); clear Ai Aj)
       go_roundw
       case rel => exact ⟨k + 1, _, by omega, by go_num, An, Al, Af, Am⟩
       case measure => simp [intOf]; omega
     · have AD : (t.came.getD k 0 == 0) = false := beq_eq_false_iff_ne.2 hz
       rw [if_neg hz] at Af
       clear Ad Ac
       generalize t.came.getD k 0 = cm at *
       go_wp2_with fail
       go_roundw
       case rel => exact ⟨k + 1, t, by omega, by go_num, Ab, Aa, Af, Ae⟩
       case measure => simp [intOf]; omega
   · have HE : Hid (t = R) := hide (by have := Ac.out; rw [show next.length - k = 0 by omega] at this; exact this)
     obtain ⟨ka, kc, q1, q2⟩ := Ab.out.done Aa.out hn
     have HQ := hide q2
     clear q2 Ac Ab
     go_wp2_with fail
     go_ret
     rw [← HE.out]
     exact ⟨ka, kc, rfl, HQ.out, Ae.out⟩
set_option maxRecDepth 100000
set_option maxHeartbeats 12800000
theorem kI {T : Th} (hb : (ep T).1 = 0) : ∀ (i : Nat) l, T.beats[i]? = some l → ∀ z ∈ l, 0 ≤ z ∧ z < (T.beats.length : Int) := fun i l hl z hz => by
 obtain ⟨b1, b2⟩ := om hb
 have := (fP.1 (b2 i l hl).1).1 z hz
 rw [b1]
 omega
theorem nE {w : World} {T : Th} {fa ra ba : Option Addr} {fc rc bc : Nat} (h : TA w.heap.size w T fa fc ra rc ba bc) (hru : (dZ T).1 = 0) (hb : (ep T).1 = 0) :
    Calls Tryz.prog 75 #[tv T fa fc ra rc ba bc] w fun e w' => e = .returned (jh (bP T)) ∧ Below w.heap.size w w' := by
 have hB := ac w (.cells #[.int .i64 T.lits, .slice fa T.foes.length fc, .slice ra T.rules.length rc, .slice ba T.beats.length bc] 25)
 have hX := heap_alloc_new w (.cells #[.int .i64 T.lits, .slice fa T.foes.length fc, .slice ra T.rules.length rc, .slice ba T.beats.length bc] 25)
 have hL := TR.go hB h
 have Al := (lG hru).1
 have Ai := (om hb).1
 have CK := hide (ri hL.beats (by omega) (kI hb))
 obtain ⟨r, hr⟩ : ∃ r, bP T = r := ⟨_, rfl⟩
 obtain ⟨L, Af⟩ : ∃ L, lz T = L := ⟨_, rfl⟩
 rw [hr]
 unfold bP at hr
 rw [Af] at hr
 have HR := hide hr
 generalize hks : ja T.beats = ks at *
 have Ah : Hid ((ks.drop 0).foldl jq T.rules.length = L) := hide (by rw [List.drop_zero, ← hks]; exact Af)
 have HB := hide hB
 clear h hru hb hB hL Ai hr Af hks
 go_enter Tryz.func75, Tryz.ntmps75
 go_upto_region 1 with fail
 generalize w.alloc (.cells #[.int .i64 T.lits, .slice fa T.foes.length fc, .slice ra T.rules.length rc, .slice ba T.beats.length bc] 25) = W at *
 obtain ⟨-, c0, c1, c2, c3⟩ := Bt.of hX
 have HX := hide hX
 clear hX
 go_wp2_with (go_at_call 107; refine CK.out.mono ?_; rintro _ w1 ⟨ka, kc, rfl, Ae, Ac⟩; have Ag := hide (HB.out.trans (Ac.mono HB.out.size)); have HXb := hide ((Ac.block _ (aR HX.out)).trans HX.out); have HKs := hide Ae; have Am := Ae.lim; clear Ac Ae)
 clear c0 c1 c2 c3 HX
 go_loop [4, 14] (fun y x => ∃ (k : Nat) (z : Int), k ≤ ks.length ∧ x = .int .i64 k ∧ y = .int .i64 z ∧ Hid ((ks.drop k).foldl jq z = L)) (fun _ x => ks.length - (intOf x).toNat)
 case atStart => exact ⟨0, T.rules.length, by omega, rfl, rfl, Ah⟩
 case round =>
  clear Ah
  obtain ⟨k, z, hk, rfl, rfl, HK⟩ := hrel
  by_cases hlt : k < ks.length
  · obtain ⟨kn, Ab⟩ := am hlt
    obtain ⟨g, of, a2, d2, rfl, -, Ak, -, Aj, hI⟩ := d8 HKs.out Ab
    have HN : Hid ((ks.drop (k + 1)).foldl jq (jq z kn) = L) := hide (by have := HK.out; rw [aY Ab, List.foldl_cons] at this; exact this)
    by_cases h1 : 1 < kn.length
    · have CM := hide (yi (c := d2) hI.at1 Aj (by omega))
      have Ad : Hid ((ks.drop (k + 1)).foldl jq (min z (minM kn)) = L) := hide (by have := HN.out; unfold jq at this; rw [if_pos h1] at this; exact this)
      clear HK HN hI Ab
      generalize minM kn = mk at *
      go_wp2_with (go_at_call 108; refine CM.out.mono ?_; rintro _ w2 ⟨rfl, hw⟩; subst w2)
      go_round
      case rel => exact ⟨k + 1, min z mk, by omega, by go_num, by rw [jN], Ad⟩
      case measure => simp [intOf]; omega
    · have Ad : Hid ((ks.drop (k + 1)).foldl jq z = L) := hide (by have := HN.out; rw [show jq z kn = z by unfold jq; rw [if_neg h1]] at this; exact this)
      clear HK HN hI Ab
      go_wp2_with fail
      go_round
      case rel => exact ⟨k + 1, z, by omega, by go_num, rfl, Ad⟩
      case measure => simp [intOf]; omega
  · have HN : Hid (z = L) := hide (by have := HK.out; rw [cM (by omega)] at this; exact this)
    obtain ⟨-, c0, c1, c2, c3⟩ := Bt.of HXb.out
    have Aa := HR.out
    rw [← HN.out] at Aa
    clear HK HN HR
    by_cases hz : z < (T.rules.length : Int)
    · rw [if_pos hz] at Aa
      have HE := hide Aa
      clear Aa
      go_wp2_with fail
      go_ret2
      exact ⟨bf HE.out, Ag.out⟩
    · rw [if_neg hz] at Aa
      have HE := hide Aa
      clear Aa
      go_wp2_with fail
      go_ret2
      exact ⟨bf HE.out, Ag.out⟩
def uF (T : Th) : Nat → Int × Int
 | 0 => eX (gn T) (eX (dZ T) (eX (gX T) (eX (ep T) (bP T))))
 | 1 => eX (dZ T) (eX (gX T) (eX (ep T) (bP T)))
 | 2 => eX (gX T) (eX (ep T) (bP T))
 | 3 => eX (ep T) (bP T)
 | 4 => eX (bP T) (0, 0)
 | _ => (0, 0)
theorem re {T : Th} (h : (bP T).1 = 0) : bP T = (0, 0) := by
 unfold bP at h ⊢
 split
 · rename_i h1; rw [if_pos h1] at h; cases h
 · rfl
theorem yD {T : Th} : bP T = uF T 4 := by
 show bP T = eX (bP T) (0, 0)
 unfold eX
 split
 · rename_i h; exact re h
 · rfl
structure pJ (T : Th) (k : Nat) (res : Int × Int) : Prop where
 f : 1 ≤ k → (gn T).1 = 0
 r : 2 ≤ k → (dZ T).1 = 0
 b : 4 ≤ k → (ep T).1 = 0
 c : uF T k = res
theorem kX {a : Int × Int} {b r : Int × Int} (h : eX a b = r) (ha : a.1 ≠ 0) : a = r := by unfold eX at h; rw [if_neg ha] at h; exact h
theorem ld {a : Int × Int} {b r : Int × Int} (h : eX a b = r) (ha : a.1 = 0) : b = r := by unfold eX at h; rw [if_pos ha] at h; exact h
theorem check_any {w : World} {T : Th} {fa ra ba : Option Addr} {fc rc bc : Nat} (h : TA w.heap.size w T fa fc ra rc ba bc) :
    Calls Tryz.prog 38 #[tv T fa fc ra rc ba bc] w fun e w' => e = .returned (jh (dV T)) ∧ Below w.heap.size w w' := by
 have hB := ac w (.cells #[.int .i64 T.lits, .slice fa T.foes.length fc, .slice ra T.rules.length rc, .slice ba T.beats.length bc] 25)
 have hX := heap_alloc_new w (.cells #[.int .i64 T.lits, .slice fa T.foes.length fc, .slice ra T.rules.length rc, .slice ba T.beats.length bc] 25)
 obtain ⟨r, hr⟩ : ∃ r, dV T = r := ⟨_, rfl⟩
 rw [hr]
 unfold dV at hr
 have HB := hide hB
 have HH := hide h
 clear h hB
 by_cases hlit : T.lits < 0 ∨ 4096 < T.lits
 · rw [if_pos hlit] at hr
   have HR := hide hr
   clear hr
   have Ap : T.lits < 0 ∨ (0 ≤ T.lits ∧ 4096 < T.lits) := by omega
   clear hlit
   go_enter Tryz.func38, Tryz.ntmps38
   go_upto_region 1 with fail
   generalize w.alloc (.cells #[.int .i64 T.lits, .slice fa T.foes.length fc, .slice ra T.rules.length rc, .slice ba T.beats.length bc] 25) = W at *
   obtain ⟨-, c0, c1, c2, c3⟩ := Bt.of hX
   rcases Ap with h1 | ⟨h1, h2⟩
   all_goals
    go_wp2_with fail
    go_ret2
    exact ⟨bf HR.out, HB.out⟩
 · rw [if_neg hlit] at hr
   have h0 : 0 ≤ T.lits := by omega
   have h1 : T.lits ≤ 4096 := by omega
   have Am : Hid (pJ T 0 r) := hide ⟨fun h => by omega, fun h => by omega, fun h => by omega, hr⟩
   clear hr hlit
   go_enter Tryz.func38, Tryz.ntmps38
   go_upto_region 1 with fail
   generalize w.alloc (.cells #[.int .i64 T.lits, .slice fa T.foes.length fc, .slice ra T.rules.length rc, .slice ba T.beats.length bc] 25) = W at *
   obtain ⟨-, c0, c1, c2, c3⟩ := Bt.of hX
   have HX := hide hX
   clear hX
   have hA := ac W (.cells #[.func (.func 71) #[] #[], .func (.func 72) #[] #[], .func (.func 73) #[] #[], .func (.func 74) #[] #[], .func (.func 75) #[] #[]] 80)
   have HF := hide (heap_alloc_new W (.cells #[.func (.func 71) #[] #[], .func (.func 72) #[] #[], .func (.func 73) #[] #[], .func (.func 74) #[] #[], .func (.func 75) #[] #[]] 80))
   have An := hide ((hA.block _ (aR HX.out)).trans HX.out)
   have Al := hide (HB.out.trans (hA.mono HB.out.size))
   clear HX hA HB
   go_upto_region 3 with fail
   go_wp2_with fail
   generalize W.alloc (.cells #[.func (.func 71) #[] #[], .func (.func 72) #[] #[], .func (.func 73) #[] #[], .func (.func 74) #[] #[], .func (.func 75) #[] #[]] 80) = W2 at *
   clear c0 c1 c2 c3
   go_loopw [18] (fun x wr => ∃ k : Nat, k ≤ 5 ∧ x = .int .i64 k ∧ Hid (pJ T k r) ∧ Hid (Below W2.heap.size W2 wr)) (fun x _ => 5 - (intOf x).toNat)
   case atStart => exact ⟨0, by omega, rfl, Am, hide (Below.refl _ _)⟩
   case round =>
    clear Am
    obtain ⟨k, hk, rfl, HS, HW⟩ := hrel
    have Ao := (HW.out.block _ (aR An.out)).trans An.out
    have Ae := (HW.out.block _ (aR HF.out)).trans HF.out
    obtain ⟨-, c0, c1, c2, c3⟩ := Bt.of Ao
    have f0 := cell_of_row wr _ 0 _ _ _ Ae
    have f1 := cell_of_row wr _ 1 _ _ _ Ae
    have f2 := cell_of_row wr _ 2 _ _ _ Ae
    have f3 := cell_of_row wr _ 3 _ _ _ Ae
    have f4 := cell_of_row wr _ 4 _ _ _ Ae
    simp only [List.getElem?_toArray, List.getElem?_cons_zero, List.getElem?_cons_succ] at f0 f1 f2 f3 f4
    have Aj := hide (Al.out.trans (HW.out.mono Al.out.size))
    have Ai := hide (TR.go Aj.out HH.out)
    have Ag := hide (fun (X : World) (hX : Below wr.heap.size wr X) => HW.out.trans (hX.mono HW.out.size))
    have Ah := hide (fun (X : World) (hX : Below wr.heap.size wr X) => Aj.out.trans (hX.mono Aj.out.size))
    clear Ao Ae
    have Ak : k = 0 ∨ k = 1 ∨ k = 2 ∨ k = 3 ∨ k = 4 ∨ k = 5 := by omega
    rcases Ak with rfl | rfl | rfl | rfl | rfl | rfl
    · obtain ⟨a, b, Aa⟩ : ∃ a b, gn T = (a, b) := ⟨_, _, rfl⟩
      have CF := hide (qL Ai.out)
      rw [Aa] at CF
      unfold jh at CF
      simp only at CF
      by_cases ha : a = 0
      · have Ad : (gn T).1 = 0 := by rw [Aa]; exact ha
        have HN : Hid (pJ T 1 r) := hide ⟨fun _ => Ad, fun h => by omega, fun h => by omega, ld HS.out.c Ad⟩
        subst ha
        clear Aa Ad HS
        go_wp2_with (go_at_call 71; refine CF.out.mono ?_; rintro _ w1 ⟨rfl, Ab⟩; have Ac := hide (Ag.out w1 Ab); clear Ab)
        go_roundw
        case rel => exact ⟨1, by omega, by go_num, HN, Ac⟩
        case measure => simp [intOf]
      · have HN : Hid ((a, b) = r) := hide (by rw [← Aa]; exact kX HS.out.c (by rw [Aa]; exact ha))
        have Af : (a != 0) = true := by simpa using ha
        clear Aa HS
        go_wp2_with (go_at_call 71; refine CF.out.mono ?_; rintro _ w1 ⟨rfl, Ab⟩; have Ac := hide (Ah.out w1 Ab); clear Ab)
        go_ret2
        exact ⟨bf HN.out, Ac.out⟩
    · obtain ⟨a, b, Aa⟩ : ∃ a b, dZ T = (a, b) := ⟨_, _, rfl⟩
      have CF := hide (pj Ai.out)
      rw [Aa] at CF
      unfold jh at CF
      simp only at CF
      by_cases ha : a = 0
      · have Ad : (dZ T).1 = 0 := by rw [Aa]; exact ha
        have HN : Hid (pJ T 2 r) := hide ⟨fun _ => HS.out.f (by omega), fun _ => Ad, fun h => by omega, ld HS.out.c Ad⟩
        subst ha
        clear Aa Ad HS
        go_wp2_with (go_at_call 72; refine CF.out.mono ?_; rintro _ w1 ⟨rfl, Ab⟩; have Ac := hide (Ag.out w1 Ab); clear Ab)
        go_roundw
        case rel => exact ⟨2, by omega, by go_num, HN, Ac⟩
        case measure => simp [intOf]
      · have HN : Hid ((a, b) = r) := hide (by rw [← Aa]; exact kX HS.out.c (by rw [Aa]; exact ha))
        have Af : (a != 0) = true := by simpa using ha
        clear Aa HS
        go_wp2_with (go_at_call 72; refine CF.out.mono ?_; rintro _ w1 ⟨rfl, Ab⟩; have Ac := hide (Ah.out w1 Ab); clear Ab)
        go_ret2
        exact ⟨bf HN.out, Ac.out⟩
    · obtain ⟨a, b, Aa⟩ : ∃ a b, gX T = (a, b) := ⟨_, _, rfl⟩
      have CF := hide (ph Ai.out h0 h1 (HS.out.f (by omega)) (HS.out.r (by omega)))
      rw [Aa] at CF
      unfold jh at CF
      simp only at CF
      by_cases ha : a = 0
      · have Ad : (gX T).1 = 0 := by rw [Aa]; exact ha
        have HN : Hid (pJ T 3 r) := hide ⟨fun _ => HS.out.f (by omega), fun _ => HS.out.r (by omega), fun h => by omega, ld HS.out.c Ad⟩
        subst ha
        clear Aa Ad HS
        go_wp2_with (go_at_call 73; refine CF.out.mono ?_; rintro _ w1 ⟨rfl, Ab⟩; have Ac := hide (Ag.out w1 Ab); clear Ab)
        go_roundw
        case rel => exact ⟨3, by omega, by go_num, HN, Ac⟩
        case measure => simp [intOf]
      · have HN : Hid ((a, b) = r) := hide (by rw [← Aa]; exact kX HS.out.c (by rw [Aa]; exact ha))
        have Af : (a != 0) = true := by simpa using ha
        clear Aa HS
        go_wp2_with (go_at_call 73; refine CF.out.mono ?_; rintro _ w1 ⟨rfl, Ab⟩; have Ac := hide (Ah.out w1 Ab); clear Ab)
        go_ret2
        exact ⟨bf HN.out, Ac.out⟩
    · obtain ⟨a, b, Aa⟩ : ∃ a b, ep T = (a, b) := ⟨_, _, rfl⟩
      have CF := hide (pi Ai.out (HS.out.f (by omega)) (HS.out.r (by omega)))
      rw [Aa] at CF
      unfold jh at CF
      simp only at CF
      by_cases ha : a = 0
      · have Ad : (ep T).1 = 0 := by rw [Aa]; exact ha
        have HN : Hid (pJ T 4 r) := hide ⟨fun _ => HS.out.f (by omega), fun _ => HS.out.r (by omega), fun _ => Ad, by rw [← yD]; exact ld HS.out.c Ad⟩
        subst ha
        clear Aa Ad HS
        go_wp2_with (go_at_call 74; refine CF.out.mono ?_; rintro _ w1 ⟨rfl, Ab⟩; have Ac := hide (Ag.out w1 Ab); clear Ab)
        go_roundw
        case rel => exact ⟨4, by omega, by go_num, HN, Ac⟩
        case measure => simp [intOf]
      · have HN : Hid ((a, b) = r) := hide (by rw [← Aa]; exact kX HS.out.c (by rw [Aa]; exact ha))
        have Af : (a != 0) = true := by simpa using ha
        clear Aa HS
        go_wp2_with (go_at_call 74; refine CF.out.mono ?_; rintro _ w1 ⟨rfl, Ab⟩; have Ac := hide (Ah.out w1 Ab); clear Ab)
        go_ret2
        exact ⟨bf HN.out, Ac.out⟩
    · obtain ⟨a, b, Aa⟩ : ∃ a b, bP T = (a, b) := ⟨_, _, rfl⟩
      have CF := hide (nE Ai.out (HS.out.r (by omega)) (HS.out.b (by omega)))
      rw [Aa] at CF
      unfold jh at CF
      simp only at CF
      by_cases ha : a = 0
      · have Ad : (bP T).1 = 0 := by rw [Aa]; exact ha
        have HN : Hid (pJ T 5 r) := hide ⟨fun _ => HS.out.f (by omega), fun _ => HS.out.r (by omega), fun _ => HS.out.b (by omega), ld HS.out.c Ad⟩
        subst ha
        clear Aa Ad HS
        go_wp2_with (go_at_call 75; refine CF.out.mono ?_; rintro _ w1 ⟨rfl, Ab⟩; have Ac := hide (Ag.out w1 Ab); clear Ab)
        go_roundw
        case rel => exact ⟨5, by omega, by go_num, HN, Ac⟩
        case measure => simp [intOf]
      · have HN : Hid ((a, b) = r) := hide (by rw [← Aa]; exact kX HS.out.c (by rw [Aa]; exact ha))
        have Af : (a != 0) = true := by simpa using ha
        clear Aa HS
        go_wp2_with (go_at_call 75; refine CF.out.mono ?_; rintro _ w1 ⟨rfl, Ab⟩; have Ac := hide (Ah.out w1 Ab); clear Ab)
        go_ret2
        exact ⟨bf HN.out, Ac.out⟩
    · have HE := hide HS.out.c
      clear HS
      go_wp2_with fail
      go_ret2
      exact ⟨bf HE.out, Aj.out⟩
end Go.Proofs.YtmlhcncagdfjfaaGreat
