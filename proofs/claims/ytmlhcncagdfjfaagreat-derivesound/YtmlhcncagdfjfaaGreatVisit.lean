import Derived.Test.YtmlhcncagdfjfaaGreatShut
import Derived.BigRegion
import Derived.Deep.CutRange
set_option maxRecDepth 100000
set_option maxHeartbeats 12800000
namespace Go.Proofs.YtmlhcncagdfjfaaGreat
open Go.RowKit
section
variable {B W : Nat} {nv : Value} {next : List (List Int)} {n cb bb sb : Nat} {ov kv : Value} {Z : Nat → Prop} {s : Wk} {w w' : World}
theorem Wi.opened (h : Wi B W nv next n cb bb sb ov kv Z s w) (hB : B ≤ w.heap.size) {x : Int} {K oc : Nat} {oa : Option Addr} (hK : s.opn.length = K) (hov : ov = .slice oa s.opn.length oc) {g4 cap4 : Nat} {ob : Obj} (hown : w'.ownsRow B 3 1 (.slice (some ⟨g4, 0, none⟩) (K + 1) cap4) (K + 1) (ay s.opn ++ [.int .i64 x]))
    (hg : (Value.ownBlock (.slice oa K oc) = some g4 ∧ (w.alloc ob).grownBy w' (some g4)) ∨ (g4 = w.heap.size + 1 ∧ (w.alloc ob).grownBy w' none)) :
    w'.cell? ⟨W, 4, none⟩ = some (.slice oa K oc) ∧ w'.frozen? ⟨W, 4, none⟩ = false ∧ Wi B W nv next n cb bb sb (.slice (some ⟨g4, 0, none⟩) (K + 1) cap4) kv Z { s with opn := s.opn ++ [x] } (w'.setCell ⟨W, 4, none⟩ (.slice (some ⟨g4, 0, none⟩) (K + 1) cap4)) ∧ Below B w (w'.setCell ⟨W, 4, none⟩ (.slice (some ⟨g4, 0, none⟩) (K + 1) cap4)) := by
 subst hK
 rw [← hov] at hg ⊢
 have Ag : ov.ownBlock ≠ some W := aw h.ro h.bx (by decide)
 have ho : ∀ k, k < w.heap.size → ov.ownBlock ≠ some k → w'.heap[k]? = w.heap[k]? := fun k hk hn => fG rfl hg hk hn
 have Aa := h.bx.keep (ho _ h.bx.lt Ag)
 have Ad := h.fc.keep (ho _ h.fc.lt h.ne.2.1)
 have Af := h.fb.keep (ho _ h.fb.lt h.ne.2.2)
 have Ac := h.fs.keep (ho _ h.fs.lt (aw h.ro h.fs (by decide)))
 obtain ⟨xs, k1, _⟩ := h.rk
 obtain ⟨l1, l2, l3, l4⟩ := h.lo
 have hz := h.hz (.inl rfl)
 have Ae : ∀ g, Z g → (w'.setCell ⟨W, 4, none⟩ (.slice (some ⟨g4, 0, none⟩) (s.opn.length + 1) cap4)).heap[g]? = w.heap[g]? := fun g hg => by
  obtain ⟨_, _, _, h4, vs, h5⟩ := h.z g hg
  rw [other_set (hz g hg)]
  exact ho g h5.lt h4
 have Ab : ∀ g, g < w.heap.size → ov.ownBlock ≠ some g → g4 ≠ g := fun g hl hn e => by
  subst e
  rcases hg with ⟨h1, _⟩ | ⟨h1, _⟩
  · exact hn h1
  · omega
 refine ⟨Aa.get (by rw [hov]; rfl), Aa.frz 4, ⟨Aa.set 4 _, h.nx.keep fun g hg => ?_, h.lo, Ad.keep (other_set (aq Ad Aa (by decide))), Af.keep (other_set (aq Af Aa (by decide))), Ac.keep (other_set (aq Ac Aa (by decide))), ?_, ⟨h.ne.1, fun e => ?_, fun e => ?_⟩, gS h.rk (fun g hg => ?_) Ae, fun g hg => ?_⟩, ?_⟩
 · rw [other_set (by omega)]
   exact ho g (by omega) fun e => by have := (h.ro.lt g e).1; omega
 · show World.ownsRow _ _ _ _ _ (s.opn ++ [x]).length (ay (s.opn ++ [x]))
   rw [List.length_append, dK]
   exact owns_keep hown fun g e => other_set fun (e2 : g = W) => aw hown Aa (by decide) (e2 ▸ e)
 · exact Ab cb h.fc.lt h.ne.2.1 (by simpa [Value.ownBlock] using e)
 · exact Ab bb h.fb.lt h.ne.2.2 (by simpa [Value.ownBlock] using e)
 · rw [other_set fun (e : g = W) => aw k1 h.bx (by decide) (e ▸ hg)]
   exact ho g (aD k1 hg) (mX (aT h.ro (Nat.zero_le _)) (aT k1 (Nat.zero_le _)) (by decide) hg)
 · obtain ⟨h1, h2, h3, h4, vs, h5⟩ := h.z g hg
   exact ⟨h1, h2, h3, fun e => Ab g h5.lt h4 (by simpa [Value.ownBlock] using e), vs, h5.keep (Ae g hg)⟩
 · exact ((dX (Z := fun k => B ≤ k) rfl hg fun g e => (h.ro.lt g e).1).below fun k hk => ⟨by omega, by omega⟩).setCell (p := ⟨W, 4, none⟩) h.lo.1 _
end
theorem uk {B W : Nat} {nv : Value} {next : List (List Int)} {n cb bb sb : Nat} (hn : n ≤ 4096) (hnl : next.length = n) (hnx : ∀ (i : Nat) l, next[i]? = some l → ∀ z ∈ l, 0 ≤ z ∧ z < (n : Int)) (f : Nat)
    (ih : ∀ (s : Wk) (w : World) (p : Nat), WI B W nv next n cb bb sb s w → B ≤ w.heap.size → OkW n s → p < n → s.came.getD p 0 = 0 → fd s.came ≤ f →
     Calls Tryz.prog 141 #[aa W, .int .i64 p] w fun e w' => e = .returned (.tuple #[]) ∧ WI B W nv next n cb bb sb (bn next f p s) w' ∧ Below B w w')
    (s : Wk) (w : World) (p : Nat) (h : WI B W nv next n cb bb sb s w) (hB : B ≤ w.heap.size) (ho : OkW n s) (hp : p < n) (h0 : s.came.getD p 0 = 0) (hu : fd s.came ≤ f + 1) :
    Calls Tryz.prog 141 #[aa W, .int .i64 p] w fun e w' => e = .returned (.tuple #[]) ∧ WI B W nv next n cb bb sb (bn next (f + 1) p s) w' ∧ Below B w w' := by
 obtain ⟨iI, Bq, Bi, Bm, Bk⟩ := info_parts gT
 obtain ⟨ov, kv, Z, hw⟩ := h
 have Bw := ho.c0
 have Bu := ho.c1
 have BD := ho.ol
 obtain ⟨c0, c1, c2, c3, c4, c5, c6⟩ := hw.cells
 have Bt := hw.bx.frz 3
 have W1 := hide (hw.clock (s.clock + 1))
 have AT := hide ((Below.refl B w).setCell (p := ⟨W, 3, none⟩) hw.lo.1 (.int .i64 (s.clock + 1)))
 have BE : s.clock + 1 ≤ 4096 := by have := (ho.come (p := p) ⟨by omega, by omega⟩ (by simpa using h0)).2; omega
 clear hw
 go_enter Tryz.func141, Tryz.ntmps141
 go_upto_region 1 with fail
 have Bx : B ≤ (w.setCell ⟨W, 3, none⟩ (.int .i64 (s.clock + 1))).heap.size := by simp; omega
 clear c0 c1 c2 c3 c4 c5 c6 Bt
 generalize w.setCell ⟨W, 3, none⟩ (.int .i64 (s.clock + 1)) = w1 at *
 obtain ⟨c0, c1, c2, c3, c4, c5, c6⟩ := W1.out.cells
 have kc := W1.out.fc.get (dt (l := s.came) (i := p) (by rw [ho.lc]; exact hp))
 have Bs := W1.out.fc.frz p
 have kb := W1.out.fb.get (dt (l := s.back) (i := p) (by rw [ho.lb]; exact hp))
 have AB := W1.out.fb.frz p
 have W2 := hide ((W1.out.came p (s.clock + 1)).back p (s.clock + 1))
 have Br := (W1.out.came p (s.clock + 1)).fb.get (dt (l := s.back) (i := p) (by rw [ho.lb]; exact hp))
 have Ba := (W1.out.came p (s.clock + 1)).fb.frz p
 have W2d := hide (W2.out.call (Below.refl _ _).drew (by simp; omega))
 have Ag := hide (((AT.out.setCell (p := ⟨cb, p, none⟩) W1.out.lo.2.1 (.int .i64 (s.clock + 1))).setCell (p := ⟨bb, p, none⟩) W1.out.lo.2.2.1 (.int .i64 (s.clock + 1))).drew)
 have Bf := hide ih
 have AO := hide hnx
 have Be := hide ho
 have Bc := hide h0
 clear W2
 go_region
 go_upto_region 2 with fail
 have AZ : B ≤ (((w1.setCell ⟨cb, p, none⟩ (.int .i64 (s.clock + 1))).setCell ⟨bb, p, none⟩ (.int .i64 (s.clock + 1))).drew).heap.size := by simp; omega
 clear c0 c1 c2 c3 c4 c5 c6 kc Bs kb AB Br Ba W1 AT ih hnx ho h0
 generalize ((w1.setCell ⟨cb, p, none⟩ (.int .i64 (s.clock + 1))).setCell ⟨bb, p, none⟩ (.int .i64 (s.clock + 1))).drew = w2 at *
 obtain ⟨c0, c1, c2, c3, c4, c5, c6⟩ := W2d.out.cells
 obtain ⟨oa, oc, Az⟩ := bK W2d.out.ro
 obtain ⟨K, hK⟩ : ∃ K, s.opn.length = K := ⟨_, rfl⟩
 have HEov : Hid (ov = .slice oa s.opn.length oc) := hide Az
 have HK := hide hK
 have hA := ac w2 (.cells #[.int .i64 p] 3)
 have AK : Hid ((w2.alloc (.cells #[.int .i64 p] 3)).ownsRow B 3 1 (.slice oa K oc) K (ay s.opn)) := hide (by
  have := owns_keep W2d.out.ro fun g hg => hA.block g (aD W2d.out.ro hg)
  rw [HEov.out, HK.out] at this
  exact this)
 rw [Az] at c4
 simp only [hK] at c4
 have BC : K ≤ 4096 := by omega
 obtain ⟨na, nc, rfl, By, Bv⟩ := W2d.out.nx.form
 clear hA Az hK
 go_upto_region 3 with (at_builtin; go_must (refine bN _ rfl _ _ 26 rfl B 3 iI _ 1 8 Tryz.underlying26 Bq Bi Bm Bk rfl (by decide) _ _ (ay s.opn) rfl AK.out ⟨w2.heap.size, 0, none⟩ 1 [.int .i64 p] rfl rfl (cell_one_new _ _ _) (by intro u hu; simp at hu; subst hu; rfl) (by unfold maxLen; omega) (by omega) (by simp; omega) ?_); intro g4 AY w4 At AN; have HFin := hide (W2d.out.opened AZ (x := p) HK.out HEov.out At (by rcases AN with h | ⟨h1, h2⟩; exact .inl h; exact .inr ⟨by simpa using h1, h2⟩)); clear At AN; obtain ⟨Bl, Bh, AW, AQ⟩ := HFin.out; have HFc := hide AW; have HFd := hide AQ; clear AW AQ HFin)
 have AR := hide (Ag.out.trans HFd.out)
 have Bb := hide (Ag.out.trans HFd.out)
 clear Bl Bh c0 c1 c2 c3 c4 c5 c6 AK W2d HFd Ag
 generalize w4.setCell ⟨W, 4, none⟩ (.slice (some ⟨g4, 0, none⟩) (K + 1) AY) = w5 at *
 have AU : Hid (WI B W (.slice na next.length nc) next n cb bb sb (gJ p s) w5) := hide ⟨_, _, _, HFc.out⟩
 obtain ⟨AH, AX⟩ := Be.out.come (p := p) ⟨by omega, by omega⟩ (by simpa using Bc.out)
 obtain ⟨l, hl⟩ := ap (l := next) (i := p) (by omega)
 obtain ⟨g6, o6, la, lc, Aw, -, kl, -, BF, hI⟩ := ci HFc.out.nx hl
 obtain ⟨c0, c1, c2, c3, c4, c5, c6⟩ := HFc.out.cells
 have HIl := hide hI
 have HLr := hide (AO.out p l hl)
 have HRow : Hid (row next (p : Int) = l) := hide (bI (by simpa using hl))
 obtain ⟨R, hR⟩ : ∃ R, cu (bn next f) p l (gJ p s) = R := ⟨_, rfl⟩
 have AS : Hid (cu (bn next f) p (l.drop 0) (gJ p s) = R) := hide (by rw [List.drop_zero]; exact hR)
 have AE := hide AH
 have AJ : Hid (fd (gJ p s).came ≤ f) := hide (by omega)
 have HFinal : Hid (bn next (f + 1) p s = nY p R) := hide (by rw [bn, HRow.out, hR])
 have HEna := hide Aw
 rw [Aw] at c0
 subst Aw
 clear hl hI hR AH AX HFc
 have BH : p < next.length := by omega
 go_wp2_with fail
 clear c0 c1 c2 c3 c4 c5 c6 kl
 go_loopw [51] (fun z wr => ∃ (k : Nat) (t : Wk), k ≤ l.length ∧ z = .int .i64 k ∧ Hid (WI B W (.slice (some ⟨g6, o6, none⟩) next.length nc) next n cb bb sb t wr) ∧ Hid (OkW n t) ∧ Hid (fd t.came ≤ f) ∧ Hid (∃ ex, t.opn = s.opn ++ [(p : Int)] ++ ex) ∧ Hid (cu (bn next f) p (l.drop k) t = R) ∧ Hid (Below B w wr)) (fun z _ => l.length - (intOf z).toNat)
 case atStart => exact ⟨0, gJ p s, by omega, rfl, AU, AE, AJ, hide ⟨[], by show s.opn ++ [(p : Int)] = _; simp⟩, AS, AR⟩
 case round =>
  clear AS AJ AE AU AR
  obtain ⟨k, t, hk, rfl, Ae, Aa, Aq, As, Av, Af⟩ := hrel
  have Ai : B ≤ wr.heap.size := Nat.le_trans hB Af.out.size
  by_cases hlt : k < l.length
  · obtain ⟨x, hx⟩ := ap hlt
    obtain ⟨AM, Bn⟩ := HLr.out x (List.mem_of_getElem? hx)
    obtain ⟨m, rfl⟩ := Int.eq_ofNat_of_zero_le AM
    have Ah : m < n := by omega
    obtain ⟨lg, lo', rfl, -, kx⟩ := ku (Ints.keep (fun g hg => (Af.out.block g hg).trans (Bb.out.block g hg).symm) HIl.out) hx
    have Au : Hid (cu (bn next f) p (l.drop (k + 1)) (eH p m (if t.came.getD m 0 = 0 then bn next f m t else t)) = R) := hide (by have := Av.out; rw [bh hx, cu] at this; simpa using this)
    obtain ⟨Bj, Bo, Z2, Ac⟩ := Ae.out
    obtain ⟨c0, c1, c2, c3, c4, c5, c6⟩ := Ac.cells
    have Ay := Ac.fc.get (dt (l := t.came) (i := m) (by rw [Aa.out.lc]; exact Ah))
    clear hx AM Bn Av
    by_cases hz : t.came.getD m 0 = 0
    · rw [hz] at Ay
      have CV := hide (Bf.out t wr m Ae.out Ai Aa.out Ah hz Aq.out)
      obtain ⟨v1, v2, v3⟩ := nG AO.out f m t Aa.out ⟨by omega, by omega⟩ (by simpa using hz)
      have Ad := Au
      rw [if_pos hz] at Ad
      generalize hvt : bn next f m t = t2 at *
      have Ab := hide v1
      have AC : Hid (fd t2.came ≤ f) := hide (Nat.le_trans v2 Aq.out)
      have AI : Hid (∃ ex, t2.opn = s.opn ++ [(p : Int)] ++ ex) := hide (by obtain ⟨e1, h1⟩ := v3; obtain ⟨e2, h2⟩ := As.out; exact ⟨e2 ++ e1, by rw [h1, h2]; simp⟩)
      clear v1 v2 v3 Ac Ae Au hvt hz
      go_upto_region 8 with (go_at_call 141; refine CV.out.mono ?_; rintro _ wv ⟨rfl, Ak, Aj⟩; have Ar := hide Ak; have Ag := hide (Af.out.trans Aj); clear Ak Aj)
      clear c0 c1 c2 c3 c4 c5 c6 Ay kx
      obtain ⟨Bz, BB, Z3, AP⟩ := Ar.out
      have W2 := hide AP
      have BG : B ≤ wv.heap.size := Nat.le_trans hB Ag.out.size
      clear AP Ar
      have Ax : m < t2.shut.length := by rw [Ab.out.ls]; exact Ah
      have Al := W2.out.fs.get (jr Ax)
      obtain ⟨d0, d1, d2, d3, d4, d5, d6⟩ := W2.out.cells
      cases hsb : t2.shut.getD m false with
      | true =>
       rw [hsb] at Al
       have HN : Hid (cu (bn next f) p (l.drop (k + 1)) t2 = R) := hide (by have := Ad.out; unfold eH at this; rw [show (m : Int).toNat = m by omega, hsb] at this; exact this)
       have Am : Hid (WI B W (.slice (some ⟨g6, o6, none⟩) next.length nc) next n cb bb sb t2 wv) := hide ⟨_, _, _, W2.out⟩
       clear Ad W2 hsb
       go_wp2_with fail
       go_roundw
       case rel => exact ⟨k + 1, t2, by omega, by go_num, Am, Ab, AC, AI, HN, Ag⟩
       case measure => simp [intOf]; omega
      | false =>
       rw [hsb] at Al
       have AF : p < t2.back.length := by rw [Ab.out.lb]; exact hp
       have AD : m < t2.back.length := by rw [Ab.out.lb]; exact Ah
       have AG := W2.out.fb.get (dt AF)
       have Bp := W2.out.fb.get (dt AD)
       have AB := W2.out.fb.frz p
       have HN : Hid (cu (bn next f) p (l.drop (k + 1)) { t2 with back := t2.back.set p (min (t2.back.getD p 0) (t2.back.getD m 0)) } = R) := hide (by have := Ad.out; unfold eH at this; rw [show (m : Int).toNat = m by omega, show (p : Int).toNat = p by omega, hsb] at this; exact this)
       have Ap : Hid (OkW n { t2 with back := t2.back.set p (min (t2.back.getD p 0) (t2.back.getD m 0)) }) := hide ⟨Ab.out.lc, by rw [List.length_set]; exact Ab.out.lb, Ab.out.ls, Ab.out.c0, Ab.out.c1, Ab.out.op, Ab.out.ol, Ab.out.kl, Ab.out.kn⟩
       have W3 := W2.out.back p (min (t2.back.getD p 0) (t2.back.getD m 0))
       rw [← ky] at W3
       have An : B ≤ (wv.setCell ⟨bb, p, none⟩ (.int .i64 (if t2.back.getD m 0 < t2.back.getD p 0 then t2.back.getD m 0 else t2.back.getD p 0))).heap.size := by simp; omega
       have Ao : Hid (WI B W (.slice (some ⟨g6, o6, none⟩) next.length nc) next n cb bb sb { t2 with back := t2.back.set p (min (t2.back.getD p 0) (t2.back.getD m 0)) } ((wv.setCell ⟨bb, p, none⟩ (.int .i64 (if t2.back.getD m 0 < t2.back.getD p 0 then t2.back.getD m 0 else t2.back.getD p 0))).drew)) := hide ⟨_, _, _, by rw [← ky]; exact W3.call (Below.refl _ _).drew An⟩
       have AA := hide ((Ag.out.setCell (p := ⟨bb, p, none⟩) W2.out.lo.2.2.1 (.int .i64 (if t2.back.getD m 0 < t2.back.getD p 0 then t2.back.getD m 0 else t2.back.getD p 0))).drew)
       clear Ad W2 W3 hsb Ab
       generalize t2.back.getD p 0 = bp at *
       generalize t2.back.getD m 0 = bm at *
       go_upto_region 9 with fail
       go_region
       go_wp2_with fail
       go_roundw
       case rel => exact ⟨k + 1, _, by omega, by go_num, Ao, Ap, AC, AI, HN, AA⟩
       case measure => simp [intOf]; omega
    · have Bg : (t.came.getD m 0 == 0) = false := beq_eq_false_iff_ne.2 hz
      have Ad := Au
      rw [if_neg hz] at Ad
      have W2 := hide Ac
      clear Ac Ae Au
      generalize t.came.getD m 0 = cm at *
      go_upto_region 8 with fail
      clear c0 c1 c2 c3 c4 c5 c6 Ay kx
      have Ax : m < t.shut.length := by rw [Aa.out.ls]; exact Ah
      have Al := W2.out.fs.get (jr Ax)
      obtain ⟨d0, d1, d2, d3, d4, d5, d6⟩ := W2.out.cells
      cases hsb : t.shut.getD m false with
      | true =>
       rw [hsb] at Al
       have HN : Hid (cu (bn next f) p (l.drop (k + 1)) t = R) := hide (by have := Ad.out; unfold eH at this; rw [show (m : Int).toNat = m by omega, hsb] at this; exact this)
       have Am : Hid (WI B W (.slice (some ⟨g6, o6, none⟩) next.length nc) next n cb bb sb t wr) := hide ⟨_, _, _, W2.out⟩
       clear Ad W2 hsb
       go_wp2_with fail
       go_roundw
       case rel => exact ⟨k + 1, t, by omega, by go_num, Am, Aa, Aq, As, HN, Af⟩
       case measure => simp [intOf]; omega
      | false =>
       rw [hsb] at Al
       have AF : p < t.back.length := by rw [Aa.out.lb]; exact hp
       have AD : m < t.back.length := by rw [Aa.out.lb]; exact Ah
       have AG := W2.out.fb.get (dt AF)
       have Bp := W2.out.fb.get (dt AD)
       have AB := W2.out.fb.frz p
       have HN : Hid (cu (bn next f) p (l.drop (k + 1)) { t with back := t.back.set p (min (t.back.getD p 0) (t.back.getD m 0)) } = R) := hide (by have := Ad.out; unfold eH at this; rw [show (m : Int).toNat = m by omega, show (p : Int).toNat = p by omega, hsb] at this; exact this)
       have Ap : Hid (OkW n { t with back := t.back.set p (min (t.back.getD p 0) (t.back.getD m 0)) }) := hide ⟨Aa.out.lc, by rw [List.length_set]; exact Aa.out.lb, Aa.out.ls, Aa.out.c0, Aa.out.c1, Aa.out.op, Aa.out.ol, Aa.out.kl, Aa.out.kn⟩
       have W3 := W2.out.back p (min (t.back.getD p 0) (t.back.getD m 0))
       rw [← ky] at W3
       have An : B ≤ (wr.setCell ⟨bb, p, none⟩ (.int .i64 (if t.back.getD m 0 < t.back.getD p 0 then t.back.getD m 0 else t.back.getD p 0))).heap.size := by simp; omega
       have Ao : Hid (WI B W (.slice (some ⟨g6, o6, none⟩) next.length nc) next n cb bb sb { t with back := t.back.set p (min (t.back.getD p 0) (t.back.getD m 0)) } ((wr.setCell ⟨bb, p, none⟩ (.int .i64 (if t.back.getD m 0 < t.back.getD p 0 then t.back.getD m 0 else t.back.getD p 0))).drew)) := hide ⟨_, _, _, by rw [← ky]; exact W3.call (Below.refl _ _).drew An⟩
       have AA := hide ((Af.out.setCell (p := ⟨bb, p, none⟩) W2.out.lo.2.2.1 (.int .i64 (if t.back.getD m 0 < t.back.getD p 0 then t.back.getD m 0 else t.back.getD p 0))).drew)
       clear Ad W2 W3 hsb Aa
       generalize t.back.getD p 0 = bp at *
       generalize t.back.getD m 0 = bm at *
       go_upto_region 9 with fail
       go_region
       go_wp2_with fail
       go_roundw
       case rel => exact ⟨k + 1, _, by omega, by go_num, Ao, Ap, Aq, As, HN, AA⟩
       case measure => simp [intOf]; omega
  · have AL : k = l.length := by omega
    have AV : Hid (t = R) := hide (by have := Av.out; rw [AL, List.drop_length] at this; exact this)
    obtain ⟨Bj, Bo, Z2, Ac⟩ := Ae.out
    obtain ⟨c0, c1, c2, c3, c4, c5, c6⟩ := Ac.cells
    have BA := Ac.fc.get (dt (l := t.came) (i := p) (by rw [Aa.out.lc]; exact hp))
    have AG := Ac.fb.get (dt (l := t.back) (i := p) (by rw [Aa.out.lb]; exact hp))
    clear AL Av
    by_cases hz : t.back.getD p 0 = t.came.getD p 0
    · have HE : Hid (bn next (f + 1) p s = j6 p t) := hide (by rw [HFinal.out, ← AV.out]; unfold nY; rw [show (p : Int).toNat = p by omega, if_pos hz])
      have HF : Hid (∀ q, Calls Tryz.prog 168 #[aa W, .int .i64 p] (wr.drewN q) fun e w' => e = .returned (.tuple #[]) ∧ WI B W (.slice (some ⟨g6, o6, none⟩) next.length nc) next n cb bb sb (j6 p t) w' ∧ Below B (wr.drewN q) w') := hide fun q => qJ ⟨_, _, _, Ac.call (al wr q) Ai⟩ Ai Aa.out hn (by obtain ⟨ex, h⟩ := As.out; rw [h]; simp)
      rw [hz] at AG
      clear Ac Ae hz
      generalize t.came.getD p 0 = cp at *
      go_wp2_with fail
      go_quiet (fail)
      go_wp2_with (go_at_call 168; refine (HF.out _).mono ?_; rintro _ wv ⟨rfl, Ak, Aj⟩; have Ar := hide Ak; have Bd := hide Aj; clear Ak Aj)
      go_end0
      exact ⟨rfl, by rw [HE.out]; exact Ar.out, (Af.out.trans ((al wr _).mono Ai)).trans Bd.out⟩
    · have Bg : (t.back.getD p 0 == t.came.getD p 0) = false := beq_eq_false_iff_ne.2 hz
      have HE : Hid (bn next (f + 1) p s = t) := hide (by rw [HFinal.out, ← AV.out]; unfold nY; rw [show (p : Int).toNat = p by omega, if_neg hz])
      have HF : Hid (∀ q, WI B W (.slice (some ⟨g6, o6, none⟩) next.length nc) next n cb bb sb t (wr.drewN q)) := hide fun q => ⟨_, _, _, Ac.call (al wr q) Ai⟩
      clear Ac Ae
      generalize t.came.getD p 0 = cp at *
      generalize t.back.getD p 0 = bp at *
      go_wp2_with fail
      go_quiet (fail)
      go_wp2_with fail
      go_end0
      exact ⟨rfl, by rw [HE.out]; exact HF.out _, Af.out.trans ((al wr _).mono Ai)⟩
set_option maxRecDepth 100000
set_option maxHeartbeats 12800000
theorem vn {B W : Nat} {nv : Value} {next : List (List Int)} {n cb bb sb : Nat} (hn : n ≤ 4096) (hnl : next.length = n) (hnx : ∀ (i : Nat) l, next[i]? = some l → ∀ z ∈ l, 0 ≤ z ∧ z < (n : Int)) :
    ∀ (f : Nat) (s : Wk) (w : World) (p : Nat), WI B W nv next n cb bb sb s w → B ≤ w.heap.size → OkW n s → p < n → s.came.getD p 0 = 0 → fd s.came ≤ f →
     Calls Tryz.prog 141 #[aa W, .int .i64 p] w fun e w' => e = .returned (.tuple #[]) ∧ WI B W nv next n cb bb sb (bn next f p s) w' ∧ Below B w w' := by
 intro f
 induction f with
 | zero =>
  intro s w p _ _ ho hp h0 hu
  exfalso
  have := tu (l := s.came) (i := p) (z := 1) (by rw [ho.lc]; exact hp) h0 (by decide)
  omega
 | succ f ih => intro s w p h hB ho hp h0 hu; exact uk hn hnl hnx f ih s w p h hB ho hp h0 hu
theorem lq (n : Nat) : OkW n (dR n) := by
 refine ⟨by simp [dR], by simp [dR], by simp [dR], by simp [dR], ?_, by simp [dR], by simp [dR], by simp [dR], by simp [dR]⟩
 show (0 : Int) + (fd (List.replicate n 0) : Nat) ≤ n
 have : fd (List.replicate n 0) ≤ n := by unfold fd; exact Nat.le_trans (List.length_filter_le _ _) (by simp)
 omega
theorem aI {P : Program} {t e : TypeId} {i : TypeInfo} {z : Value} (h1 : P.underlying t = some (.slice e)) (h2 : P.info? e = some i) (h3 : i.zero = some z) (h4 : i.size = 1) (h5 : z.cells = #[z]) (n : Nat) (b2 : i.bytes * n ≤ 281474976710656) (b3 : n ≤ maxLen) (w : World) :
    (Instr.makeSlice t (.int .i64 n) (.int .i64 n)).run P w = .ok (.slice (some ⟨w.heap.size, 0, none⟩) n n) (w.alloc (.cells (Array.replicate n z) e)) := by
 have hb' : (i.bytes : Int) * (n : Int) ≤ 281474976710656 := by
  have h : ((i.bytes * n : Nat) : Int) ≤ 281474976710656 := by omega
  rwa [Int.natCast_mul] at h
 have h63' : (n : Int) ≤ 9223372036854775807 := by
  have h := b3
  simp [maxLen] at h
  omega
 have Aa := run_make (P := P) w t e i z h1 h2 h3 .i64 .i64 n n (by omega) (Int.le_refl _) hb' h63'
 rw [h4, Nat.mul_one, h5, rU] at Aa
 simpa using Aa
theorem aV (w : World) (o0 o1 o2 o3 : Obj) : Below w.heap.size w ((((w.alloc o0).alloc o1).alloc o2).alloc o3).drew ∧ ((((w.alloc o0).alloc o1).alloc o2).alloc o3).drew.heap[w.heap.size]? = some o0 ∧ ((((w.alloc o0).alloc o1).alloc o2).alloc o3).drew.heap[w.heap.size + 1]? = some o1 ∧ ((((w.alloc o0).alloc o1).alloc o2).alloc o3).drew.heap[w.heap.size + 1 + 1]? = some o2 ∧ ((((w.alloc o0).alloc o1).alloc o2).alloc o3).drew.heap[w.heap.size + 1 + 1 + 1]? = some o3 := by
 have b1 := ac w o0
 have s1 : (w.alloc o0).heap.size = w.heap.size + 1 := by simp
 have s2 : ((w.alloc o0).alloc o1).heap.size = w.heap.size + 1 + 1 := by simp
 have s3 : (((w.alloc o0).alloc o1).alloc o2).heap.size = w.heap.size + 1 + 1 + 1 := by simp
 have e0 := heap_alloc_new w o0
 have e1 := heap_alloc_new (w.alloc o0) o1
 have e2 := heap_alloc_new ((w.alloc o0).alloc o1) o2
 have e3 := heap_alloc_new (((w.alloc o0).alloc o1).alloc o2) o3
 rw [s1] at e1
 rw [s2] at e2
 rw [s3] at e3
 have k1 : ∀ g, g < (w.alloc o0).heap.size → ((w.alloc o0).alloc o1).heap[g]? = (w.alloc o0).heap[g]? := fun g hg => Below.heap_alloc _ _ _ hg
 have k2 : ∀ g, g < ((w.alloc o0).alloc o1).heap.size → (((w.alloc o0).alloc o1).alloc o2).heap[g]? = ((w.alloc o0).alloc o1).heap[g]? := fun g hg => Below.heap_alloc _ _ _ hg
 have k3 : ∀ g, g < (((w.alloc o0).alloc o1).alloc o2).heap.size → ((((w.alloc o0).alloc o1).alloc o2).alloc o3).heap[g]? = (((w.alloc o0).alloc o1).alloc o2).heap[g]? := fun g hg => Below.heap_alloc _ _ _ hg
 refine ⟨(((b1.alloc (by omega) _).alloc (by omega) _).alloc (by omega) _).drew, ?_, ?_, ?_, e3⟩
 · exact (k3 _ (by omega)).trans ((k2 _ (by omega)).trans ((k1 _ (by omega)).trans e0))
 · exact (k3 _ (by omega)).trans ((k2 _ (by omega)).trans e1)
 · exact (k3 _ (by omega)).trans e2
theorem ir {w wc : World} {next : List (List Int)} {na : Option Addr} {nc W cb bb sb : Nat} (h : Lists w.heap.size w next (.slice na next.length nc)) (hb : Below w.heap.size w wc)
    (hW : wc.heap[W]? = some (.cells #[.slice na next.length nc, sl cb next.length, sl bb next.length, .int .i64 0, .slice none 0 0, sl sb next.length, .slice none 0 0] 198 (0, 0)))
    (hc : wc.heap[cb]? = some (.cells (Array.replicate next.length (.int .i64 0)) 3 (0, 0))) (hbb : wc.heap[bb]? = some (.cells (Array.replicate next.length (.int .i64 0)) 3 (0, 0))) (hs : wc.heap[sb]? = some (.cells (Array.replicate next.length (.bool false)) 4 (0, 0)))
    (lo : w.heap.size ≤ W ∧ w.heap.size ≤ cb ∧ w.heap.size ≤ bb ∧ w.heap.size ≤ sb) (ne : cb ≠ bb) : WI w.heap.size W (.slice na next.length nc) next next.length cb bb sb (dR next.length) wc := by
 refine ⟨.slice none 0 0, .slice none 0 0, fun _ => False, ⟨hW, h.keep hb.block, lo, ?_, ?_, ?_, ⟨rfl, .inl ⟨rfl, rfl⟩⟩, ⟨ne, by simp [Value.ownBlock], by simp [Value.ownBlock]⟩, ⟨[], ⟨rfl, .inl ⟨rfl, rfl⟩⟩, fun i k hk => by simp [dR] at hk⟩, fun g hg => hg.elim⟩⟩
 · unfold Fx; rw [hc, nS]; rfl
 · unfold Fx; rw [hbb, nS]; rfl
 · unfold Fx; rw [hs, qf]; rfl
theorem WI.done {B W : Nat} {nv : Value} {next : List (List Int)} {n cb bb sb : Nat} {s : Wk} {w : World} (h : WI B W nv next n cb bb sb s w) (ho : OkW n s) (hn : n ≤ 4096) : ∃ ka kc, w.cell? ⟨W, 6, none⟩ = some (.slice ka s.knots.length kc) ∧ Lists w.heap.size w s.knots (.slice ka s.knots.length kc) := by
 obtain ⟨ov, kv, Z, hw⟩ := h
 obtain ⟨xs, k1, k2⟩ := hw.rk
 obtain ⟨ka, kc, rfl⟩ := bK k1
 have Ad : s.knots.length ≤ 4096 := by have h1 := ho.kl; have h2 := ho.c1; omega
 refine ⟨ka, kc, hw.cells.2.2.2.2.2.2, ?_⟩
 have hx := eS k1
 have Ab : s.knots.length ≤ kc := by
  rcases k1.2 with ⟨e, h0⟩ | ⟨g, cap, Ac, e, _, _, h5, _⟩
  · omega
  · simp only [Value.slice.injEq] at e; omega
 refine ⟨ka, kc, rfl, Ab, by omega, fun i k hi => ?_⟩
 obtain ⟨v, h3, h4⟩ := k2 i k hi
 obtain ⟨g, o, e, Aa⟩ := hx i v h3
 refine ⟨g, o, [v], e, World.block_lt_of_cell? w _ Aa, rfl, fun j u hu => ?_, v, rfl, h4.rr (fun g hg => (hw.z g hg).2.2.2.2.elim fun vs h => h.lt) fun _ _ h => h⟩
 match j, hu with
 | 0, hu => cases hu; rw [Nat.mul_one, Nat.add_zero]; exact Aa
theorem pu {next : List (List Int)} {n : Nat} (hn : ∀ (i : Nat) l, next[i]? = some l → ∀ z ∈ l, 0 ≤ z ∧ z < (n : Int)) (f : Nat) : ∀ k i s, OkW n s → i + k ≤ n → OkW n (eachM next f k i s)
 | 0, _, _, h, _ => h
 | k + 1, i, s, h, hi => by
  unfold eachM
  by_cases hz : s.came.getD i 0 = 0
  · rw [if_pos hz]
    exact pu hn f k (i + 1) _ (nG hn f i s h ⟨by omega, by omega⟩ (by simpa using hz)).1 (by omega)
  · rw [if_neg hz]
    exact pu hn f k (i + 1) _ h (by omega)
theorem sG {w : World} {next : List (List Int)} {na : Option Addr} {nc : Nat} (h : Lists w.heap.size w next (.slice na next.length nc)) (hn : next.length ≤ 4096) (hnx : ∀ (i : Nat) l, next[i]? = some l → ∀ z ∈ l, 0 ≤ z ∧ z < (next.length : Int)) :
    Calls Tryz.prog 107 #[.slice na next.length nc] w fun e w' => ∃ ka kc, e = .returned (.slice ka (jO next).length kc) ∧ Lists w'.heap.size w' (jO next) (.slice ka (jO next).length kc) ∧ Below w.heap.size w w' := by
 obtain ⟨iI, As, Ao, Ap, Ax⟩ := info_parts gT
 obtain ⟨iB, Ay, Am, Av, Ar⟩ := info_parts jG
 have At := fun W => aI (P := Tryz.prog) Tryz.underlying26 As Ao Ap rfl next.length (by rw [Ax]; omega) (by unfold maxLen; omega) W
 have An := fun W => aI (P := Tryz.prog) Tryz.underlying106 Ay Am Av rfl next.length (by rw [Ar]; omega) (by unfold maxLen; omega) W
 have HH := hide h
 have Aj := hide hnx
 have Az := h.lim
 obtain ⟨R, hR⟩ : ∃ R, eachM next next.length next.length 0 (dR next.length) = R := ⟨_, rfl⟩
 have AC : Hid (OkW next.length R) := hide (by rw [← hR]; exact pu hnx _ _ _ _ (lq _) (by omega))
 have HK : Hid (jO next = R.knots) := hide (by unfold jO; rw [hR])
 have Ai : Hid (eachM next next.length (next.length - 0) 0 (dR next.length) = R) := hide (by rw [Nat.sub_zero]; exact hR)
 rw [HK.out]
 clear h hnx hR
 go_enter Tryz.func107, Tryz.ntmps107
 go_upto_region 1 with fail
 go_cut [3] from 5 to 16 (fun s wc => ∃ W cb bb sb, s = aa W ∧ Hid (WI w.heap.size W (.slice na next.length nc) next next.length cb bb sb (dR next.length) wc) ∧ Hid (Below w.heap.size w wc))
 case first =>
  go_region
  all_goals (go_wp2_with fail; go_meet)
  · exact ⟨_, _, _, _, rfl, hide (ir HH.out (aV w _ _ _ _).1 (aV w _ _ _ _).2.2.2.2 (aV w _ _ _ _).2.1 (aV w _ _ _ _).2.2.1 (aV w _ _ _ _).2.2.2.1 (by omega) (by omega)), hide (aV w _ _ _ _).1⟩
  · exact ⟨_, _, _, _, rfl, hide (ir HH.out (aV w _ _ _ _).1 (aV w _ _ _ _).2.2.2.2 (aV w _ _ _ _).2.1 (aV w _ _ _ _).2.2.2.1 (aV w _ _ _ _).2.2.1 (by omega) (by omega)), hide (aV w _ _ _ _).1⟩
  · exact ⟨_, _, _, _, rfl, hide (ir HH.out (aV w _ _ _ _).1 (aV w _ _ _ _).2.2.2.2 (aV w _ _ _ _).2.2.1 (aV w _ _ _ _).2.1 (aV w _ _ _ _).2.2.2.1 (by omega) (by omega)), hide (aV w _ _ _ _).1⟩
  · exact ⟨_, _, _, _, rfl, hide (ir HH.out (aV w _ _ _ _).1 (aV w _ _ _ _).2.2.2.2 (aV w _ _ _ _).2.2.2.1 (aV w _ _ _ _).2.1 (aV w _ _ _ _).2.2.1 (by omega) (by omega)), hide (aV w _ _ _ _).1⟩
  · exact ⟨_, _, _, _, rfl, hide (ir HH.out (aV w _ _ _ _).1 (aV w _ _ _ _).2.2.2.2 (aV w _ _ _ _).2.2.1 (aV w _ _ _ _).2.2.2.1 (aV w _ _ _ _).2.1 (by omega) (by omega)), hide (aV w _ _ _ _).1⟩
  · exact ⟨_, _, _, _, rfl, hide (ir HH.out (aV w _ _ _ _).1 (aV w _ _ _ _).2.2.2.2 (aV w _ _ _ _).2.2.2.1 (aV w _ _ _ _).2.2.1 (aV w _ _ _ _).2.1 (by omega) (by omega)), hide (aV w _ _ _ _).1⟩
 case rest =>
  obtain ⟨W, cb, bb, sb, rfl, HW, HB⟩ := hcut
  clear At An
  go_wp2_with fail
  go_loopw [19] (fun z wr => ∃ (k : Nat) (t : Wk), k ≤ next.length ∧ z = .int .i64 k ∧ Hid (WI w.heap.size W (.slice na next.length nc) next next.length cb bb sb t wr) ∧ Hid (OkW next.length t) ∧ Hid (eachM next next.length (next.length - k) k t = R) ∧ Hid (Below w.heap.size w wr)) (fun z _ => next.length - (intOf z).toNat)
  case atStart => exact ⟨0, _, by omega, rfl, HW, hide (lq _), Ai, HB⟩
  case round =>
   clear Ai HW HB
   obtain ⟨k, t, hk, rfl, Ab, Aa, Ac, Af⟩ := hrel
   by_cases hlt : k < next.length
   · have Ad : Hid (eachM next next.length (next.length - (k + 1)) (k + 1) (if t.came.getD k 0 = 0 then bn next next.length k t else t) = R) := hide (by have := Ac.out; rw [show next.length - k = (next.length - (k + 1)) + 1 by omega, eachM] at this; exact this)
     obtain ⟨AD, AA, Z2, Ae⟩ := Ab.out
     obtain ⟨c0, c1, c2, c3, c4, c5, c6⟩ := Ae.cells
     have Aq := Ae.fc.get (dt (l := t.came) (i := k) (by rw [Aa.out.lc]; exact hlt))
     by_cases hz : t.came.getD k 0 = 0
     · have Ag : fd t.came ≤ next.length := by have := Aa.out.lc; unfold fd; exact Nat.le_trans (List.length_filter_le _ _) (by omega)
       have CV := hide (vn hn rfl Aj.out next.length t wr k Ab.out Af.out.size Aa.out hlt hz Ag)
       have Al := hide (nG Aj.out next.length k t Aa.out ⟨by omega, by omega⟩ (by simpa using hz)).1
       rw [if_pos hz] at Ad
       rw [hz] at Aq
       clear Ae hz Ac Ab Ag
       go_wp2_with (go_at_call 141; refine CV.out.mono ?_; rintro _ wv ⟨rfl, Ah, Ak⟩; have Au := hide Ah; have Aw := hide (Af.out.trans Ak); clear Ah Ak)
       go_roundw
       case rel => exact ⟨k + 1, _, by omega, by go_num, Au, Al, Ad, Aw⟩
       case measure => simp [intOf]; omega
     · have AB : (t.came.getD k 0 == 0) = false := beq_eq_false_iff_ne.2 hz
       rw [if_neg hz] at Ad
       clear Ae Ac
       generalize t.came.getD k 0 = cm at *
       go_wp2_with fail
       go_roundw
       case rel => exact ⟨k + 1, t, by omega, by go_num, Ab, Aa, Ad, Af⟩
       case measure => simp [intOf]; omega
   · have HE : Hid (t = R) := hide (by have := Ac.out; rw [show next.length - k = 0 by omega] at this; exact this)
     obtain ⟨ka, kc, q1, q2⟩ := Ab.out.done Aa.out hn
     have HQ := hide q2
     clear q2 Ac Ab
     go_wp2_with fail
     go_ret
     rw [← HE.out]
     exact ⟨ka, kc, rfl, HQ.out, Af.out⟩
set_option maxRecDepth 100000
set_option maxHeartbeats 12800000
theorem lT {T : Th} (hb : (eX T).1 = 0) : ∀ (i : Nat) l, T.beats[i]? = some l → ∀ z ∈ l, 0 ≤ z ∧ z < (T.beats.length : Int) := fun i l hl z hz => by
 obtain ⟨b1, b2⟩ := pK hb
 have := (gy.1 (b2 i l hl).1).1 z hz
 rw [b1]
 omega
theorem oZ {w : World} {T : Th} {fa ra ba : Option Addr} {fc rc bc : Nat} (h : TA w.heap.size w T fa fc ra rc ba bc) (hru : (eF T).1 = 0) (hb : (eX T).1 = 0) :
    Calls Tryz.prog 75 #[tv T fa fc ra rc ba bc] w fun e w' => e = .returned (jx (cD T)) ∧ Below w.heap.size w w' := by
 have hB := ac w (.cells #[.int .i64 T.lits, .slice fa T.foes.length fc, .slice ra T.rules.length rc, .slice ba T.beats.length bc] 25)
 have hX := heap_alloc_new w (.cells #[.int .i64 T.lits, .slice fa T.foes.length fc, .slice ra T.rules.length rc, .slice ba T.beats.length bc] 25)
 have hL := TR.go hB h
 have Al := (mY hru).1
 have Ai := (pK hb).1
 have CK := hide (sG hL.beats (by omega) (lT hb))
 obtain ⟨r, hr⟩ : ∃ r, cD T = r := ⟨_, rfl⟩
 obtain ⟨L, Ac⟩ : ∃ L, mZ T = L := ⟨_, rfl⟩
 rw [hr]
 unfold cD at hr
 rw [Ac] at hr
 have HR := hide hr
 generalize hks : jO T.beats = ks at *
 have Ag : Hid ((ks.drop 0).foldl kw T.rules.length = L) := hide (by rw [List.drop_zero, ← hks]; exact Ac)
 have HB := hide hB
 clear h hru hb hB hL Ai hr Ac hks
 go_enter Tryz.func75, Tryz.ntmps75
 go_upto_region 1 with fail
 generalize w.alloc (.cells #[.int .i64 T.lits, .slice fa T.foes.length fc, .slice ra T.rules.length rc, .slice ba T.beats.length bc] 25) = W at *
 obtain ⟨-, c0, c1, c2, c3⟩ := Bt.of hX
 have HX := hide hX
 clear hX
 go_wp2_with (go_at_call 107; refine CK.out.mono ?_; rintro _ w1 ⟨ka, kc, rfl, Af, Ae⟩; have Ah := hide (HB.out.trans (Ae.mono HB.out.size)); have HXb := hide ((Ae.block _ (aO HX.out)).trans HX.out); have HKs := hide Af; have Am := Af.lim; clear Ae Af)
 clear c0 c1 c2 c3 HX
 go_loop [4, 14] (fun y x => ∃ (k : Nat) (z : Int), k ≤ ks.length ∧ x = .int .i64 k ∧ y = .int .i64 z ∧ Hid ((ks.drop k).foldl kw z = L)) (fun _ x => ks.length - (intOf x).toNat)
 case atStart => exact ⟨0, T.rules.length, by omega, rfl, rfl, Ag⟩
 case round =>
  clear Ag
  obtain ⟨k, z, hk, rfl, rfl, HK⟩ := hrel
  by_cases hlt : k < ks.length
  · obtain ⟨kn, Ab⟩ := ap hlt
    obtain ⟨g, of, a2, d2, rfl, -, Ak, -, Aj, hI⟩ := ci HKs.out Ab
    have HN : Hid ((ks.drop (k + 1)).foldl kw (kw z kn) = L) := hide (by have := HK.out; rw [bh Ab, List.foldl_cons] at this; exact this)
    by_cases h1 : 1 < kn.length
    · have CM := hide (B4 (c := d2) hI.at1 Aj (by omega))
      have Ad : Hid ((ks.drop (k + 1)).foldl kw (min z (minM kn)) = L) := hide (by have := HN.out; unfold kw at this; rw [if_pos h1] at this; exact this)
      clear HK HN hI Ab
      generalize minM kn = mk at *
      go_wp2_with (go_at_call 108; refine CM.out.mono ?_; rintro _ w2 ⟨rfl, hw⟩; subst w2)
      go_round
      case rel => exact ⟨k + 1, min z mk, by omega, by go_num, by rw [ky], Ad⟩
      case measure => simp [intOf]; omega
    · have Ad : Hid ((ks.drop (k + 1)).foldl kw z = L) := hide (by have := HN.out; rw [show kw z kn = z by unfold kw; rw [if_neg h1]] at this; exact this)
      clear HK HN hI Ab
      go_wp2_with fail
      go_round
      case rel => exact ⟨k + 1, z, by omega, by go_num, rfl, Ad⟩
      case measure => simp [intOf]; omega
  · have HN : Hid (z = L) := hide (by have := HK.out; rw [cO (by omega)] at this; exact this)
    obtain ⟨-, c0, c1, c2, c3⟩ := Bt.of HXb.out
    have Aa := HR.out
    rw [← HN.out] at Aa
    clear HK HN HR
    by_cases hz : z < (T.rules.length : Int)
    · rw [if_pos hz] at Aa
      have HE := hide Aa
      clear Aa
      go_wp2_with fail
      go_ret2
      exact ⟨bB HE.out, Ah.out⟩
    · rw [if_neg hz] at Aa
      have HE := hide Aa
      clear Aa
      go_wp2_with fail
      go_ret2
      exact ⟨bB HE.out, Ah.out⟩
def vN (T : Th) : Nat → Int × Int
 | 0 => fM (gX T) (fM (eF T) (fM (iJ T) (fM (eX T) (cD T))))
 | 1 => fM (eF T) (fM (iJ T) (fM (eX T) (cD T)))
 | 2 => fM (iJ T) (fM (eX T) (cD T))
 | 3 => fM (eX T) (cD T)
 | 4 => fM (cD T) (0, 0)
 | _ => (0, 0)
theorem sH {T : Th} (h : (cD T).1 = 0) : cD T = (0, 0) := by
 unfold cD at h ⊢
 split
 · rename_i h1; rw [if_pos h1] at h; cases h
 · rfl
theorem Fd {T : Th} : cD T = vN T 4 := by
 show cD T = fM (cD T) (0, 0)
 unfold fM
 split
 · rename_i h; exact sH h
 · rfl
structure rE (T : Th) (k : Nat) (res : Int × Int) : Prop where
 f : 1 ≤ k → (gX T).1 = 0
 r : 2 ≤ k → (eF T).1 = 0
 b : 4 ≤ k → (eX T).1 = 0
 c : vN T k = res
theorem my {a : Int × Int} {b r : Int × Int} (h : fM a b = r) (ha : a.1 ≠ 0) : a = r := by unfold fM at h; rw [if_neg ha] at h; exact h
theorem mQ {a : Int × Int} {b r : Int × Int} (h : fM a b = r) (ha : a.1 = 0) : b = r := by unfold fM at h; rw [if_pos ha] at h; exact h
theorem check_any {w : World} {T : Th} {fa ra ba : Option Addr} {fc rc bc : Nat} (h : TA w.heap.size w T fa fc ra rc ba bc) :
    Calls Tryz.prog 38 #[tv T fa fc ra rc ba bc] w fun e w' => e = .returned (jx (dC T)) ∧ Below w.heap.size w w' := by
 have hB := ac w (.cells #[.int .i64 T.lits, .slice fa T.foes.length fc, .slice ra T.rules.length rc, .slice ba T.beats.length bc] 25)
 have hX := heap_alloc_new w (.cells #[.int .i64 T.lits, .slice fa T.foes.length fc, .slice ra T.rules.length rc, .slice ba T.beats.length bc] 25)
 obtain ⟨r, hr⟩ : ∃ r, dC T = r := ⟨_, rfl⟩
 rw [hr]
 unfold dC at hr
 have HB := hide hB
 have HH := hide h
 clear h hB
 by_cases hlit : T.lits < 0 ∨ 4096 < T.lits
 · rw [if_pos hlit] at hr
   have HR := hide hr
   clear hr
   have Ap : T.lits < 0 ∨ (0 ≤ T.lits ∧ 4096 < T.lits) := by omega
   clear hlit
   go_enter Tryz.func38, Tryz.ntmps38
   go_upto_region 1 with fail
   generalize w.alloc (.cells #[.int .i64 T.lits, .slice fa T.foes.length fc, .slice ra T.rules.length rc, .slice ba T.beats.length bc] 25) = W at *
   obtain ⟨-, c0, c1, c2, c3⟩ := Bt.of hX
   rcases Ap with h1 | ⟨h1, h2⟩
   all_goals
    go_wp2_with fail
    go_ret2
    exact ⟨bB HR.out, HB.out⟩
 · rw [if_neg hlit] at hr
   have h0 : 0 ≤ T.lits := by omega
   have h1 : T.lits ≤ 4096 := by omega
   have Al : Hid (rE T 0 r) := hide ⟨fun h => by omega, fun h => by omega, fun h => by omega, hr⟩
   clear hr hlit
   go_enter Tryz.func38, Tryz.ntmps38
   go_upto_region 1 with fail
   generalize w.alloc (.cells #[.int .i64 T.lits, .slice fa T.foes.length fc, .slice ra T.rules.length rc, .slice ba T.beats.length bc] 25) = W at *
   obtain ⟨-, c0, c1, c2, c3⟩ := Bt.of hX
   have HX := hide hX
   clear hX
   have hA := ac W (.cells #[.func (.func 71) #[] #[], .func (.func 72) #[] #[], .func (.func 73) #[] #[], .func (.func 74) #[] #[], .func (.func 75) #[] #[]] 80)
   have HF := hide (heap_alloc_new W (.cells #[.func (.func 71) #[] #[], .func (.func 72) #[] #[], .func (.func 73) #[] #[], .func (.func 74) #[] #[], .func (.func 75) #[] #[]] 80))
   have Ao := hide ((hA.block _ (aO HX.out)).trans HX.out)
   have Am := hide (HB.out.trans (hA.mono HB.out.size))
   clear HX hA HB
   go_upto_region 3 with fail
   go_wp2_with fail
   generalize W.alloc (.cells #[.func (.func 71) #[] #[], .func (.func 72) #[] #[], .func (.func 73) #[] #[], .func (.func 74) #[] #[], .func (.func 75) #[] #[]] 80) = W2 at *
   clear c0 c1 c2 c3
   go_loopw [18] (fun x wr => ∃ k : Nat, k ≤ 5 ∧ x = .int .i64 k ∧ Hid (rE T k r) ∧ Hid (Below W2.heap.size W2 wr)) (fun x _ => 5 - (intOf x).toNat)
   case atStart => exact ⟨0, by omega, rfl, Al, hide (Below.refl _ _)⟩
   case round =>
    clear Al
    obtain ⟨k, hk, rfl, HS, HW⟩ := hrel
    have An := (HW.out.block _ (aO Ao.out)).trans Ao.out
    have Ae := (HW.out.block _ (aO HF.out)).trans HF.out
    obtain ⟨-, c0, c1, c2, c3⟩ := Bt.of An
    have f0 := cell_of_row wr _ 0 _ _ _ Ae
    have f1 := cell_of_row wr _ 1 _ _ _ Ae
    have f2 := cell_of_row wr _ 2 _ _ _ Ae
    have f3 := cell_of_row wr _ 3 _ _ _ Ae
    have f4 := cell_of_row wr _ 4 _ _ _ Ae
    simp only [List.getElem?_toArray, List.getElem?_cons_zero, List.getElem?_cons_succ] at f0 f1 f2 f3 f4
    have Aj := hide (Am.out.trans (HW.out.mono Am.out.size))
    have Ai := hide (TR.go Aj.out HH.out)
    have Ag := hide (fun (X : World) (hX : Below wr.heap.size wr X) => HW.out.trans (hX.mono HW.out.size))
    have Ah := hide (fun (X : World) (hX : Below wr.heap.size wr X) => Aj.out.trans (hX.mono Aj.out.size))
    clear An Ae
    have Ak : k = 0 ∨ k = 1 ∨ k = 2 ∨ k = 3 ∨ k = 4 ∨ k = 5 := by omega
    rcases Ak with rfl | rfl | rfl | rfl | rfl | rfl
    · obtain ⟨a, b, Aa⟩ : ∃ a b, gX T = (a, b) := ⟨_, _, rfl⟩
      have CF := hide (sA Ai.out)
      rw [Aa] at CF
      unfold jx at CF
      simp only at CF
      by_cases ha : a = 0
      · have Ad : (gX T).1 = 0 := by rw [Aa]; exact ha
        have HN : Hid (rE T 1 r) := hide ⟨fun _ => Ad, fun h => by omega, fun h => by omega, mQ HS.out.c Ad⟩
        subst ha
        clear Aa Ad HS
        go_wp2_with (go_at_call 71; refine CF.out.mono ?_; rintro _ w1 ⟨rfl, Ab⟩; have Ac := hide (Ag.out w1 Ab); clear Ab)
        go_roundw
        case rel => exact ⟨1, by omega, by go_num, HN, Ac⟩
        case measure => simp [intOf]
      · have HN : Hid ((a, b) = r) := hide (by rw [← Aa]; exact my HS.out.c (by rw [Aa]; exact ha))
        have Af : (a != 0) = true := by simpa using ha
        clear Aa HS
        go_wp2_with (go_at_call 71; refine CF.out.mono ?_; rintro _ w1 ⟨rfl, Ab⟩; have Ac := hide (Ah.out w1 Ab); clear Ab)
        go_ret2
        exact ⟨bB HN.out, Ac.out⟩
    · obtain ⟨a, b, Aa⟩ : ∃ a b, eF T = (a, b) := ⟨_, _, rfl⟩
      have CF := hide (qF Ai.out)
      rw [Aa] at CF
      unfold jx at CF
      simp only at CF
      by_cases ha : a = 0
      · have Ad : (eF T).1 = 0 := by rw [Aa]; exact ha
        have HN : Hid (rE T 2 r) := hide ⟨fun _ => HS.out.f (by omega), fun _ => Ad, fun h => by omega, mQ HS.out.c Ad⟩
        subst ha
        clear Aa Ad HS
        go_wp2_with (go_at_call 72; refine CF.out.mono ?_; rintro _ w1 ⟨rfl, Ab⟩; have Ac := hide (Ag.out w1 Ab); clear Ab)
        go_roundw
        case rel => exact ⟨2, by omega, by go_num, HN, Ac⟩
        case measure => simp [intOf]
      · have HN : Hid ((a, b) = r) := hide (by rw [← Aa]; exact my HS.out.c (by rw [Aa]; exact ha))
        have Af : (a != 0) = true := by simpa using ha
        clear Aa HS
        go_wp2_with (go_at_call 72; refine CF.out.mono ?_; rintro _ w1 ⟨rfl, Ab⟩; have Ac := hide (Ah.out w1 Ab); clear Ab)
        go_ret2
        exact ⟨bB HN.out, Ac.out⟩
    · obtain ⟨a, b, Aa⟩ : ∃ a b, iJ T = (a, b) := ⟨_, _, rfl⟩
      have CF := hide (qE Ai.out h0 h1 (HS.out.f (by omega)) (HS.out.r (by omega)))
      rw [Aa] at CF
      unfold jx at CF
      simp only at CF
      by_cases ha : a = 0
      · have Ad : (iJ T).1 = 0 := by rw [Aa]; exact ha
        have HN : Hid (rE T 3 r) := hide ⟨fun _ => HS.out.f (by omega), fun _ => HS.out.r (by omega), fun h => by omega, mQ HS.out.c Ad⟩
        subst ha
        clear Aa Ad HS
        go_wp2_with (go_at_call 73; refine CF.out.mono ?_; rintro _ w1 ⟨rfl, Ab⟩; have Ac := hide (Ag.out w1 Ab); clear Ab)
        go_roundw
        case rel => exact ⟨3, by omega, by go_num, HN, Ac⟩
        case measure => simp [intOf]
      · have HN : Hid ((a, b) = r) := hide (by rw [← Aa]; exact my HS.out.c (by rw [Aa]; exact ha))
        have Af : (a != 0) = true := by simpa using ha
        clear Aa HS
        go_wp2_with (go_at_call 73; refine CF.out.mono ?_; rintro _ w1 ⟨rfl, Ab⟩; have Ac := hide (Ah.out w1 Ab); clear Ab)
        go_ret2
        exact ⟨bB HN.out, Ac.out⟩
    · obtain ⟨a, b, Aa⟩ : ∃ a b, eX T = (a, b) := ⟨_, _, rfl⟩
      have CF := hide (qG Ai.out (HS.out.f (by omega)) (HS.out.r (by omega)))
      rw [Aa] at CF
      unfold jx at CF
      simp only at CF
      by_cases ha : a = 0
      · have Ad : (eX T).1 = 0 := by rw [Aa]; exact ha
        have HN : Hid (rE T 4 r) := hide ⟨fun _ => HS.out.f (by omega), fun _ => HS.out.r (by omega), fun _ => Ad, by rw [← Fd]; exact mQ HS.out.c Ad⟩
        subst ha
        clear Aa Ad HS
        go_wp2_with (go_at_call 74; refine CF.out.mono ?_; rintro _ w1 ⟨rfl, Ab⟩; have Ac := hide (Ag.out w1 Ab); clear Ab)
        go_roundw
        case rel => exact ⟨4, by omega, by go_num, HN, Ac⟩
        case measure => simp [intOf]
      · have HN : Hid ((a, b) = r) := hide (by rw [← Aa]; exact my HS.out.c (by rw [Aa]; exact ha))
        have Af : (a != 0) = true := by simpa using ha
        clear Aa HS
        go_wp2_with (go_at_call 74; refine CF.out.mono ?_; rintro _ w1 ⟨rfl, Ab⟩; have Ac := hide (Ah.out w1 Ab); clear Ab)
        go_ret2
        exact ⟨bB HN.out, Ac.out⟩
    · obtain ⟨a, b, Aa⟩ : ∃ a b, cD T = (a, b) := ⟨_, _, rfl⟩
      have CF := hide (oZ Ai.out (HS.out.r (by omega)) (HS.out.b (by omega)))
      rw [Aa] at CF
      unfold jx at CF
      simp only at CF
      by_cases ha : a = 0
      · have Ad : (cD T).1 = 0 := by rw [Aa]; exact ha
        have HN : Hid (rE T 5 r) := hide ⟨fun _ => HS.out.f (by omega), fun _ => HS.out.r (by omega), fun _ => HS.out.b (by omega), mQ HS.out.c Ad⟩
        subst ha
        clear Aa Ad HS
        go_wp2_with (go_at_call 75; refine CF.out.mono ?_; rintro _ w1 ⟨rfl, Ab⟩; have Ac := hide (Ag.out w1 Ab); clear Ab)
        go_roundw
        case rel => exact ⟨5, by omega, by go_num, HN, Ac⟩
        case measure => simp [intOf]
      · have HN : Hid ((a, b) = r) := hide (by rw [← Aa]; exact my HS.out.c (by rw [Aa]; exact ha))
        have Af : (a != 0) = true := by simpa using ha
        clear Aa HS
        go_wp2_with (go_at_call 75; refine CF.out.mono ?_; rintro _ w1 ⟨rfl, Ab⟩; have Ac := hide (Ah.out w1 Ab); clear Ab)
        go_ret2
        exact ⟨bB HN.out, Ac.out⟩
    · have HE := hide HS.out.c
      clear HS
      go_wp2_with fail
      go_ret2
      exact ⟨bB HE.out, Aj.out⟩
end Go.Proofs.YtmlhcncagdfjfaaGreat
