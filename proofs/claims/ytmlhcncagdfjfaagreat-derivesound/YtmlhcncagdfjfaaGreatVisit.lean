import Derived.Test.YtmlhcncagdfjfaaGreatShut
import Derived.BigRegion
import Derived.Deep.CutRange
set_option maxRecDepth 100000
set_option maxHeartbeats 12800000
namespace Go.Proofs.YtmlhcncagdfjfaaGreat
open Go.RowKit
section
variable {B W : Nat} {nv : Value} {next : List (List Int)} {n cb bb sb : Nat} {ov kv : Value} {Z : Nat → Prop} {s : Wk} {w w' : World}
theorem Wi.opened (h : Wi B W nv next n cb bb sb ov kv Z s w) (hB : B ≤ w.heap.size) {x : Int} {K oc : Nat} {oa : Option Addr} (hK : s.opn.length = K) (hov : ov = .slice oa s.opn.length oc) {g4 cap4 : Nat} {ob : Obj} (hown : w'.ownsRow B 3 1 (.slice (some ⟨g4, 0, none⟩) (K + 1) cap4) (K + 1) (aq s.opn ++ [.int .i64 x]))
    (hg : (Value.ownBlock (.slice oa K oc) = some g4 ∧ (w.alloc ob).grownBy w' (some g4)) ∨ (g4 = w.heap.size + 1 ∧ (w.alloc ob).grownBy w' none)) :
    w'.cell? ⟨W, 4, none⟩ = some (.slice oa K oc) ∧ w'.frozen? ⟨W, 4, none⟩ = false ∧ Wi B W nv next n cb bb sb (.slice (some ⟨g4, 0, none⟩) (K + 1) cap4) kv Z { s with opn := s.opn ++ [x] } (w'.setCell ⟨W, 4, none⟩ (.slice (some ⟨g4, 0, none⟩) (K + 1) cap4)) ∧ Below B w (w'.setCell ⟨W, 4, none⟩ (.slice (some ⟨g4, 0, none⟩) (K + 1) cap4)) := by
 subst hK
 rw [← hov] at hg ⊢
 have Ag : ov.ownBlock ≠ some W := au h.ro h.bx (by decide)
 have ho : ∀ k, k < w.heap.size → ov.ownBlock ≠ some k → w'.heap[k]? = w.heap[k]? := fun k hk hn => eO rfl hg hk hn
 have Aa := h.bx.keep (ho _ h.bx.lt Ag)
 have Ae := h.fc.keep (ho _ h.fc.lt h.ne.2.1)
 have Ad := h.fb.keep (ho _ h.fb.lt h.ne.2.2)
 have Ac := h.fs.keep (ho _ h.fs.lt (au h.ro h.fs (by decide)))
 obtain ⟨xs, k1, _⟩ := h.rk
 obtain ⟨l1, l2, l3, l4⟩ := h.lo
 have hz := h.hz (.inl rfl)
 have Af : ∀ g, Z g → (w'.setCell ⟨W, 4, none⟩ (.slice (some ⟨g4, 0, none⟩) (s.opn.length + 1) cap4)).heap[g]? = w.heap[g]? := fun g hg => by
  obtain ⟨_, _, _, h4, vs, h5⟩ := h.z g hg
  rw [other_set (hz g hg)]
  exact ho g h5.lt h4
 have Ab : ∀ g, g < w.heap.size → ov.ownBlock ≠ some g → g4 ≠ g := fun g hl hn e => by
  subst e
  rcases hg with ⟨h1, _⟩ | ⟨h1, _⟩
  ·exact hn h1
  omega
 refine ⟨Aa.get (by rw [hov]; rfl), Aa.frz 4, ⟨Aa.set 4 _, h.nx.keep fun g hg => ?_, h.lo, Ae.keep (other_set (an Ae Aa (by decide))), Ad.keep (other_set (an Ad Aa (by decide))), Ac.keep (other_set (an Ac Aa (by decide))), ?_, ⟨h.ne.1, fun e => ?_, fun e => ?_⟩, fW h.rk (fun g hg => ?_) Af, fun g hg => ?_⟩, ?_⟩
 ·rw [other_set (by omega)]
  exact ho g (by omega) fun e => by have := (h.ro.lt g e).1; omega
 ·show World.ownsRow _ _ _ _ _ (s.opn ++ [x]).length (aq (s.opn ++ [x]))
  rw [List.length_append, cX]
  exact owns_keep hown fun g e => other_set fun (e2 : g = W) => au hown Aa (by decide) (e2 ▸ e)
 ·exact Ab cb h.fc.lt h.ne.2.1 (by simpa [Value.ownBlock] using e)
 ·exact Ab bb h.fb.lt h.ne.2.2 (by simpa [Value.ownBlock] using e)
 ·rw [other_set fun (e : g = W) => au k1 h.bx (by decide) (e ▸ hg)]
  exact ho g (ax k1 hg) (lK (aI h.ro (Nat.zero_le _)) (aI k1 (Nat.zero_le _)) (by decide) hg)
 ·obtain ⟨h1, h2, h3, h4, vs, h5⟩ := h.z g hg
  exact ⟨h1, h2, h3, fun e => Ab g h5.lt h4 (by simpa [Value.ownBlock] using e), vs, h5.keep (Af g hg)⟩
 exact ((dj (Z := fun k => B ≤ k) rfl hg fun g e => (h.ro.lt g e).1).below fun k hk => ⟨by omega, by omega⟩).setCell (p := ⟨W, 4, none⟩) h.lo.1 _
end
theorem sF {B W : Nat} {nv : Value} {next : List (List Int)} {n cb bb sb : Nat} (hn : n ≤ 4096) (hnl : next.length = n) (hnx : ∀ (i : Nat) l, next[i]? = some l → ∀ z ∈ l, 0 ≤ z ∧ z < (n : Int)) (f : Nat)
    (ih : ∀ (s : Wk) (w : World) (p : Nat), WI B W nv next n cb bb sb s w → B ≤ w.heap.size → OkW n s → p < n → s.came.getD p 0 = 0 → d9 s.came ≤ f →
     Calls Tryz.prog 141 #[aa W, .int .i64 p] w fun e w' => e = .returned (.tuple #[]) ∧ WI B W nv next n cb bb sb (aN next f p s) w' ∧ Below B w w')
    (s : Wk) (w : World) (p : Nat) (h : WI B W nv next n cb bb sb s w) (hB : B ≤ w.heap.size) (ho : OkW n s) (hp : p < n) (h0 : s.came.getD p 0 = 0) (hu : d9 s.came ≤ f + 1) :
    Calls Tryz.prog 141 #[aa W, .int .i64 p] w fun e w' => e = .returned (.tuple #[]) ∧ WI B W nv next n cb bb sb (aN next (f + 1) p s) w' ∧ Below B w w' := by
 obtain ⟨iI, Bj, Bd, Bi, Bh⟩ := info_parts gB
 obtain ⟨ov, kv, Z, hw⟩ := h
 have Bx := ho.c0
 have Bw := ho.c1
 have BC := ho.ol
 obtain ⟨c0, c1, c2, c3, c4, c5, c6⟩ := hw.cells
 have Bs := hw.bx.frz 3
 have W1 := hide (hw.clock (s.clock + 1))
 have AP := hide ((Below.refl B w).setCell (p := ⟨W, 3, none⟩) hw.lo.1 (.int .i64 (s.clock + 1)))
 have BF : s.clock + 1 ≤ 4096 := by have := (ho.come (p := p) ⟨by omega, by omega⟩ (by simpa using h0)).2; omega
 clear hw
 go_enter Tryz.func141, Tryz.ntmps141
 go_upto_region 1 with fail
 have Bv : B ≤ (w.setCell ⟨W, 3, none⟩ (.int .i64 (s.clock + 1))).heap.size := by simp; omega
 clear c0 c1 c2 c3 c4 c5 c6 Bs
 generalize w.setCell ⟨W, 3, none⟩ (.int .i64 (s.clock + 1)) = w1 at *
 obtain ⟨c0, c1, c2, c3, c4, c5, c6⟩ := W1.out.cells
 have kc := W1.out.fc.get (cJ (l := s.came) (i := p) (by rw [ho.lc]; exact hp))
 have Bn := W1.out.fc.frz p
 have kb := W1.out.fb.get (cJ (l := s.back) (i := p) (by rw [ho.lb]; exact hp))
 have AJ := W1.out.fb.frz p
 have W2 := hide ((W1.out.came p (s.clock + 1)).back p (s.clock + 1))
 have Bc := (W1.out.came p (s.clock + 1)).fb.get (cJ (l := s.back) (i := p) (by rw [ho.lb]; exact hp))
 have AZ := (W1.out.came p (s.clock + 1)).fb.frz p
 have W2d := hide (W2.out.call (Below.refl _ _).drew (by simp; omega))
 have Af := hide (((AP.out.setCell (p := ⟨cb, p, none⟩) W1.out.lo.2.1 (.int .i64 (s.clock + 1))).setCell (p := ⟨bb, p, none⟩) W1.out.lo.2.2.1 (.int .i64 (s.clock + 1))).drew)
 have Bb := hide ih
 have AV := hide hnx
 have Be := hide ho
 have Bk := hide h0
 clear W2
 go_region
 go_upto_region 2 with fail
 have Ba : B ≤ (((w1.setCell ⟨cb, p, none⟩ (.int .i64 (s.clock + 1))).setCell ⟨bb, p, none⟩ (.int .i64 (s.clock + 1))).drew).heap.size := by simp; omega
 clear c0 c1 c2 c3 c4 c5 c6 kc Bn kb AJ Bc AZ W1 AP ih hnx ho h0
 generalize ((w1.setCell ⟨cb, p, none⟩ (.int .i64 (s.clock + 1))).setCell ⟨bb, p, none⟩ (.int .i64 (s.clock + 1))).drew = w2 at *
 obtain ⟨c0, c1, c2, c3, c4, c5, c6⟩ := W2d.out.cells
 obtain ⟨oa, oc, AE⟩ := bf W2d.out.ro
 obtain ⟨K, hK⟩ : ∃ K, s.opn.length = K := ⟨_, rfl⟩
 have HEov : Hid (ov = .slice oa s.opn.length oc) := hide AE
 have HK := hide hK
 have hA := ae w2 (.cells #[.int .i64 p] 3)
 have AB : Hid ((w2.alloc (.cells #[.int .i64 p] 3)).ownsRow B 3 1 (.slice oa K oc) K (aq s.opn)) := hide (by
  have := owns_keep W2d.out.ro fun g hg => hA.block g (ax W2d.out.ro hg)
  rw [HEov.out, HK.out] at this
  exact this)
 rw [AE] at c4
 simp only [hK] at c4
 have BG : K ≤ 4096 := by omega
 obtain ⟨na, nc, rfl, BA, Bu⟩ := W2d.out.nx.form
 clear hA AE hK
 go_upto_region 3 with (at_builtin; go_must (refine bt _ rfl _ _ 26 rfl B 3 iI _ 1 8 Tryz.underlying26 Bj Bd Bi Bh rfl (by decide) _ _ (aq s.opn) rfl AB.out ⟨w2.heap.size, 0, none⟩ 1 [.int .i64 p] rfl rfl (cell_one_new _ _ _) (by intro u hu; simp at hu; subst hu; rfl) (by unfold maxLen; omega) (by omega) (by simp; omega) ?_); intro g4 AX w4 Av AU; have HFin := hide (W2d.out.opened Ba (x := p) HK.out HEov.out Av (by rcases AU with h | ⟨h1, h2⟩; exact .inl h; exact .inr ⟨by simpa using h1, h2⟩)); clear Av AU; obtain ⟨Bf, Bg, AO, AM⟩ := HFin.out; have HFc := hide AO; have HFd := hide AM; clear AO AM HFin)
 have AL := hide (Af.out.trans HFd.out)
 have Bm := hide (Af.out.trans HFd.out)
 clear Bf Bg c0 c1 c2 c3 c4 c5 c6 AB W2d HFd Af
 generalize w4.setCell ⟨W, 4, none⟩ (.slice (some ⟨g4, 0, none⟩) (K + 1) AX) = w5 at *
 have AW : Hid (WI B W (.slice na next.length nc) next n cb bb sb (fX p s) w5) := hide ⟨_, _, _, HFc.out⟩
 obtain ⟨AC, AY⟩ := Be.out.come (p := p) ⟨by omega, by omega⟩ (by simpa using Bk.out)
 obtain ⟨l, hl⟩ := am (l := next) (i := p) (by omega)
 obtain ⟨g6, o6, la, lc, Ay, -, kl, -, BB, hI⟩ := bH HFc.out.nx hl
 obtain ⟨c0, c1, c2, c3, c4, c5, c6⟩ := HFc.out.cells
 have HIl := hide hI
 have HLr := hide (AV.out p l hl)
 have HRow : Hid (row next (p : Int) = l) := hide (bn (by simpa using hl))
 obtain ⟨R, hR⟩ : ∃ R, bL (aN next f) p l (fX p s) = R := ⟨_, rfl⟩
 have AN : Hid (bL (aN next f) p (l.drop 0) (fX p s) = R) := hide (by rw [List.drop_zero]; exact hR)
 have AK := hide AC
 have AF : Hid (d9 (fX p s).came ≤ f) := hide (by omega)
 have HFinal : Hid (aN next (f + 1) p s = mh p R) := hide (by rw [aN, HRow.out, hR])
 have HEna := hide Ay
 rw [Ay] at c0
 subst Ay
 clear hl hI hR AC AY HFc
 have BH : p < next.length := by omega
 go_wp2_with fail
 clear c0 c1 c2 c3 c4 c5 c6 kl
 go_loopw [51] (fun z wr => ∃ (k : Nat) (t : Wk), k ≤ l.length ∧ z = .int .i64 k ∧ Hid (WI B W (.slice (some ⟨g6, o6, none⟩) next.length nc) next n cb bb sb t wr) ∧ Hid (OkW n t) ∧ Hid (d9 t.came ≤ f) ∧ Hid (∃ ex, t.opn = s.opn ++ [(p : Int)] ++ ex) ∧ Hid (bL (aN next f) p (l.drop k) t = R) ∧ Hid (Below B w wr)) (fun z _ => l.length - (intOf z).toNat)
 case atStart => exact ⟨0, fX p s, by omega, rfl, AW, AK, AF, hide ⟨[], by show s.opn ++ [(p : Int)] = _; simp⟩, AN, AL⟩
 clear AN AF AK AW AL
 obtain ⟨k, t, hk, rfl, Ae, Aa, At, As, Ar, Ag⟩ := hrel
 have Ai : B ≤ wr.heap.size := Nat.le_trans hB Ag.out.size
 by_cases hlt : k < l.length
 ·obtain ⟨x, hx⟩ := am hlt
  obtain ⟨AS, Bo⟩ := HLr.out x (List.mem_of_getElem? hx)
  obtain ⟨m, rfl⟩ := Int.eq_ofNat_of_zero_le AS
  have Ah : m < n := by omega
  obtain ⟨lg, lo', rfl, -, kx⟩ := ji (Ints.keep (fun g hg => (Ag.out.block g hg).trans (Bm.out.block g hg).symm) HIl.out) hx
  have Aq : Hid (bL (aN next f) p (l.drop (k + 1)) (dR p m (if t.came.getD m 0 = 0 then aN next f m t else t)) = R) := hide (by have := Ar.out; rw [aM hx, bL] at this; simpa using this)
  obtain ⟨Bl, Br, Z2, Ac⟩ := Ae.out
  obtain ⟨c0, c1, c2, c3, c4, c5, c6⟩ := Ac.cells
  have AA := Ac.fc.get (cJ (l := t.came) (i := m) (by rw [Aa.out.lc]; exact Ah))
  clear hx AS Bo Ar
  by_cases hz : t.came.getD m 0 = 0
  ·rw [hz] at AA
   have CV := hide (Bb.out t wr m Ae.out Ai Aa.out Ah hz At.out)
   obtain ⟨v1, v2, v3⟩ := mL AV.out f m t Aa.out ⟨by omega, by omega⟩ (by simpa using hz)
   have Ad := Aq
   rw [if_pos hz] at Ad
   generalize hvt : aN next f m t = t2 at *
   have Ab := hide v1
   have Ax : Hid (d9 t2.came ≤ f) := hide (Nat.le_trans v2 At.out)
   have Aw : Hid (∃ ex, t2.opn = s.opn ++ [(p : Int)] ++ ex) := hide (by obtain ⟨e1, h1⟩ := v3; obtain ⟨e2, h2⟩ := As.out; exact ⟨e2 ++ e1, by rw [h1, h2]; simp⟩)
   clear v1 v2 v3 Ac Ae Aq hvt hz
   go_upto_region 8 with (go_at_call 141; refine CV.out.mono ?_; rintro _ wv ⟨rfl, Ak, Aj⟩; have Au := hide Ak; have Af := hide (Ag.out.trans Aj); clear Ak Aj)
   clear c0 c1 c2 c3 c4 c5 c6 AA kx
   obtain ⟨BE, By, Z3, AQ⟩ := Au.out
   have W2 := hide AQ
   have Bz : B ≤ wv.heap.size := Nat.le_trans hB Af.out.size
   clear AQ Au
   have AG : m < t2.shut.length := by rw [Ab.out.ls]; exact Ah
   have Al := W2.out.fs.get (iG AG)
   obtain ⟨d0, d1, d2, d3, d4, d5, d6⟩ := W2.out.cells
   cases hsb : t2.shut.getD m false with
   | true =>
    rw [hsb] at Al
    have HN : Hid (bL (aN next f) p (l.drop (k + 1)) t2 = R) := hide (by have := Ad.out; unfold dR at this; rw [show (m : Int).toNat = m by omega, hsb] at this; exact this)
    have Ap : Hid (WI B W (.slice (some ⟨g6, o6, none⟩) next.length nc) next n cb bb sb t2 wv) := hide ⟨_, _, _, W2.out⟩
    clear Ad W2 hsb
    go_wp2_with fail
    go_roundw
    case rel => exact ⟨k + 1, t2, by omega, by go_num, Ap, Ab, Ax, Aw, HN, Af⟩
    case measure => simp [intOf]; omega
   | false =>
    rw [hsb] at Al
    have AI : p < t2.back.length := by rw [Ab.out.lb]; exact hp
    have AD : m < t2.back.length := by rw [Ab.out.lb]; exact Ah
    have Az := W2.out.fb.get (cJ AI)
    have Bp := W2.out.fb.get (cJ AD)
    have AJ := W2.out.fb.frz p
    have HN : Hid (bL (aN next f) p (l.drop (k + 1)) { t2 with back := t2.back.set p (min (t2.back.getD p 0) (t2.back.getD m 0)) } = R) := hide (by have := Ad.out; unfold dR at this; rw [show (m : Int).toNat = m by omega, show (p : Int).toNat = p by omega, hsb] at this; exact this)
    have Am : Hid (OkW n { t2 with back := t2.back.set p (min (t2.back.getD p 0) (t2.back.getD m 0)) }) := hide ⟨Ab.out.lc, by rw [List.length_set]; exact Ab.out.lb, Ab.out.ls, Ab.out.c0, Ab.out.c1, Ab.out.op, Ab.out.ol, Ab.out.kl, Ab.out.kn⟩
    have W3 := W2.out.back p (min (t2.back.getD p 0) (t2.back.getD m 0))
    rw [← jq] at W3
    have An : B ≤ (wv.setCell ⟨bb, p, none⟩ (.int .i64 (if t2.back.getD m 0 < t2.back.getD p 0 then t2.back.getD m 0 else t2.back.getD p 0))).heap.size := by simp; omega
    have Ao : Hid (WI B W (.slice (some ⟨g6, o6, none⟩) next.length nc) next n cb bb sb { t2 with back := t2.back.set p (min (t2.back.getD p 0) (t2.back.getD m 0)) } ((wv.setCell ⟨bb, p, none⟩ (.int .i64 (if t2.back.getD m 0 < t2.back.getD p 0 then t2.back.getD m 0 else t2.back.getD p 0))).drew)) := hide ⟨_, _, _, by rw [← jq]; exact W3.call (Below.refl _ _).drew An⟩
    have AH := hide ((Af.out.setCell (p := ⟨bb, p, none⟩) W2.out.lo.2.2.1 (.int .i64 (if t2.back.getD m 0 < t2.back.getD p 0 then t2.back.getD m 0 else t2.back.getD p 0))).drew)
    clear Ad W2 W3 hsb Ab
    generalize t2.back.getD p 0 = bp at *
    generalize t2.back.getD m 0 = bm at *
    go_upto_region 9 with fail
    go_region
    go_wp2_with fail
    go_roundw
    case rel => exact ⟨k + 1, _, by omega, by go_num, Ao, Am, Ax, Aw, HN, AH⟩
    case measure => simp [intOf]; omega
  have Bq : (t.came.getD m 0 == 0) = false := beq_eq_false_iff_ne.2 hz
  have Ad := Aq
  rw [if_neg hz] at Ad
  have W2 := hide Ac
  clear Ac Ae Aq
  generalize t.came.getD m 0 = cm at *
  go_upto_region 8 with fail
  clear c0 c1 c2 c3 c4 c5 c6 AA kx
  have AG : m < t.shut.length := by rw [Aa.out.ls]; exact Ah
  have Al := W2.out.fs.get (iG AG)
  obtain ⟨d0, d1, d2, d3, d4, d5, d6⟩ := W2.out.cells
  cases hsb : t.shut.getD m false with
  | true =>
   rw [hsb] at Al
   have HN : Hid (bL (aN next f) p (l.drop (k + 1)) t = R) := hide (by have := Ad.out; unfold dR at this; rw [show (m : Int).toNat = m by omega, hsb] at this; exact this)
   have Ap : Hid (WI B W (.slice (some ⟨g6, o6, none⟩) next.length nc) next n cb bb sb t wr) := hide ⟨_, _, _, W2.out⟩
   clear Ad W2 hsb
   go_wp2_with fail
   go_roundw
   case rel => exact ⟨k + 1, t, by omega, by go_num, Ap, Aa, At, As, HN, Ag⟩
   case measure => simp [intOf]; omega
  | false =>
   rw [hsb] at Al
   have AI : p < t.back.length := by rw [Aa.out.lb]; exact hp
   have AD : m < t.back.length := by rw [Aa.out.lb]; exact Ah
   have Az := W2.out.fb.get (cJ AI)
   have Bp := W2.out.fb.get (cJ AD)
   have AJ := W2.out.fb.frz p
   have HN : Hid (bL (aN next f) p (l.drop (k + 1)) { t with back := t.back.set p (min (t.back.getD p 0) (t.back.getD m 0)) } = R) := hide (by have := Ad.out; unfold dR at this; rw [show (m : Int).toNat = m by omega, show (p : Int).toNat = p by omega, hsb] at this; exact this)
   have Am : Hid (OkW n { t with back := t.back.set p (min (t.back.getD p 0) (t.back.getD m 0)) }) := hide ⟨Aa.out.lc, by rw [List.length_set]; exact Aa.out.lb, Aa.out.ls, Aa.out.c0, Aa.out.c1, Aa.out.op, Aa.out.ol, Aa.out.kl, Aa.out.kn⟩
   have W3 := W2.out.back p (min (t.back.getD p 0) (t.back.getD m 0))
   rw [← jq] at W3
   have An : B ≤ (wr.setCell ⟨bb, p, none⟩ (.int .i64 (if t.back.getD m 0 < t.back.getD p 0 then t.back.getD m 0 else t.back.getD p 0))).heap.size := by simp; omega
   have Ao : Hid (WI B W (.slice (some ⟨g6, o6, none⟩) next.length nc) next n cb bb sb { t with back := t.back.set p (min (t.back.getD p 0) (t.back.getD m 0)) } ((wr.setCell ⟨bb, p, none⟩ (.int .i64 (if t.back.getD m 0 < t.back.getD p 0 then t.back.getD m 0 else t.back.getD p 0))).drew)) := hide ⟨_, _, _, by rw [← jq]; exact W3.call (Below.refl _ _).drew An⟩
   have AH := hide ((Ag.out.setCell (p := ⟨bb, p, none⟩) W2.out.lo.2.2.1 (.int .i64 (if t.back.getD m 0 < t.back.getD p 0 then t.back.getD m 0 else t.back.getD p 0))).drew)
   clear Ad W2 W3 hsb Aa
   generalize t.back.getD p 0 = bp at *
   generalize t.back.getD m 0 = bm at *
   go_upto_region 9 with fail
   go_region
   go_wp2_with fail
   go_roundw
   case rel => exact ⟨k + 1, _, by omega, by go_num, Ao, Am, At, As, HN, AH⟩
   case measure => simp [intOf]; omega
 have AR : k = l.length := by omega
 have AT : Hid (t = R) := hide (by have := Ar.out; rw [AR, List.drop_length] at this; exact this)
 obtain ⟨Bl, Br, Z2, Ac⟩ := Ae.out
 obtain ⟨c0, c1, c2, c3, c4, c5, c6⟩ := Ac.cells
 have BD := Ac.fc.get (cJ (l := t.came) (i := p) (by rw [Aa.out.lc]; exact hp))
 have Az := Ac.fb.get (cJ (l := t.back) (i := p) (by rw [Aa.out.lb]; exact hp))
 clear AR Ar
 by_cases hz : t.back.getD p 0 = t.came.getD p 0
 ·have HE : Hid (aN next (f + 1) p s = i4 p t) := hide (by rw [HFinal.out, ← AT.out]; unfold mh; rw [show (p : Int).toNat = p by omega, if_pos hz])
  have HF : Hid (∀ q, Calls Tryz.prog 168 #[aa W, .int .i64 p] (wr.drewN q) fun e w' => e = .returned (.tuple #[]) ∧ WI B W (.slice (some ⟨g6, o6, none⟩) next.length nc) next n cb bb sb (i4 p t) w' ∧ Below B (wr.drewN q) w') := hide fun q => pT ⟨_, _, _, Ac.call (ah wr q) Ai⟩ Ai Aa.out hn (by obtain ⟨ex, h⟩ := As.out; rw [h]; simp)
  rw [hz] at Az
  clear Ac Ae hz
  generalize t.came.getD p 0 = cp at *
  go_wp2_with fail
  go_quiet (fail)
  go_wp2_with (go_at_call 168; refine (HF.out _).mono ?_; rintro _ wv ⟨rfl, Ak, Aj⟩; have Au := hide Ak; have Bt := hide Aj; clear Ak Aj)
  go_end0
  exact ⟨rfl, by rw [HE.out]; exact Au.out, (Ag.out.trans ((ah wr _).mono Ai)).trans Bt.out⟩
 have Bq : (t.back.getD p 0 == t.came.getD p 0) = false := beq_eq_false_iff_ne.2 hz
 have HE : Hid (aN next (f + 1) p s = t) := hide (by rw [HFinal.out, ← AT.out]; unfold mh; rw [show (p : Int).toNat = p by omega, if_neg hz])
 have HF : Hid (∀ q, WI B W (.slice (some ⟨g6, o6, none⟩) next.length nc) next n cb bb sb t (wr.drewN q)) := hide fun q => ⟨_, _, _, Ac.call (ah wr q) Ai⟩
 clear Ac Ae
 generalize t.came.getD p 0 = cp at *
 generalize t.back.getD p 0 = bp at *
 go_wp2_with fail
 go_quiet (fail)
 go_wp2_with fail
 go_end0
 exact ⟨rfl, by rw [HE.out]; exact HF.out _, Ag.out.trans ((ah wr _).mono Ai)⟩
set_option maxRecDepth 100000
set_option maxHeartbeats 12800000
theorem uh {B W : Nat} {nv : Value} {next : List (List Int)} {n cb bb sb : Nat} (hn : n ≤ 4096) (hnl : next.length = n) (hnx : ∀ (i : Nat) l, next[i]? = some l → ∀ z ∈ l, 0 ≤ z ∧ z < (n : Int)) :
    ∀ (f : Nat) (s : Wk) (w : World) (p : Nat), WI B W nv next n cb bb sb s w → B ≤ w.heap.size → OkW n s → p < n → s.came.getD p 0 = 0 → d9 s.came ≤ f →
     Calls Tryz.prog 141 #[aa W, .int .i64 p] w fun e w' => e = .returned (.tuple #[]) ∧ WI B W nv next n cb bb sb (aN next f p s) w' ∧ Below B w w' := by
 intro f
 induction f with
 | zero =>
  intro s w p _ _ ho hp h0 hu
  exfalso
  have := si (l := s.came) (i := p) (z := 1) (by rw [ho.lc]; exact hp) h0 (by decide)
  omega
 | succ f ih => intro s w p h hB ho hp h0 hu; exact sF hn hnl hnx f ih s w p h hB ho hp h0 hu
theorem my (n : Nat) : OkW n (dk n) := by
 refine ⟨by simp [dk], by simp [dk], by simp [dk], by simp [dk], ?_, by simp [dk], by simp [dk], by simp [dk], by simp [dk]⟩
 show (0 : Int) + (d9 (List.replicate n 0) : Nat) ≤ n
 have : d9 (List.replicate n 0) ≤ n := by unfold d9; exact Nat.le_trans (List.length_filter_le _ _) (by simp)
 omega
theorem aH {P : Program} {t e : TypeId} {i : TypeInfo} {z : Value} (h1 : P.underlying t = some (.slice e)) (h2 : P.info? e = some i) (h3 : i.zero = some z) (h4 : i.size = 1) (h5 : z.cells = #[z]) (n : Nat) (b2 : i.bytes * n ≤ 281474976710656) (b3 : n ≤ maxLen) (w : World) :
    (Instr.makeSlice t (.int .i64 n) (.int .i64 n)).run P w = .ok (.slice (some ⟨w.heap.size, 0, none⟩) n n) (w.alloc (.cells (Array.replicate n z) e)) := by
 have hb' : (i.bytes : Int) * (n : Int) ≤ 281474976710656 := by
  have h : ((i.bytes * n : Nat) : Int) ≤ 281474976710656 := by omega
  rwa [Int.natCast_mul] at h
 have h63' : (n : Int) ≤ 9223372036854775807 := by
  have h := b3
  simp [maxLen] at h
  omega
 have Aa := run_make (P := P) w t e i z h1 h2 h3 .i64 .i64 n n (by omega) (Int.le_refl _) hb' h63'
 rw [h4, Nat.mul_one, h5, qS] at Aa
 simpa using Aa
theorem aJ (w : World) (o0 o1 o2 o3 : Obj) : Below w.heap.size w ((((w.alloc o0).alloc o1).alloc o2).alloc o3).drew ∧ ((((w.alloc o0).alloc o1).alloc o2).alloc o3).drew.heap[w.heap.size]? = some o0 ∧ ((((w.alloc o0).alloc o1).alloc o2).alloc o3).drew.heap[w.heap.size + 1]? = some o1 ∧ ((((w.alloc o0).alloc o1).alloc o2).alloc o3).drew.heap[w.heap.size + 1 + 1]? = some o2 ∧ ((((w.alloc o0).alloc o1).alloc o2).alloc o3).drew.heap[w.heap.size + 1 + 1 + 1]? = some o3 := by
 have b1 := ae w o0
 have s1 : (w.alloc o0).heap.size = w.heap.size + 1 := by simp
 have s2 : ((w.alloc o0).alloc o1).heap.size = w.heap.size + 1 + 1 := by simp
 have s3 : (((w.alloc o0).alloc o1).alloc o2).heap.size = w.heap.size + 1 + 1 + 1 := by simp
 have e0 := heap_alloc_new w o0
 have e1 := heap_alloc_new (w.alloc o0) o1
 have e2 := heap_alloc_new ((w.alloc o0).alloc o1) o2
 have e3 := heap_alloc_new (((w.alloc o0).alloc o1).alloc o2) o3
 rw [s1] at e1
 rw [s2] at e2
 rw [s3] at e3
 have k1 : ∀ g, g < (w.alloc o0).heap.size → ((w.alloc o0).alloc o1).heap[g]? = (w.alloc o0).heap[g]? := fun g hg => Below.heap_alloc _ _ _ hg
 have k2 : ∀ g, g < ((w.alloc o0).alloc o1).heap.size → (((w.alloc o0).alloc o1).alloc o2).heap[g]? = ((w.alloc o0).alloc o1).heap[g]? := fun g hg => Below.heap_alloc _ _ _ hg
 have k3 : ∀ g, g < (((w.alloc o0).alloc o1).alloc o2).heap.size → ((((w.alloc o0).alloc o1).alloc o2).alloc o3).heap[g]? = (((w.alloc o0).alloc o1).alloc o2).heap[g]? := fun g hg => Below.heap_alloc _ _ _ hg
 refine ⟨(((b1.alloc (by omega) _).alloc (by omega) _).alloc (by omega) _).drew, ?_, ?_, ?_, e3⟩
 ·exact (k3 _ (by omega)).trans ((k2 _ (by omega)).trans ((k1 _ (by omega)).trans e0))
 ·exact (k3 _ (by omega)).trans ((k2 _ (by omega)).trans e1)
 exact (k3 _ (by omega)).trans e2
theorem gt {w wc : World} {next : List (List Int)} {na : Option Addr} {nc W cb bb sb : Nat} (h : Lists w.heap.size w next (.slice na next.length nc)) (hb : Below w.heap.size w wc)
    (hW : wc.heap[W]? = some (.cells #[.slice na next.length nc, sl cb next.length, sl bb next.length, .int .i64 0, .slice none 0 0, sl sb next.length, .slice none 0 0] 198 (0, 0)))
    (hc : wc.heap[cb]? = some (.cells (Array.replicate next.length (.int .i64 0)) 3 (0, 0))) (hbb : wc.heap[bb]? = some (.cells (Array.replicate next.length (.int .i64 0)) 3 (0, 0))) (hs : wc.heap[sb]? = some (.cells (Array.replicate next.length (.bool false)) 4 (0, 0)))
    (lo : w.heap.size ≤ W ∧ w.heap.size ≤ cb ∧ w.heap.size ≤ bb ∧ w.heap.size ≤ sb) (ne : cb ≠ bb) : WI w.heap.size W (.slice na next.length nc) next next.length cb bb sb (dk next.length) wc := by
 refine ⟨.slice none 0 0, .slice none 0 0, fun _ => False, ⟨hW, h.keep hb.block, lo, ?_, ?_, ?_, ⟨rfl, .inl ⟨rfl, rfl⟩⟩, ⟨ne, by simp [Value.ownBlock], by simp [Value.ownBlock]⟩, ⟨[], ⟨rfl, .inl ⟨rfl, rfl⟩⟩, fun i k hk => by simp [dk] at hk⟩, fun g hg => hg.elim⟩⟩
 ·unfold Fx; rw [hc, mI]; rfl
 ·unfold Fx; rw [hbb, mI]; rfl
 unfold Fx; rw [hs, pv]; rfl
theorem WI.done {B W : Nat} {nv : Value} {next : List (List Int)} {n cb bb sb : Nat} {s : Wk} {w : World} (h : WI B W nv next n cb bb sb s w) (ho : OkW n s) (hn : n ≤ 4096) : ∃ ka kc, w.cell? ⟨W, 6, none⟩ = some (.slice ka s.knots.length kc) ∧ Lists w.heap.size w s.knots (.slice ka s.knots.length kc) := by
 obtain ⟨ov, kv, Z, hw⟩ := h
 obtain ⟨xs, k1, k2⟩ := hw.rk
 obtain ⟨ka, kc, rfl⟩ := bf k1
 have Ac : s.knots.length ≤ 4096 := by have h1 := ho.kl; have h2 := ho.c1; omega
 refine ⟨ka, kc, hw.cells.2.2.2.2.2.2, ?_⟩
 have hx := dW k1
 have Ab : s.knots.length ≤ kc := by
  rcases k1.2 with ⟨e, h0⟩ | ⟨g, cap, Ad, e, _, _, h5, _⟩
  ·omega
  simp only [Value.slice.injEq] at e; omega
 refine ⟨ka, kc, rfl, Ab, by omega, fun i k hi => ?_⟩
 obtain ⟨v, h3, h4⟩ := k2 i k hi
 obtain ⟨g, o, e, Aa⟩ := hx i v h3
 refine ⟨g, o, [v], e, World.block_lt_of_cell? w _ Aa, rfl, fun j u hu => ?_, v, rfl, h4.rr (fun g hg => (hw.z g hg).2.2.2.2.elim fun vs h => h.lt) fun _ _ h => h⟩
 match j, hu with
 | 0, hu => cases hu; rw [Nat.mul_one, Nat.add_zero]; exact Aa
theorem oT {next : List (List Int)} {n : Nat} (hn : ∀ (i : Nat) l, next[i]? = some l → ∀ z ∈ l, 0 ≤ z ∧ z < (n : Int)) (f : Nat) : ∀ k i s, OkW n s → i + k ≤ n → OkW n (eachM next f k i s)
 | 0, _, _, h, _ => h
 | k + 1, i, s, h, hi => by
  unfold eachM
  by_cases hz : s.came.getD i 0 = 0
  ·rw [if_pos hz]
   exact oT hn f k (i + 1) _ (mL hn f i s h ⟨by omega, by omega⟩ (by simpa using hz)).1 (by omega)
  rw [if_neg hz]
  exact oT hn f k (i + 1) _ h (by omega)
theorem rm {w : World} {next : List (List Int)} {na : Option Addr} {nc : Nat} (h : Lists w.heap.size w next (.slice na next.length nc)) (hn : next.length ≤ 4096) (hnx : ∀ (i : Nat) l, next[i]? = some l → ∀ z ∈ l, 0 ≤ z ∧ z < (next.length : Int)) :
    Calls Tryz.prog 107 #[.slice na next.length nc] w fun e w' => ∃ ka kc, e = .returned (.slice ka (io next).length kc) ∧ Lists w'.heap.size w' (io next) (.slice ka (io next).length kc) ∧ Below w.heap.size w w' := by
 obtain ⟨iI, At, As, Aq, Am⟩ := info_parts gB
 obtain ⟨iB, Ay, Ao, Ap, Au⟩ := info_parts jt
 have An := fun W => aH (P := Tryz.prog) Tryz.underlying26 At As Aq rfl next.length (by rw [Am]; omega) (by unfold maxLen; omega) W
 have Ar := fun W => aH (P := Tryz.prog) Tryz.underlying106 Ay Ao Ap rfl next.length (by rw [Au]; omega) (by unfold maxLen; omega) W
 have HH := hide h
 have Aj := hide hnx
 have Az := h.lim
 obtain ⟨R, hR⟩ : ∃ R, eachM next next.length next.length 0 (dk next.length) = R := ⟨_, rfl⟩
 have AC : Hid (OkW next.length R) := hide (by rw [← hR]; exact oT hnx _ _ _ _ (my _) (by omega))
 have HK : Hid (io next = R.knots) := hide (by unfold io; rw [hR])
 have Ai : Hid (eachM next next.length (next.length - 0) 0 (dk next.length) = R) := hide (by rw [Nat.sub_zero]; exact hR)
 rw [HK.out]
 clear h hnx hR
 go_enter Tryz.func107, Tryz.ntmps107
 go_upto_region 1 with fail
 go_cut [3] from 5 to 16 (fun s wc => ∃ W cb bb sb, s = aa W ∧ Hid (WI w.heap.size W (.slice na next.length nc) next next.length cb bb sb (dk next.length) wc) ∧ Hid (Below w.heap.size w wc))
 case first =>
  go_region
  all_goals (go_wp2_with fail; go_meet)
  ·exact ⟨_, _, _, _, rfl, hide (gt HH.out (aJ w _ _ _ _).1 (aJ w _ _ _ _).2.2.2.2 (aJ w _ _ _ _).2.1 (aJ w _ _ _ _).2.2.1 (aJ w _ _ _ _).2.2.2.1 (by omega) (by omega)), hide (aJ w _ _ _ _).1⟩
  ·exact ⟨_, _, _, _, rfl, hide (gt HH.out (aJ w _ _ _ _).1 (aJ w _ _ _ _).2.2.2.2 (aJ w _ _ _ _).2.1 (aJ w _ _ _ _).2.2.2.1 (aJ w _ _ _ _).2.2.1 (by omega) (by omega)), hide (aJ w _ _ _ _).1⟩
  ·exact ⟨_, _, _, _, rfl, hide (gt HH.out (aJ w _ _ _ _).1 (aJ w _ _ _ _).2.2.2.2 (aJ w _ _ _ _).2.2.1 (aJ w _ _ _ _).2.1 (aJ w _ _ _ _).2.2.2.1 (by omega) (by omega)), hide (aJ w _ _ _ _).1⟩
  ·exact ⟨_, _, _, _, rfl, hide (gt HH.out (aJ w _ _ _ _).1 (aJ w _ _ _ _).2.2.2.2 (aJ w _ _ _ _).2.2.2.1 (aJ w _ _ _ _).2.1 (aJ w _ _ _ _).2.2.1 (by omega) (by omega)), hide (aJ w _ _ _ _).1⟩
  ·exact ⟨_, _, _, _, rfl, hide (gt HH.out (aJ w _ _ _ _).1 (aJ w _ _ _ _).2.2.2.2 (aJ w _ _ _ _).2.2.1 (aJ w _ _ _ _).2.2.2.1 (aJ w _ _ _ _).2.1 (by omega) (by omega)), hide (aJ w _ _ _ _).1⟩
  exact ⟨_, _, _, _, rfl, hide (gt HH.out (aJ w _ _ _ _).1 (aJ w _ _ _ _).2.2.2.2 (aJ w _ _ _ _).2.2.2.1 (aJ w _ _ _ _).2.2.1 (aJ w _ _ _ _).2.1 (by omega) (by omega)), hide (aJ w _ _ _ _).1⟩
 obtain ⟨W, cb, bb, sb, rfl, HW, HB⟩ := hcut
 clear An Ar
 go_wp2_with fail
 go_loopw [19] (fun z wr => ∃ (k : Nat) (t : Wk), k ≤ next.length ∧ z = .int .i64 k ∧ Hid (WI w.heap.size W (.slice na next.length nc) next next.length cb bb sb t wr) ∧ Hid (OkW next.length t) ∧ Hid (eachM next next.length (next.length - k) k t = R) ∧ Hid (Below w.heap.size w wr)) (fun z _ => next.length - (intOf z).toNat)
 case atStart => exact ⟨0, _, by omega, rfl, HW, hide (my _), Ai, HB⟩
 clear Ai HW HB
 obtain ⟨k, t, hk, rfl, Ab, Aa, Ac, Af⟩ := hrel
 by_cases hlt : k < next.length
 ·have Ad : Hid (eachM next next.length (next.length - (k + 1)) (k + 1) (if t.came.getD k 0 = 0 then aN next next.length k t else t) = R) := hide (by have := Ac.out; rw [show next.length - k = (next.length - (k + 1)) + 1 by omega, eachM] at this; exact this)
  obtain ⟨AD, AB, Z2, Ae⟩ := Ab.out
  obtain ⟨c0, c1, c2, c3, c4, c5, c6⟩ := Ae.cells
  have Ax := Ae.fc.get (cJ (l := t.came) (i := k) (by rw [Aa.out.lc]; exact hlt))
  by_cases hz : t.came.getD k 0 = 0
  ·have Ag : d9 t.came ≤ next.length := by have := Aa.out.lc; unfold d9; exact Nat.le_trans (List.length_filter_le _ _) (by omega)
   have CV := hide (uh hn rfl Aj.out next.length t wr k Ab.out Af.out.size Aa.out hlt hz Ag)
   have Al := hide (mL Aj.out next.length k t Aa.out ⟨by omega, by omega⟩ (by simpa using hz)).1
   rw [if_pos hz] at Ad
   rw [hz] at Ax
   clear Ae hz Ac Ab Ag
   go_wp2_with (go_at_call 141; refine CV.out.mono ?_; rintro _ wv ⟨rfl, Ah, Ak⟩; have Aw := hide Ah; have Av := hide (Af.out.trans Ak); clear Ah Ak)
   go_roundw
   case rel => exact ⟨k + 1, _, by omega, by go_num, Aw, Al, Ad, Av⟩
   case measure => simp [intOf]; omega
  have AA : (t.came.getD k 0 == 0) = false := beq_eq_false_iff_ne.2 hz
  rw [if_neg hz] at Ad
  clear Ae Ac
  generalize t.came.getD k 0 = cm at *
  go_wp2_with fail
  go_roundw
  case rel => exact ⟨k + 1, t, by omega, by go_num, Ab, Aa, Ad, Af⟩
  case measure => simp [intOf]; omega
 have HE : Hid (t = R) := hide (by have := Ac.out; rw [show next.length - k = 0 by omega] at this; exact this)
 obtain ⟨ka, kc, q1, q2⟩ := Ab.out.done Aa.out hn
 have HQ := hide q2
 clear q2 Ac Ab
 go_wp2_with fail
 go_ret
 rw [← HE.out]
 exact ⟨ka, kc, rfl, HQ.out, Af.out⟩
set_option maxRecDepth 100000
set_option maxHeartbeats 12800000
theorem qD {T : Th} (hb : (dY T).1 = 0) : ∀ (i : Nat) l, T.beats[i]? = some l → ∀ z ∈ l, 0 ≤ z ∧ z < (T.beats.length : Int) := fun i l hl z hz => by
 obtain ⟨b1, b2⟩ := oP hb
 have := (fH.1 (b2 i l hl).1).1 z hz
 rw [b1]
 omega
theorem nW {w : World} {T : Th} {fa ra ba : Option Addr} {fc rc bc : Nat} (h : TA w.heap.size w T fa fc ra rc ba bc) (hru : (dL T).1 = 0) (hb : (dY T).1 = 0) :
    Calls Tryz.prog 75 #[tv T fa fc ra rc ba bc] w fun e w' => e = .returned (iN (bM T)) ∧ Below w.heap.size w w' := by
 have hB := ae w (.cells #[.int .i64 T.lits, .slice fa T.foes.length fc, .slice ra T.rules.length rc, .slice ba T.beats.length bc] 25)
 have hX := heap_alloc_new w (.cells #[.int .i64 T.lits, .slice fa T.foes.length fc, .slice ra T.rules.length rc, .slice ba T.beats.length bc] 25)
 have hL := TR.go hB h
 have Am := (lI hru).1
 have Aj := (oP hb).1
 have CK := hide (rm hL.beats (by omega) (qD hb))
 obtain ⟨r, hr⟩ : ∃ r, bM T = r := ⟨_, rfl⟩
 obtain ⟨L, Af⟩ : ∃ L, lA T = L := ⟨_, rfl⟩
 rw [hr]
 unfold bM at hr
 rw [Af] at hr
 have HR := hide hr
 generalize hks : io T.beats = ks at *
 have Ah : Hid ((ks.drop 0).foldl jf T.rules.length = L) := hide (by rw [List.drop_zero, ← hks]; exact Af)
 have HB := hide hB
 clear h hru hb hB hL Aj hr Af hks
 go_enter Tryz.func75, Tryz.ntmps75
 go_upto_region 1 with fail
 generalize w.alloc (.cells #[.int .i64 T.lits, .slice fa T.foes.length fc, .slice ra T.rules.length rc, .slice ba T.beats.length bc] 25) = W at *
 obtain ⟨-, c0, c1, c2, c3⟩ := Bt.of hX
 have HX := hide hX
 clear hX
 go_wp2_with (go_at_call 107; refine CK.out.mono ?_; rintro _ w1 ⟨ka, kc, rfl, Ac, Ae⟩; have Ag := hide (HB.out.trans (Ae.mono HB.out.size)); have HXb := hide ((Ae.block _ (aD HX.out)).trans HX.out); have HKs := hide Ac; have Al := Ac.lim; clear Ae Ac)
 clear c0 c1 c2 c3 HX
 go_loop [4, 14] (fun y x => ∃ (k : Nat) (z : Int), k ≤ ks.length ∧ x = .int .i64 k ∧ y = .int .i64 z ∧ Hid ((ks.drop k).foldl jf z = L)) (fun _ x => ks.length - (intOf x).toNat)
 case atStart => exact ⟨0, T.rules.length, by omega, rfl, rfl, Ah⟩
 clear Ah
 obtain ⟨k, z, hk, rfl, rfl, HK⟩ := hrel
 by_cases hlt : k < ks.length
 ·obtain ⟨kn, Ab⟩ := am hlt
  obtain ⟨g, of, a2, d2, rfl, -, Ak, -, Ai, hI⟩ := bH HKs.out Ab
  have HN : Hid ((ks.drop (k + 1)).foldl jf (jf z kn) = L) := hide (by have := HK.out; rw [aM Ab, List.foldl_cons] at this; exact this)
  by_cases h1 : 1 < kn.length
  ·have CM := hide (xw (c := d2) hI.at1 Ai (by omega))
   have Ad : Hid ((ks.drop (k + 1)).foldl jf (min z (minM kn)) = L) := hide (by have := HN.out; unfold jf at this; rw [if_pos h1] at this; exact this)
   clear HK HN hI Ab
   generalize minM kn = mk at *
   go_wp2_with (go_at_call 108; refine CM.out.mono ?_; rintro _ w2 ⟨rfl, hw⟩; subst w2)
   go_round
   case rel => exact ⟨k + 1, min z mk, by omega, by go_num, by rw [jq], Ad⟩
   case measure => simp [intOf]; omega
  have Ad : Hid ((ks.drop (k + 1)).foldl jf z = L) := hide (by have := HN.out; rw [show jf z kn = z by unfold jf; rw [if_neg h1]] at this; exact this)
  clear HK HN hI Ab
  go_wp2_with fail
  go_round
  case rel => exact ⟨k + 1, z, by omega, by go_num, rfl, Ad⟩
  case measure => simp [intOf]; omega
 have HN : Hid (z = L) := hide (by have := HK.out; rw [bV (by omega)] at this; exact this)
 obtain ⟨-, c0, c1, c2, c3⟩ := Bt.of HXb.out
 have Aa := HR.out
 rw [← HN.out] at Aa
 clear HK HN HR
 by_cases hz : z < (T.rules.length : Int)
 ·rw [if_pos hz] at Aa
  have HE := hide Aa
  clear Aa
  go_wp2_with fail
  go_ret2
  exact ⟨aU HE.out, Ag.out⟩
 rw [if_neg hz] at Aa
 have HE := hide Aa
 clear Aa
 go_wp2_with fail
 go_ret2
 exact ⟨aU HE.out, Ag.out⟩
def uf (T : Th) : Nat → Int × Int
 | 0 => eP (gh T) (eP (dL T) (eP (gC T) (eP (dY T) (bM T))))
 | 1 => eP (dL T) (eP (gC T) (eP (dY T) (bM T)))
 | 2 => eP (gC T) (eP (dY T) (bM T))
 | 3 => eP (dY T) (bM T)
 | 4 => eP (bM T) (0, 0)
 | _ => (0, 0)
theorem rp {T : Th} (h : (bM T).1 = 0) : bM T = (0, 0) := by
 unfold bM at h ⊢
 split
 ·rename_i h1; rw [if_pos h1] at h; cases h
 rfl
theorem yY {T : Th} : bM T = uf T 4 := by
 show bM T = eP (bM T) (0, 0)
 unfold eP
 split
 ·rename_i h; exact rp h
 rfl
structure qo (T : Th) (k : Nat) (res : Int × Int) : Prop where
 f : 1 ≤ k → (gh T).1 = 0
 r : 2 ≤ k → (dL T).1 = 0
 b : 4 ≤ k → (dY T).1 = 0
 c : uf T k = res
theorem kB {a : Int × Int} {b r : Int × Int} (h : eP a b = r) (ha : a.1 ≠ 0) : a = r := by unfold eP at h; rw [if_neg ha] at h; exact h
theorem kZ {a : Int × Int} {b r : Int × Int} (h : eP a b = r) (ha : a.1 = 0) : b = r := by unfold eP at h; rw [if_pos ha] at h; exact h
theorem check_any {w : World} {T : Th} {fa ra ba : Option Addr} {fc rc bc : Nat} (h : TA w.heap.size w T fa fc ra rc ba bc) :
    Calls Tryz.prog 38 #[tv T fa fc ra rc ba bc] w fun e w' => e = .returned (iN (cO T)) ∧ Below w.heap.size w w' := by
 have hB := ae w (.cells #[.int .i64 T.lits, .slice fa T.foes.length fc, .slice ra T.rules.length rc, .slice ba T.beats.length bc] 25)
 have hX := heap_alloc_new w (.cells #[.int .i64 T.lits, .slice fa T.foes.length fc, .slice ra T.rules.length rc, .slice ba T.beats.length bc] 25)
 obtain ⟨r, hr⟩ : ∃ r, cO T = r := ⟨_, rfl⟩
 rw [hr]
 unfold cO at hr
 have HB := hide hB
 have HH := hide h
 clear h hB
 by_cases hlit : T.lits < 0 ∨ 4096 < T.lits
 ·rw [if_pos hlit] at hr
  have HR := hide hr
  clear hr
  have Ap : T.lits < 0 ∨ (0 ≤ T.lits ∧ 4096 < T.lits) := by omega
  clear hlit
  go_enter Tryz.func38, Tryz.ntmps38
  go_upto_region 1 with fail
  generalize w.alloc (.cells #[.int .i64 T.lits, .slice fa T.foes.length fc, .slice ra T.rules.length rc, .slice ba T.beats.length bc] 25) = W at *
  obtain ⟨-, c0, c1, c2, c3⟩ := Bt.of hX
  rcases Ap with h1 | ⟨h1, h2⟩
  all_goals
   go_wp2_with fail
   go_ret2
   exact ⟨aU HR.out, HB.out⟩
 rw [if_neg hlit] at hr
 have h0 : 0 ≤ T.lits := by omega
 have h1 : T.lits ≤ 4096 := by omega
 have Am : Hid (qo T 0 r) := hide ⟨fun h => by omega, fun h => by omega, fun h => by omega, hr⟩
 clear hr hlit
 go_enter Tryz.func38, Tryz.ntmps38
 go_upto_region 1 with fail
 generalize w.alloc (.cells #[.int .i64 T.lits, .slice fa T.foes.length fc, .slice ra T.rules.length rc, .slice ba T.beats.length bc] 25) = W at *
 obtain ⟨-, c0, c1, c2, c3⟩ := Bt.of hX
 have HX := hide hX
 clear hX
 have hA := ae W (.cells #[.func (.func 71) #[] #[], .func (.func 72) #[] #[], .func (.func 73) #[] #[], .func (.func 74) #[] #[], .func (.func 75) #[] #[]] 80)
 have HF := hide (heap_alloc_new W (.cells #[.func (.func 71) #[] #[], .func (.func 72) #[] #[], .func (.func 73) #[] #[], .func (.func 74) #[] #[], .func (.func 75) #[] #[]] 80))
 have Ao := hide ((hA.block _ (aD HX.out)).trans HX.out)
 have Al := hide (HB.out.trans (hA.mono HB.out.size))
 clear HX hA HB
 go_upto_region 3 with fail
 go_wp2_with fail
 generalize W.alloc (.cells #[.func (.func 71) #[] #[], .func (.func 72) #[] #[], .func (.func 73) #[] #[], .func (.func 74) #[] #[], .func (.func 75) #[] #[]] 80) = W2 at *
 clear c0 c1 c2 c3
 go_loopw [18] (fun x wr => ∃ k : Nat, k ≤ 5 ∧ x = .int .i64 k ∧ Hid (qo T k r) ∧ Hid (Below W2.heap.size W2 wr)) (fun x _ => 5 - (intOf x).toNat)
 case atStart => exact ⟨0, by omega, rfl, Am, hide (Below.refl _ _)⟩
 clear Am
 obtain ⟨k, hk, rfl, HS, HW⟩ := hrel
 have An := (HW.out.block _ (aD Ao.out)).trans Ao.out
 have Ae := (HW.out.block _ (aD HF.out)).trans HF.out
 obtain ⟨-, c0, c1, c2, c3⟩ := Bt.of An
 have f0 := cell_of_row wr _ 0 _ _ _ Ae
 have f1 := cell_of_row wr _ 1 _ _ _ Ae
 have f2 := cell_of_row wr _ 2 _ _ _ Ae
 have f3 := cell_of_row wr _ 3 _ _ _ Ae
 have f4 := cell_of_row wr _ 4 _ _ _ Ae
 simp only [List.getElem?_toArray, List.getElem?_cons_zero, List.getElem?_cons_succ] at f0 f1 f2 f3 f4
 have Aj := hide (Al.out.trans (HW.out.mono Al.out.size))
 have Ag := hide (TR.go Aj.out HH.out)
 have Ah := hide (fun (X : World) (hX : Below wr.heap.size wr X) => HW.out.trans (hX.mono HW.out.size))
 have Ai := hide (fun (X : World) (hX : Below wr.heap.size wr X) => Aj.out.trans (hX.mono Aj.out.size))
 clear An Ae
 have Ak : k = 0 ∨ k = 1 ∨ k = 2 ∨ k = 3 ∨ k = 4 ∨ k = 5 := by omega
 rcases Ak with rfl | rfl | rfl | rfl | rfl | rfl
 ·obtain ⟨a, b, Aa⟩ : ∃ a b, gh T = (a, b) := ⟨_, _, rfl⟩
  have CF := hide (pL Ag.out)
  rw [Aa] at CF
  unfold iN at CF
  simp only at CF
  by_cases ha : a = 0
  ·have Ad : (gh T).1 = 0 := by rw [Aa]; exact ha
   have HN : Hid (qo T 1 r) := hide ⟨fun _ => Ad, fun h => by omega, fun h => by omega, kZ HS.out.c Ad⟩
   subst ha
   clear Aa Ad HS
   go_wp2_with (go_at_call 71; refine CF.out.mono ?_; rintro _ w1 ⟨rfl, Ab⟩; have Ac := hide (Ah.out w1 Ab); clear Ab)
   go_roundw
   case rel => exact ⟨1, by omega, by go_num, HN, Ac⟩
   case measure => simp [intOf]
  have HN : Hid ((a, b) = r) := hide (by rw [← Aa]; exact kB HS.out.c (by rw [Aa]; exact ha))
  have Af : (a != 0) = true := by simpa using ha
  clear Aa HS
  go_wp2_with (go_at_call 71; refine CF.out.mono ?_; rintro _ w1 ⟨rfl, Ab⟩; have Ac := hide (Ai.out w1 Ab); clear Ab)
  go_ret2
  exact ⟨aU HN.out, Ac.out⟩
 ·obtain ⟨a, b, Aa⟩ : ∃ a b, dL T = (a, b) := ⟨_, _, rfl⟩
  have CF := hide (pD Ag.out)
  rw [Aa] at CF
  unfold iN at CF
  simp only at CF
  by_cases ha : a = 0
  ·have Ad : (dL T).1 = 0 := by rw [Aa]; exact ha
   have HN : Hid (qo T 2 r) := hide ⟨fun _ => HS.out.f (by omega), fun _ => Ad, fun h => by omega, kZ HS.out.c Ad⟩
   subst ha
   clear Aa Ad HS
   go_wp2_with (go_at_call 72; refine CF.out.mono ?_; rintro _ w1 ⟨rfl, Ab⟩; have Ac := hide (Ah.out w1 Ab); clear Ab)
   go_roundw
   case rel => exact ⟨2, by omega, by go_num, HN, Ac⟩
   case measure => simp [intOf]
  have HN : Hid ((a, b) = r) := hide (by rw [← Aa]; exact kB HS.out.c (by rw [Aa]; exact ha))
  have Af : (a != 0) = true := by simpa using ha
  clear Aa HS
  go_wp2_with (go_at_call 72; refine CF.out.mono ?_; rintro _ w1 ⟨rfl, Ab⟩; have Ac := hide (Ai.out w1 Ab); clear Ab)
  go_ret2
  exact ⟨aU HN.out, Ac.out⟩
 ·obtain ⟨a, b, Aa⟩ : ∃ a b, gC T = (a, b) := ⟨_, _, rfl⟩
  have CF := hide (pC Ag.out h0 h1 (HS.out.f (by omega)) (HS.out.r (by omega)))
  rw [Aa] at CF
  unfold iN at CF
  simp only at CF
  by_cases ha : a = 0
  ·have Ad : (gC T).1 = 0 := by rw [Aa]; exact ha
   have HN : Hid (qo T 3 r) := hide ⟨fun _ => HS.out.f (by omega), fun _ => HS.out.r (by omega), fun h => by omega, kZ HS.out.c Ad⟩
   subst ha
   clear Aa Ad HS
   go_wp2_with (go_at_call 73; refine CF.out.mono ?_; rintro _ w1 ⟨rfl, Ab⟩; have Ac := hide (Ah.out w1 Ab); clear Ab)
   go_roundw
   case rel => exact ⟨3, by omega, by go_num, HN, Ac⟩
   case measure => simp [intOf]
  have HN : Hid ((a, b) = r) := hide (by rw [← Aa]; exact kB HS.out.c (by rw [Aa]; exact ha))
  have Af : (a != 0) = true := by simpa using ha
  clear Aa HS
  go_wp2_with (go_at_call 73; refine CF.out.mono ?_; rintro _ w1 ⟨rfl, Ab⟩; have Ac := hide (Ai.out w1 Ab); clear Ab)
  go_ret2
  exact ⟨aU HN.out, Ac.out⟩
 ·obtain ⟨a, b, Aa⟩ : ∃ a b, dY T = (a, b) := ⟨_, _, rfl⟩
  have CF := hide (pF Ag.out (HS.out.f (by omega)) (HS.out.r (by omega)))
  rw [Aa] at CF
  unfold iN at CF
  simp only at CF
  by_cases ha : a = 0
  ·have Ad : (dY T).1 = 0 := by rw [Aa]; exact ha
   have HN : Hid (qo T 4 r) := hide ⟨fun _ => HS.out.f (by omega), fun _ => HS.out.r (by omega), fun _ => Ad, by rw [← yY]; exact kZ HS.out.c Ad⟩
   subst ha
   clear Aa Ad HS
   go_wp2_with (go_at_call 74; refine CF.out.mono ?_; rintro _ w1 ⟨rfl, Ab⟩; have Ac := hide (Ah.out w1 Ab); clear Ab)
   go_roundw
   case rel => exact ⟨4, by omega, by go_num, HN, Ac⟩
   case measure => simp [intOf]
  have HN : Hid ((a, b) = r) := hide (by rw [← Aa]; exact kB HS.out.c (by rw [Aa]; exact ha))
  have Af : (a != 0) = true := by simpa using ha
  clear Aa HS
  go_wp2_with (go_at_call 74; refine CF.out.mono ?_; rintro _ w1 ⟨rfl, Ab⟩; have Ac := hide (Ai.out w1 Ab); clear Ab)
  go_ret2
  exact ⟨aU HN.out, Ac.out⟩
 ·obtain ⟨a, b, Aa⟩ : ∃ a b, bM T = (a, b) := ⟨_, _, rfl⟩
  have CF := hide (nW Ag.out (HS.out.r (by omega)) (HS.out.b (by omega)))
  rw [Aa] at CF
  unfold iN at CF
  simp only at CF
  by_cases ha : a = 0
  ·have Ad : (bM T).1 = 0 := by rw [Aa]; exact ha
   have HN : Hid (qo T 5 r) := hide ⟨fun _ => HS.out.f (by omega), fun _ => HS.out.r (by omega), fun _ => HS.out.b (by omega), kZ HS.out.c Ad⟩
   subst ha
   clear Aa Ad HS
   go_wp2_with (go_at_call 75; refine CF.out.mono ?_; rintro _ w1 ⟨rfl, Ab⟩; have Ac := hide (Ah.out w1 Ab); clear Ab)
   go_roundw
   case rel => exact ⟨5, by omega, by go_num, HN, Ac⟩
   case measure => simp [intOf]
  have HN : Hid ((a, b) = r) := hide (by rw [← Aa]; exact kB HS.out.c (by rw [Aa]; exact ha))
  have Af : (a != 0) = true := by simpa using ha
  clear Aa HS
  go_wp2_with (go_at_call 75; refine CF.out.mono ?_; rintro _ w1 ⟨rfl, Ab⟩; have Ac := hide (Ai.out w1 Ab); clear Ab)
  go_ret2
  exact ⟨aU HN.out, Ac.out⟩
 have HE := hide HS.out.c
 clear HS
 go_wp2_with fail
 go_ret2
 exact ⟨aU HE.out, Aj.out⟩
end Go.Proofs.YtmlhcncagdfjfaaGreat
