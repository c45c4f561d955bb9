/- Literals. -/
import Derived.Test.YtbdlgglbcaoakaaGreatArgu8
namespace Go.Proofs.YtbdlgglbcaoakaaGreat
open Go.RowKit Go.Shelf Go.Maps Go.WideMaps

/-- How a call ends that answers a ground literal. -/
def El (Z : Nat → Prop) (V M : Nat) (it : Int) (X : World) (o : Er (Scope × List Nat)) (e : Ending) (X' : World) : Prop := Fr Z X X' ∧ match o with
  | .ok x => (∃ u, e = .returned u) ∧ ∃ nv kv, Scp Z V M nv kv x.1 X'
  | .error c => e = .panicked [fl c it]
theorem El.bad {Z : Nat → Prop} {V M : Nat} {it : Int} {X : World} {o : Er (Scope × List Nat)} {c : Int} {X' : World} (h : .error c = o) (hf : Fr Z X X') : El Z V M it X o (.panicked [fl c it]) X' := by subst h; exact ⟨hf, rfl⟩
theorem El.ok {Z : Nat → Prop} {V M : Nat} {it : Int} {X : World} {o : Er (Scope × List Nat)} {x : Scope × List Nat} {u : Value} {X' : World} (h : .ok x = o) (hf : Fr Z X X') (hs : ∃ nv kv, Scp Z V M nv kv x.1 X') : El Z V M it X o (.returned u) X' := by subst h; exact ⟨hf, ⟨u, rfl⟩, hs⟩
theorem El.no {Z : Nat → Prop} {V M : Nat} {it : Int} {X : World} {o : Er (Scope × List Nat)} {e : Ending} {X' : World} (h : El Z V M it X o e X') : (∃ c, o = .error c ∧ e = .panicked [fl c it] ∧ Fr Z X X') ∨ (∃ v' ms u, o = .ok (v', ms) ∧ e = .returned u ∧ (∃ nv kv, Scp Z V M nv kv v' X') ∧ Fr Z X X') := by
  obtain ⟨hf, h⟩ := h
  cases o with
  | ok x => obtain ⟨⟨u, h1⟩, h3⟩ := h; exact .inr ⟨x.1, x.2, u, rfl, h1, h3, hf⟩
  | error c => exact .inl ⟨c, rfl, h, hf⟩

section
variable {W0 : World} {R : Nat} {S : StatM} {st : St9} {mp : Mp8} {it : Nat} {seen : List Bytes} {Z : Nat → Prop} {V M rb vb : Nat} {v : Scope} {X : World}
theorem findPredM_mem {C : Ctx} {s : Bytes} {p : PredM} (h : findPredM C s = .ok p) : p ∈ C.preds := by
  unfold findPredM at h
  cases hf : findM C.names s 82 with
  | error c => rw [hf] at h; cases h
  | ok m =>
    rw [hf] at h
    have h2 : (Except.ok (C.preds.getD m noPred) : Er PredM) = .ok p := h
    injection h2 with h3
    have hm : m < C.preds.length := by simpa [Ctx.names] using (find_ok hf).2.2
    rw [← h3, List.getD_eq_getElem?_getD, List.getElem?_eq_getElem hm]
    exact List.getElem_mem hm
theorem five_set {W : World} {q T : Nat} {y0 y1 y2 y3 y4 v0 v1 v2 v3 v4 : Value} (h : W.heap[q]? = some (.cells #[y0, y1, y2, y3, y4] T (0, 0))) (Y : World) (hY : Y = ((((W.setCell ⟨q, 0, none⟩ v0).setCell ⟨q, 1, none⟩ v1).setCell ⟨q, 2, none⟩ v2).setCell ⟨q, 3, none⟩ v3).setCell ⟨q, 4, none⟩ v4) :
    Y.cell? ⟨q, 0, none⟩ = some v0 ∧ Y.cell? ⟨q, 1, none⟩ = some v1 ∧ Y.cell? ⟨q, 2, none⟩ = some v2 ∧ Y.cell? ⟨q, 3, none⟩ = some v3 ∧ Y.cell? ⟨q, 4, none⟩ = some v4 := by
  have s0 := loc_set (i := 0) (v := v0) h
  have s1 := loc_set (i := 1) (v := v1) s0
  have s2 := loc_set (i := 2) (v := v2) s1
  have s3 := loc_set (i := 3) (v := v3) s2
  have s4 := loc_set (i := 4) (v := v4) s3
  simp only [List.setIfInBounds_toArray, List.set_cons_zero, List.set_cons_succ] at s4
  rw [← hY] at s4
  exact ⟨cell_of_row Y q 0 _ T _ s4, cell_of_row Y q 1 _ T _ s4, cell_of_row Y q 2 _ T _ s4, cell_of_row Y q 3 _ T _ s4, cell_of_row Y q 4 _ T _ s4⟩
theorem lit_end {Z1 : Nat → Prop} {v2 : Scope} {ms : List Nat} {w2 : World} {o : Er (Scope × List Nat)} {b : Nat} (h2 : Rx W0 R S st mp it seen Z1 V M rb vb v2 w2) (hz : ∀ k, Z1 k → Z k) (hF : Fr Z X w2) (hb : ¬ Z1 b) (hzb : Z b) (ho : .ok (v2, ms) = o) (nq : Nat) (u u0 u1 u2 u3 u4 : Value) :
    El Z V M it X o (.returned u) ((((((w2.drewN nq).setCell ⟨b, 0, none⟩ u0).setCell ⟨b, 1, none⟩ u1).setCell ⟨b, 2, none⟩ u2).setCell ⟨b, 3, none⟩ u3).setCell ⟨b, 4, none⟩ u4) := by
  obtain ⟨nv, kv, hs⟩ := h2.scp
  refine El.ok ho ((((((hF.trans (.of_below (below_drewN w2 nq))).trans (.setCell ⟨b, 0, none⟩ u0 hzb)).trans (.setCell ⟨b, 1, none⟩ u1 hzb)).trans (.setCell ⟨b, 2, none⟩ u2 hzb)).trans (.setCell ⟨b, 3, none⟩ u3 hzb)).trans (.setCell ⟨b, 4, none⟩ u4 hzb)) ⟨nv, kv, (hs.keep fun k hk _ => ?_).mono fun k _ => hz k⟩
  have hkb : k ≠ b := fun e => hb (e ▸ hk)
  rw [heap_setCell_other _ _ k _ hkb, heap_setCell_other _ _ k _ hkb, heap_setCell_other _ _ k _ hkb, heap_setCell_other _ _ k _ hkb, heap_setCell_other _ _ k _ hkb]
  rfl
abbrev litV (l : LitM) (aa : Option Addr) (ac : Nat) : Array Value := #[.bool l.neg, .string ⟨l.pred.toArray⟩, .slice aa l.args.length ac, .bool l.hasValue, .int .i64 l.value]

set_option maxRecDepth 100000 in
set_option maxHeartbeats 12800000 in
theorem lit_any (h : Rx W0 R S st mp it seen Z V M rb vb v X) (hp4 : ∀ p ∈ S.preds, p.kinds.length ≤ 4) (l : LitM) {aa : Option Addr} {ac : Nat} (hpr : l.pred.length ≤ maxLen) (hl : Strs R W0 l.args (.slice aa l.args.length ac)) (hv : v.length + 4 ≤ 4096) :
    Calls Tryz.prog 114 #[ptr R, .agg (litV l aa ac), .func (.func 112) #[] #[ptr rb, ptr vb]] X fun e X' => El Z V M it X (literalM S.ctx v l) e X' := by
  have hA : Below X.heap.size X ((X.alloc (.cells (litV l aa ac) 47)).alloc (.cells #[.bool false, .int .i64 0, .slice none 0 0, .int .i64 0, .int .i64 0] 196)) := ((Below.refl _ _).alloc (Nat.le_refl _) _).alloc (by simp) _
  have h1 := h.below hA
  have CP := hide (findPred_any h1.res l.pred hpr)
  have H := hide h
  have HA := hide hA
  have hb0 := ((Below.refl (X.alloc (.cells (litV l aa ac) 47)).heap.size (X.alloc (.cells (litV l aa ac) 47))).alloc (Nat.le_refl _) (.cells #[.bool false, .int .i64 0, .slice none 0 0, .int .i64 0, .int .i64 0] 196)).block X.heap.size (by simp)
  have hb := hb0.trans (heap_alloc_new X (.cells (litV l aa ac) 47))
  have HB := hide hb
  have hr0 := heap_alloc_new (X.alloc (.cells (litV l aa ac) 47)) (.cells #[.bool false, .int .i64 0, .slice none 0 0, .int .i64 0, .int .i64 0] 196)
  have hsz : (X.alloc (.cells (litV l aa ac) 47)).heap.size = X.heap.size + 1 := by simp
  rw [hsz] at hr0
  have HR0 := hide hr0
  have b1 := cell_of_row _ X.heap.size 1 _ _ _ hb
  simp only [List.getElem?_toArray, List.getElem?_cons_zero, List.getElem?_cons_succ] at b1
  obtain ⟨o, ho⟩ : ∃ o, literalM S.ctx v l = o := ⟨_, rfl⟩
  rw [ho]
  have HO := hide ho
  unfold literalM at HO
  unfold str at CP
  have HL := hide hl
  have HP4 := hide hp4
  clear h h1 hA hb0 hb hr0 hsz ho hl hp4
  go_enter Tryz.func114, Tryz.ntmps114
  go_wp2_with fail
  refine CP.out.mono ?_
  intro e w1 hE
  rcases hE.no with ⟨c1, h3, rfl, hb⟩ | ⟨p, u, h3, rfl, hrp, hb⟩
  · exact on_panic rfl (El.bad (ex_no HO.out h3) (.of_below (HA.out.trans (hb.mono HA.out.size))))
  obtain ⟨ka, kc, va, vc, rfl, hpn, hpk, hpv⟩ := hrp
  have HO1 := hide (ex_go HO.out h3)
  have HPM := hide (HP4.out p (findPredM_mem h3))
  have hA1 : Below w1.heap.size w1 (w1.alloc (.cells (predV p ka kc va vc) 119)) := (Below.refl _ _).alloc (Nat.le_refl _) _
  have hB1 : Below X.heap.size X (w1.alloc (.cells (predV p ka kc va vc) 119)) := (HA.out.trans (hb.mono HA.out.size)).trans (hA1.mono (Nat.le_trans HA.out.size hb.size))
  have hX1 := H.out.fit (X1 := w1.alloc (.cells (predV p ka kc va vc) 119)) (fun k hk _ => hB1.block k hk) hB1.size ⟨hB1.os, hB1.tape, hB1.output⟩
  have HX1 := hide hX1
  have HF1 := hide (show Fr Z X (w1.alloc (.cells (predV p ka kc va vc) 119)) from .of_below hB1)
  have hs1 : X.heap.size + 2 ≤ w1.heap.size := by have := hb.size; simp at this; omega
  have hlb := (hA1.block X.heap.size (by omega)).trans ((hb.block X.heap.size (by first | (simp; done) | (simp; omega))).trans HB.out)
  have hrb := (hA1.block (X.heap.size + 1) (by omega)).trans ((hb.block (X.heap.size + 1) (by first | (simp; done) | (simp; omega))).trans HR0.out)
  have hpb := heap_alloc_new w1 (.cells (predV p ka kc va vc) 119)
  have HLB := hide hlb
  have HRB := hide hrb
  have HPB := hide hpb
  have HZ1 : Hid (∀ k, ((Z k ∧ k < X.heap.size) ∨ (w1.alloc (.cells (predV p ka kc va vc) 119)).heap.size ≤ k) → Z k) := by
    rintro k (a | a)
    · exact a.1
    · exact H.out.new k (by have := hB1.size; omega)
  have HN1 : Hid (¬ ((Z X.heap.size ∧ X.heap.size < X.heap.size) ∨ (w1.alloc (.cells (predV p ka kc va vc) 119)).heap.size ≤ X.heap.size)) := by rintro (a | a); exact absurd a.2 (Nat.lt_irrefl _); simp at a; omega
  have HN2 : Hid (¬ ((Z (X.heap.size + 1) ∧ X.heap.size + 1 < X.heap.size) ∨ (w1.alloc (.cells (predV p ka kc va vc) 119)).heap.size ≤ X.heap.size + 1)) := by rintro (a | a); exact absurd a.2 (by omega); simp at a; omega
  have HN3 : Hid (¬ ((Z w1.heap.size ∧ w1.heap.size < X.heap.size) ∨ (w1.alloc (.cells (predV p ka kc va vc) 119)).heap.size ≤ w1.heap.size)) := by rintro (a | a); exact absurd a.2 (by omega); simp at a; omega
  have hRX : R < X.heap.size := World.block_lt_of_cell? X _ H.out.clo.c9
  have HKS : Hid (Strs R W0 p.kinds (.slice ka p.kinds.length kc)) := hide (hpk.keep fun g hg => ((hb.block g (by first | (simp; done) | (simp; omega))).trans ((HA.out.block g (by omega)).trans (H.out.at0 g hg))).symm)
  have HVS : Hid (Moneys R W0 p.values (.slice va p.values.length vc)) := hide (hpv.keep fun g hg => ((hb.block g (by first | (simp; done) | (simp; omega))).trans ((HA.out.block g (by omega)).trans (H.out.at0 g hg))).symm)
  have hvl : p.values.length ≤ 140737488351232 := by obtain ⟨_, _, _, _, h⟩ := hpv.form; exact h
  have p1 := cell_of_row _ w1.heap.size 1 _ _ _ hpb
  have p0 := cell_of_row _ w1.heap.size 0 _ _ _ hpb
  have p2 := cell_of_row _ w1.heap.size 2 _ _ _ hpb
  have p3 := cell_of_row _ w1.heap.size 3 _ _ _ hpb
  have l2 := cell_of_row _ X.heap.size 2 _ _ _ hlb
  simp only [List.getElem?_toArray, List.getElem?_cons_zero, List.getElem?_cons_succ] at p0 p1 p2 p3 l2
  have CW1 := hide (fun b c => want_any hX1.res.c9 b c)
  have CA := hide (args_any (va := va) (vc := vc) hX1 p HKS.out HPM.out l.args HL.out hv)
  generalize hZ1 : (fun k => (Z k ∧ k < X.heap.size) ∨ (w1.alloc (.cells (predV p ka kc va vc) 119)).heap.size ≤ k) = Z1 at HX1 CA
  have hz1 : ∀ k, Z1 k → Z k := by rw [← hZ1]; exact HZ1.out
  have n1 : ¬ Z1 X.heap.size := by rw [← hZ1]; exact HN1.out
  have n2 : ¬ Z1 (X.heap.size + 1) := by rw [← hZ1]; exact HN2.out
  have n3 : ¬ Z1 w1.heap.size := by rw [← hZ1]; exact HN3.out
  have HZZ := hide hz1
  have HNN := hide (And.intro n1 (And.intro n2 n3))
  simp only [litV, predV] at *
  clear hE h3 HO CP hb hA1 hB1 hX1 hlb hrb hpb HZ1 HN1 HN2 HN3 hZ1 hz1 n1 n2 n3 hpk hpv hpn b1
  rw [show decide (p.sort = 2) = (p.sort == 2) from rfl] at HO1
  go_wp2_with fail
  refine (CW1.out _ _).mono ?_
  intro e w2 hE
  rcases hE.no with ⟨c1, h3, rfl, hw⟩ | ⟨_, h3, rfl, hw⟩
  · subst w2
    exact on_panic rfl (El.bad (ex_no HO1.out h3) HF1.out)
  subst w2
  have HO2 := hide (ex_go HO1.out h3)
  clear hE h3 HO1 CW1
  go_wp2_with fail
  refine CA.out.mono ?_
  intro e w2 hE
  rcases hE.no with ⟨c1, h3, rfl, hf⟩ | ⟨v2, ms, xa, xc, h3, rfl, hrow, hsc, hf⟩
  · exact on_panic rfl (El.bad (ex_no HO2.out h3) (HF1.out.trans (hf.mono fun k _ => HZZ.out k)))
  have HO3 := hide (ex_go HO2.out h3)
  have hX2 := HX1.out.fr hf hsc
  have HX2 := hide hX2
  have HF2 := hide (HF1.out.trans (hf.mono (Z' := Z) fun k _ => HZZ.out k))
  have HS2 : Hid (∃ nv kv, Scp Z V M nv kv v2 w2) := by
    obtain ⟨nv, kv, hs⟩ := hsc
    exact ⟨nv, kv, hs.mono fun k _ => HZZ.out k⟩
  have hlb := (hf.block X.heap.size (loc_lt HLB.out) HNN.out.1).trans HLB.out
  have hrb := (hf.block (X.heap.size + 1) (loc_lt HRB.out) HNN.out.2.1).trans HRB.out
  have hpb := (hf.block w1.heap.size (loc_lt HPB.out) HNN.out.2.2).trans HPB.out
  have HRB2 := hide hrb
  have q1 := cell_of_row w2 w1.heap.size 1 _ _ _ hpb
  have q3 := cell_of_row w2 w1.heap.size 3 _ _ _ hpb
  have r0 := cell_of_row w2 X.heap.size 0 _ _ _ hlb
  have r1 := cell_of_row w2 X.heap.size 1 _ _ _ hlb
  have r3 := cell_of_row w2 X.heap.size 3 _ _ _ hlb
  have r4 := cell_of_row w2 X.heap.size 4 _ _ _ hlb
  simp only [List.getElem?_toArray, List.getElem?_cons_zero, List.getElem?_cons_succ] at q1 q3 r0 r1 r3 r4
  have CW2 := hide (fun b c => want_any hX2.res.c9 b c)
  have CH := hide (hasM_any (c := vc) (HVS.out.keep (w' := w2) hX2.at0).at1 hvl l.value)
  have c12 := hX2.res.c12
  have hlk := fun q => look_S (w := w2.drewN q) (hX2.res.mP.keep rfl) l.pred hpr
  clear hE h3 HO2 CA hf hsc hrow hX2 hlb hrb hpb HX1 HF1 HLB HRB HPB p0 p1 p2 p3 l2
  rw [show (l.hasValue == decide (p.sort = 3)) = (l.hasValue == (p.sort == 3)) from rfl] at HO3
  go_wp2_with fail
  refine (CW2.out _ _).mono ?_
  intro e w3 hE
  rcases hE.no with ⟨c1, h3, rfl, hw⟩ | ⟨_, h3, rfl, hw⟩
  · subst w3
    exact on_panic rfl (El.bad (ex_no HO3.out h3) HF2.out)
  subst w3
  have HO4 := hide (ex_go HO3.out h3)
  clear hE h3 HO3
  cases hhv : l.hasValue with
  | true =>
    rw [hhv] at HO4 r3
    rw [Bool.true_or, Bool.not_true, Bool.false_or] at HO4
    go_wp2_with fail
    refine (CW2.out _ _).mono ?_
    intro e w3 hE
    rcases hE.no with ⟨c1, h3, rfl, hw⟩ | ⟨_, h3, rfl, hw⟩
    · cases h3
    subst w3
    have HO5 := hide (ex_go HO4.out h3)
    clear hE h3 HO4
    generalize decide (l.value ∈ p.values) = bx at CH HO5
    go_wp2_with (go_at_call 97; refine CH.out.mono ?_; rintro _ wn ⟨rfl, hwn⟩; subst wn)
    refine (CW2.out _ _).mono ?_
    intro e w3 hE
    rcases hE.no with ⟨c1, h3, rfl, hw⟩ | ⟨_, h3, rfl, hw⟩
    · subst w3
      exact on_panic rfl (El.bad (ex_no HO5.out h3) HF2.out)
    subst w3
    have HO6 := hide (ex_go HO5.out h3)
    clear hE h3 HO5 CH CW2
    have z0 := cell_of_row w2 (X.heap.size + 1) 0 _ _ _ HRB2.out
    have z1 := cell_of_row w2 (X.heap.size + 1) 1 _ _ _ HRB2.out
    have z2 := cell_of_row w2 (X.heap.size + 1) 2 _ _ _ HRB2.out
    have z3 := cell_of_row w2 (X.heap.size + 1) 3 _ _ _ HRB2.out
    have z4 := cell_of_row w2 (X.heap.size + 1) 4 _ _ _ HRB2.out
    have zf := fun i => frozen_of_row w2 (X.heap.size + 1) i _ _ HRB2.out
    simp only [List.getElem?_toArray, List.getElem?_cons_zero, List.getElem?_cons_succ] at z0 z1 z2 z3 z4
    go_upto_region 7 with fail
    refine region_last (by kernel_rfl) (by kernel_rfl) (by kernel_rfl) (by kernel_rfl) (by kernel_rfl) ?_
    dsimp only [List.dropLast, List.getLast, List.cons_append, List.nil_append]
    repeat (go_big_quiet_step (fail))
    refine wpQuiet_nil ?_
    rintro _ ⟨nq, rfl⟩
    go_wp2_with fail
    have hend := fun u => lit_end (u := u) HX2.out HZZ.out HF2.out HNN.out.2.1 (H.out.new _ (by omega)) HO6.out nq (.bool l.neg) (.int .i64 (posB S.ctx.names l.pred)) (.slice xa ms.length xc) (.int .i64 l.value) (.int .i64 0)
    have hz := five_set (W := w2.drewN nq) (v0 := .bool l.neg) (v1 := .int .i64 (posB S.ctx.names l.pred)) (v2 := .slice xa ms.length xc) (v3 := .int .i64 l.value) (v4 := .int .i64 0) HRB2.out _ rfl
    generalize ((((((w2.drewN nq).setCell ⟨X.heap.size + 1, 0, none⟩ (.bool l.neg)).setCell ⟨X.heap.size + 1, 1, none⟩ (.int .i64 (posB S.ctx.names l.pred))).setCell ⟨X.heap.size + 1, 2, none⟩ (.slice xa ms.length xc)).setCell ⟨X.heap.size + 1, 3, none⟩ (.int .i64 l.value)).setCell ⟨X.heap.size + 1, 4, none⟩ (.int .i64 0)) = Y at *
    simp [bodyPost, results, Tryz.results114, go_sem, hz]
    exact hend _
  | false =>
    rw [hhv] at HO4 r3
    rw [Bool.false_or, Bool.not_false, Bool.true_or] at HO4
    rw [show decide (l.value = 0) = (l.value == 0) from rfl] at HO4
    go_wp2_with fail
    refine (CW2.out _ _).mono ?_
    intro e w3 hE
    rcases hE.no with ⟨c1, h3, rfl, hw⟩ | ⟨_, h3, rfl, hw⟩
    · subst w3
      exact on_panic rfl (El.bad (ex_no HO4.out h3) HF2.out)
    subst w3
    have HO5 := hide (ex_go HO4.out h3)
    clear hE h3 HO4
    go_wp2_with fail
    refine (CW2.out _ _).mono ?_
    intro e w3 hE
    rcases hE.no with ⟨c1, h3, rfl, hw⟩ | ⟨_, h3, rfl, hw⟩
    · cases h3
    subst w3
    have HO6 := hide (ex_go HO5.out h3)
    clear hE h3 HO5 CH CW2
    have z0 := cell_of_row w2 (X.heap.size + 1) 0 _ _ _ HRB2.out
    have z1 := cell_of_row w2 (X.heap.size + 1) 1 _ _ _ HRB2.out
    have z2 := cell_of_row w2 (X.heap.size + 1) 2 _ _ _ HRB2.out
    have z3 := cell_of_row w2 (X.heap.size + 1) 3 _ _ _ HRB2.out
    have z4 := cell_of_row w2 (X.heap.size + 1) 4 _ _ _ HRB2.out
    have zf := fun i => frozen_of_row w2 (X.heap.size + 1) i _ _ HRB2.out
    simp only [List.getElem?_toArray, List.getElem?_cons_zero, List.getElem?_cons_succ] at z0 z1 z2 z3 z4
    go_upto_region 7 with fail
    refine region_last (by kernel_rfl) (by kernel_rfl) (by kernel_rfl) (by kernel_rfl) (by kernel_rfl) ?_
    dsimp only [List.dropLast, List.getLast, List.cons_append, List.nil_append]
    repeat (go_big_quiet_step (fail))
    refine wpQuiet_nil ?_
    rintro _ ⟨nq, rfl⟩
    go_wp2_with fail
    have hend := fun u => lit_end (u := u) HX2.out HZZ.out HF2.out HNN.out.2.1 (H.out.new _ (by omega)) HO6.out nq (.bool l.neg) (.int .i64 (posB S.ctx.names l.pred)) (.slice xa ms.length xc) (.int .i64 l.value) (.int .i64 0)
    have hz := five_set (W := w2.drewN nq) (v0 := .bool l.neg) (v1 := .int .i64 (posB S.ctx.names l.pred)) (v2 := .slice xa ms.length xc) (v3 := .int .i64 l.value) (v4 := .int .i64 0) HRB2.out _ rfl
    generalize ((((((w2.drewN nq).setCell ⟨X.heap.size + 1, 0, none⟩ (.bool l.neg)).setCell ⟨X.heap.size + 1, 1, none⟩ (.int .i64 (posB S.ctx.names l.pred))).setCell ⟨X.heap.size + 1, 2, none⟩ (.slice xa ms.length xc)).setCell ⟨X.heap.size + 1, 3, none⟩ (.int .i64 l.value)).setCell ⟨X.heap.size + 1, 4, none⟩ (.int .i64 0)) = Y at *
    simp [bodyPost, results, Tryz.results114, go_sem, hz]
    exact hend _
end
end Go.Proofs.YtbdlgglbcaoakaaGreat
