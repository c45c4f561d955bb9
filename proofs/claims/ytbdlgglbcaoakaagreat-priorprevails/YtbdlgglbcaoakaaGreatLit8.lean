/- Literals. -/
import Derived.Test.YtbdlgglbcaoakaaGreatArgu8
namespace Go.Proofs.YtbdlgglbcaoakaaGreat
open Go.RowKit Go.Shelf Go.Maps Go.WideMaps

/-- How a call ends that answers a ground literal. -/
def El (Z : Nat → Prop) (V M : Nat) (it : Int) (X : World) (o : Er (Scope × List Nat)) (e : Ending) (X' : World) : Prop := Fr Z X X' ∧ match o with
  | .ok x => (∃ u, e = .returned u) ∧ ∃ nv kv, Scp Z V M nv kv x.1 X'
  | .error c => e = .panicked [fl c it]
theorem El.bad {Z : Nat → Prop} {V M : Nat} {it : Int} {X : World} {o : Er (Scope × List Nat)} {c : Int} {X' : World} (h : .error c = o) (hf : Fr Z X X') : El Z V M it X o (.panicked [fl c it]) X' := by subst h; exact ⟨hf, rfl⟩
theorem El.ok {Z : Nat → Prop} {V M : Nat} {it : Int} {X : World} {o : Er (Scope × List Nat)} {x : Scope × List Nat} {u : Value} {X' : World} (h : .ok x = o) (hf : Fr Z X X') (hs : ∃ nv kv, Scp Z V M nv kv x.1 X') : El Z V M it X o (.returned u) X' := by subst h; exact ⟨hf, ⟨u, rfl⟩, hs⟩
theorem El.no {Z : Nat → Prop} {V M : Nat} {it : Int} {X : World} {o : Er (Scope × List Nat)} {e : Ending} {X' : World} (h : El Z V M it X o e X') : (∃ c, o = .error c ∧ e = .panicked [fl c it] ∧ Fr Z X X') ∨ (∃ v' ms u, o = .ok (v', ms) ∧ e = .returned u ∧ (∃ nv kv, Scp Z V M nv kv v' X') ∧ Fr Z X X') := by
  obtain ⟨hf, h⟩ := h
  cases o with
  | ok x => obtain ⟨⟨u, h1⟩, h3⟩ := h; exact .inr ⟨x.1, x.2, u, rfl, h1, h3, hf⟩
  | error c => exact .inl ⟨c, rfl, h, hf⟩

section
variable {W0 : World} {R : Nat} {S : StatM} {st : St9} {mp : Mp8} {it : Nat} {seen : List Bytes} {Z : Nat → Prop} {V M rb vb : Nat} {v : Scope} {X : World}
theorem findPredM_mem {C : Ctx} {s : Bytes} {p : PredM} (h : findPredM C s = .ok p) : p ∈ C.preds := by
  unfold findPredM at h
  cases hf : findM C.names s 82 with
  | error c => rw [hf] at h; cases h
  | ok m =>
    rw [hf] at h
    have h2 : (Except.ok (C.preds.getD m noPred) : Er PredM) = .ok p := h
    injection h2 with h3
    have hm : m < C.preds.length := by simpa [Ctx.names] using (find_ok hf).2.2
    rw [← h3, List.getD_eq_getElem?_getD, List.getElem?_eq_getElem hm]
    exact List.getElem_mem hm
theorem five_set {W : World} {q T : Nat} {y0 y1 y2 y3 y4 v0 v1 v2 v3 v4 : Value} (h : W.heap[q]? = some (.cells #[y0, y1, y2, y3, y4] T (0, 0))) (Y : World) (hY : Y = ((((W.setCell ⟨q, 0, none⟩ v0).setCell ⟨q, 1, none⟩ v1).setCell ⟨q, 2, none⟩ v2).setCell ⟨q, 3, none⟩ v3).setCell ⟨q, 4, none⟩ v4) :
    Y.cell? ⟨q, 0, none⟩ = some v0 ∧ Y.cell? ⟨q, 1, none⟩ = some v1 ∧ Y.cell? ⟨q, 2, none⟩ = some v2 ∧ Y.cell? ⟨q, 3, none⟩ = some v3 ∧ Y.cell? ⟨q, 4, none⟩ = some v4 := by
  have s0 := loc_set (i := 0) (v := v0) h
  have s1 := loc_set (i := 1) (v := v1) s0
  have s2 := loc_set (i := 2) (v := v2) s1
  have s3 := loc_set (i := 3) (v := v3) s2
  have s4 := loc_set (i := 4) (v := v4) s3
  simp only [List.setIfInBounds_toArray, List.set_cons_zero, List.set_cons_succ] at s4
  rw [← hY] at s4
  exact ⟨cell_of_row Y q 0 _ T _ s4, cell_of_row Y q 1 _ T _ s4, cell_of_row Y q 2 _ T _ s4, cell_of_row Y q 3 _ T _ s4, cell_of_row Y q 4 _ T _ s4⟩
theorem lit_end {Z1 : Nat → Prop} {v2 : Scope} {ms : List Nat} {w2 : World} {o : Er (Scope × List Nat)} {b : Nat} (h2 : Rx W0 R S st mp it seen Z1 V M rb vb v2 w2) (hz : ∀ k, Z1 k → Z k) (hF : Fr Z X w2) (hb : ¬ Z1 b) (hzb : Z b) (ho : .ok (v2, ms) = o) (nq : Nat) (u u0 u1 u2 u3 u4 : Value) :
    El Z V M it X o (.returned u) ((((((w2.drewN nq).setCell ⟨b, 0, none⟩ u0).setCell ⟨b, 1, none⟩ u1).setCell ⟨b, 2, none⟩ u2).setCell ⟨b, 3, none⟩ u3).setCell ⟨b, 4, none⟩ u4) := by
  obtain ⟨nv, kv, hs⟩ := h2.scp
  refine El.ok ho ((((((hF.trans (.of_below (below_drewN w2 nq))).trans (.setCell ⟨b, 0, none⟩ u0 hzb)).trans (.setCell ⟨b, 1, none⟩ u1 hzb)).trans (.setCell ⟨b, 2, none⟩ u2 hzb)).trans (.setCell ⟨b, 3, none⟩ u3 hzb)).trans (.setCell ⟨b, 4, none⟩ u4 hzb)) ⟨nv, kv, (hs.keep fun k hk _ => ?_).mono fun k _ => hz k⟩
  have hkb : k ≠ b := fun e => hb (e ▸ hk)
  rw [heap_setCell_other _ _ k _ hkb, heap_setCell_other _ _ k _ hkb, heap_setCell_other _ _ k _ hkb, heap_setCell_other _ _ k _ hkb, heap_setCell_other _ _ k _ hkb]
  rfl
abbrev litV (l : LitM) (aa : Option Addr) (ac : Nat) : Array Value := #[.bool l.neg, .string ⟨l.pred.toArray⟩, .slice aa l.args.length ac, .bool l.hasValue, .int .i64 l.value]

set_option maxRecDepth 100000 in
set_option maxHeartbeats 12800000 in
theorem lit_any (h : Rx W0 R S st mp it seen Z V M rb vb v X) (hp4 : ∀ p ∈ S.preds, p.kinds.length ≤ 4) (l : LitM) {aa : Option Addr} {ac : Nat} (hpr : l.pred.length ≤ maxLen) (hl : Strs R W0 l.args (.slice aa l.args.length ac)) (hv : v.length + 4 ≤ 4096) :
    Calls Tryz.prog 114 #[ptr R, .agg (litV l aa ac), .func (.func 112) #[] #[ptr rb, ptr vb]] X fun e X' => El Z V M it X (literalM S.ctx v l) e X' := by
  have hA : Below X.heap.size X ((X.alloc (.cells (litV l aa ac) 47)).alloc (.cells #[.bool false, .int .i64 0, .slice none 0 0, .int .i64 0, .int .i64 0] 196)) := ((Below.refl _ _).alloc (Nat.le_refl _) _).alloc (by simp) _
  have h1 := h.below hA
  have CP := hide (findPred_any h1.res l.pred hpr)
  have H := hide h
  have HA := hide hA
  have hb0 := ((Below.refl (X.alloc (.cells (litV l aa ac) 47)).heap.size (X.alloc (.cells (litV l aa ac) 47))).alloc (Nat.le_refl _) (.cells #[.bool false, .int .i64 0, .slice none 0 0, .int .i64 0, .int .i64 0] 196)).block X.heap.size (by simp)
  have hb := hb0.trans (heap_alloc_new X (.cells (litV l aa ac) 47))
  have HB := hide hb
  have hr0 := heap_alloc_new (X.alloc (.cells (litV l aa ac) 47)) (.cells #[.bool false, .int .i64 0, .slice none 0 0, .int .i64 0, .int .i64 0] 196)
  have hsz : (X.alloc (.cells (litV l aa ac) 47)).heap.size = X.heap.size + 1 := by simp
  rw [hsz] at hr0
  have HR0 := hide hr0
  have b1 := cell_of_row _ X.heap.size 1 _ _ _ hb
  simp only [List.getElem?_toArray, List.getElem?_cons_zero, List.getElem?_cons_succ] at b1
  obtain ⟨o, ho⟩ : ∃ o, literalM S.ctx v l = o := ⟨_, rfl⟩
  rw [ho]
  have HO := hide ho
  unfold literalM at HO
  unfold str at CP
  have HL := hide hl
  have HP4 := hide hp4
  clear h h1 hA hb0 hb hr0 hsz ho hl hp4
  go_enter Tryz.func114, Tryz.ntmps114
  go_wp2_with fail
  refine CP.out.mono ?_
  intro e w1 hE
  rcases hE.no with ⟨c1, h3, rfl, hb⟩ | ⟨p, u, h3, rfl, hrp, hb⟩
  · exact on_panic rfl (El.bad (ex_no HO.out h3) (.of_below (HA.out.trans (hb.mono HA.out.size))))
  obtain ⟨ka, kc, va, vc, rfl, hpn, hpk, hpv⟩ := hrp
  have HO1 := hide (ex_go HO.out h3)
  have HPM := hide (HP4.out p (findPredM_mem h3))
  have hA1 : Below w1.heap.size w1 (w1.alloc (.cells (predV p ka kc va vc) 119)) := (Below.refl _ _).alloc (Nat.le_refl _) _
  have hB1 : Below X.heap.size X (w1.alloc (.cells (predV p ka kc va vc) 119)) := (HA.out.trans (hb.mono HA.out.size)).trans (hA1.mono (Nat.le_trans HA.out.size hb.size))
  have hX1 := H.out.fit (X1 := w1.alloc (.cells (predV p ka kc va vc) 119)) (fun k hk _ => hB1.block k hk) hB1.size ⟨hB1.os, hB1.tape, hB1.output⟩
  have HX1 := hide hX1
  have HF1 := hide (show Fr Z X (w1.alloc (.cells (predV p ka kc va vc) 119)) from .of_below hB1)
  have hs1 : X.heap.size + 2 ≤ w1.heap.size := by have := hb.size; simp at this; omega
  have hlb := (hA1.block X.heap.size (by omega)).trans ((hb.block X.heap.size (by first | (simp; done) | (simp; omega))).trans HB.out)
  have hrb := (hA1.block (X.heap.size + 1) (by omega)).trans ((hb.block (X.heap.size + 1) (by first | (simp; done) | (simp; omega))).trans HR0.out)
  have hpb := heap_alloc_new w1 (.cells (predV p ka kc va vc) 119)
  have HLB := hide hlb
  have HRB := hide hrb
  have HPB := hide hpb
  have HZ1 : Hid (∀ k, ((Z k ∧ k < X.heap.size) ∨ (w1.alloc (.cells (predV p ka kc va vc) 119)).heap.size ≤ k) → Z k) := by
    rintro k (a | a)
    · exact a.1
    · exact H.out.new k (by have := hB1.size; omega)
  have HN1 : Hid (¬ ((Z X.heap.size ∧ X.heap.size < X.heap.size) ∨ (w1.alloc (.cells (predV p ka kc va vc) 119)).heap.size ≤ X.heap.size)) := by rintro (a | a); exact absurd a.2 (Nat.lt_irrefl _); simp at a; omega
  have HN2 : Hid (¬ ((Z (X.heap.size + 1) ∧ X.heap.size + 1 < X.heap.size) ∨ (w1.alloc (.cells (predV p ka kc va vc) 119)).heap.size ≤ X.heap.size + 1)) := by rintro (a | a); exact absurd a.2 (by omega); simp at a; omega
  have HN3 : Hid (¬ ((Z w1.heap.size ∧ w1.heap.size < X.heap.size) ∨ (w1.alloc (.cells (predV p ka kc va vc) 119)).heap.size ≤ w1.heap.size)) := by rintro (a | a); exact absurd a.2 (by omega); simp at a; omega
  have hRX : R < X.heap.size := World.block_lt_of_cell? X _ H.out.clo.c9
  have HKS : Hid (Strs R W0 p.kinds (.slice ka p.kinds.length kc)) := hide (hpk.keep fun g hg => ((hb.block g (by first | (simp; done) | (simp; omega))).trans ((HA.out.block g (by omega)).trans (H.out.at0 g hg))).symm)
  have HVS : Hid (Moneys R W0 p.values (.slice va p.values.length vc)) := hide (hpv.keep fun g hg => ((hb.block g (by first | (simp; done) | (simp; omega))).trans ((HA.out.block g (by omega)).trans (H.out.at0 g hg))).symm)
  have hvl : p.values.length ≤ 140737488351232 := by obtain ⟨_, _, _, _, h⟩ := hpv.form; exact h
  have p1 := cell_of_row _ w1.heap.size 1 _ _ _ hpb
  have p0 := cell_of_row _ w1.heap.size 0 _ _ _ hpb
  have p2 := cell_of_row _ w1.heap.size 2 _ _ _ hpb
  have p3 := cell_of_row _ w1.heap.size 3 _ _ _ hpb
  have l2 := cell_of_row _ X.heap.size 2 _ _ _ hlb
  simp only [List.getElem?_toArray, List.getElem?_cons_zero, List.getElem?_cons_succ] at p0 p1 p2 p3 l2
  have CW1 := hide (fun b c => want_any hX1.res.c9 b c)
  have CA := hide (args_any (va := va) (vc := vc) hX1 p HKS.out HPM.out l.args HL.out hv)
  generalize hZ1 : (fun k => (Z k ∧ k < X.heap.size) ∨ (w1.alloc (.cells (predV p ka kc va vc) 119)).heap.size ≤ k) = Z1 at HX1 CA
  have hz1 : ∀ k, Z1 k → Z k := by rw [← hZ1]; exact HZ1.out
  have n1 : ¬ Z1 X.heap.size := by rw [← hZ1]; exact HN1.out
  have n2 : ¬ Z1 (X.heap.size + 1) := by rw [← hZ1]; exact HN2.out
  have n3 : ¬ Z1 w1.heap.size := by rw [← hZ1]; exact HN3.out
  have HZZ := hide hz1
  have HNN := hide (And.intro n1 (And.intro n2 n3))
  simp only [litV, predV] at *
  clear hE h3 HO CP hb hA1 hB1 hX1 hlb hrb hpb HZ1 HN1 HN2 HN3 hZ1 hz1 n1 n2 n3 hpk hpv hpn b1
  rw [show decide (p.sort = 2) = (p.sort == 2) from rfl] at HO1
  go_wp2_with fail
  refine (CW1.out _ _).mono ?_
  intro e w2 hE
  rcases hE.no with ⟨c1, h3, rfl, hw⟩ | ⟨_, h3, rfl, hw⟩
  · subst w2
    exact on_panic rfl (El.bad (ex_no HO1.out h3) HF1.out)
  subst w2
  have HO2 := hide (ex_go HO1.out h3)
  clear hE h3 HO1 CW1
  go_wp2_with fail
  refine CA.out.mono ?_
  intro e w2 hE
  rcases hE.no with ⟨c1, h3, rfl, hf⟩ | ⟨v2, ms, xa, xc, h3, rfl, hrow, hsc, hf⟩
  · exact on_panic rfl (El.bad (ex_no HO2.out h3) (HF1.out.trans (hf.mono fun k _ => HZZ.out k)))
  have HO3 := hide (ex_go HO2.out h3)
  have hX2 := HX1.out.fr hf hsc
  have HX2 := hide hX2
  have HF2 := hide (HF1.out.trans (hf.mono (Z' := Z) fun k _ => HZZ.out k))
  have HS2 : Hid (∃ nv kv, Scp Z V M nv kv v2 w2) := by
    obtain ⟨nv, kv, hs⟩ := hsc
    exact ⟨nv, kv, hs.mono fun k _ => HZZ.out k⟩
  have hlb := (hf.block X.heap.size (loc_lt HLB.out) HNN.out.1).trans HLB.out
  have hrb := (hf.block (X.heap.size + 1) (loc_lt HRB.out) HNN.out.2.1).trans HRB.out
  have hpb := (hf.block w1.heap.size (loc_lt HPB.out) HNN.out.2.2).trans HPB.out
  have HRB2 := hide hrb
  have q1 := cell_of_row w2 w1.heap.size 1 _ _ _ hpb
  have q3 := cell_of_row w2 w1.heap.size 3 _ _ _ hpb
  have r0 := cell_of_row w2 X.heap.size 0 _ _ _ hlb
  have r1 := cell_of_row w2 X.heap.size 1 _ _ _ hlb
  have r3 := cell_of_row w2 X.heap.size 3 _ _ _ hlb
  have r4 := cell_of_row w2 X.heap.size 4 _ _ _ hlb
  simp only [List.getElem?_toArray, List.getElem?_cons_zero, List.getElem?_cons_succ] at q1 q3 r0 r1 r3 r4
  have CW2 := hide (fun b c => want_any hX2.res.c9 b c)
  have CH := hide (hasM_any (c := vc) (HVS.out.keep (w' := w2) hX2.at0).at1 hvl l.value)
  have c12 := hX2.res.c12
  have hlk := fun q => look_S (w := w2.drewN q) (hX2.res.mP.keep rfl) l.pred hpr
  clear hE h3 HO2 CA hf hsc hrow hX2 hlb hrb hpb HX1 HF1 HLB HRB HPB p0 p1 p2 p3 l2
  rw [show (l.hasValue == decide (p.sort = 3)) = (l.hasValue == (p.sort == 3)) from rfl] at HO3
  go_wp2_with fail
  refine (CW2.out _ _).mono ?_
  intro e w3 hE
  rcases hE.no with ⟨c1, h3, rfl, hw⟩ | ⟨_, h3, rfl, hw⟩
  · subst w3
    exact on_panic rfl (El.bad (ex_no HO3.out h3) HF2.out)
  subst w3
  have HO4 := hide (ex_go HO3.out h3)
  clear hE h3 HO3
  cases hhv : l.hasValue with
  | true =>
    rw [hhv] at HO4 r3
    rw [Bool.true_or, Bool.not_true, Bool.false_or] at HO4
    go_wp2_with fail
    refine (CW2.out _ _).mono ?_
    intro e w3 hE
    rcases hE.no with ⟨c1, h3, rfl, hw⟩ | ⟨_, h3, rfl, hw⟩
    · cases h3
    subst w3
    have HO5 := hide (ex_go HO4.out h3)
    clear hE h3 HO4
    generalize decide (l.value ∈ p.values) = bx at CH HO5
    go_wp2_with (go_at_call 97; refine CH.out.mono ?_; rintro _ wn ⟨rfl, hwn⟩; subst wn)
    refine (CW2.out _ _).mono ?_
    intro e w3 hE
    rcases hE.no with ⟨c1, h3, rfl, hw⟩ | ⟨_, h3, rfl, hw⟩
    · subst w3
      exact on_panic rfl (El.bad (ex_no HO5.out h3) HF2.out)
    subst w3
    have HO6 := hide (ex_go HO5.out h3)
    clear hE h3 HO5 CH CW2
    have z0 := cell_of_row w2 (X.heap.size + 1) 0 _ _ _ HRB2.out
    have z1 := cell_of_row w2 (X.heap.size + 1) 1 _ _ _ HRB2.out
    have z2 := cell_of_row w2 (X.heap.size + 1) 2 _ _ _ HRB2.out
    have z3 := cell_of_row w2 (X.heap.size + 1) 3 _ _ _ HRB2.out
    have z4 := cell_of_row w2 (X.heap.size + 1) 4 _ _ _ HRB2.out
    have zf := fun i => frozen_of_row w2 (X.heap.size + 1) i _ _ HRB2.out
    simp only [List.getElem?_toArray, List.getElem?_cons_zero, List.getElem?_cons_succ] at z0 z1 z2 z3 z4
    go_upto_region 7 with fail
    refine region_last (by kernel_rfl) (by kernel_rfl) (by kernel_rfl) (by kernel_rfl) (by kernel_rfl) ?_
    dsimp only [List.dropLast, List.getLast, List.cons_append, List.nil_append]
    repeat (go_big_quiet_step (fail))
    refine wpQuiet_nil ?_
    rintro _ ⟨nq, rfl⟩
    go_wp2_with fail
    have hend := fun u => lit_end (u := u) HX2.out HZZ.out HF2.out HNN.out.2.1 (H.out.new _ (by omega)) HO6.out nq (.bool l.neg) (.int .i64 (posB S.ctx.names l.pred)) (.slice xa ms.length xc) (.int .i64 l.value) (.int .i64 0)
    have hz := five_set (W := w2.drewN nq) (v0 := .bool l.neg) (v1 := .int .i64 (posB S.ctx.names l.pred)) (v2 := .slice xa ms.length xc) (v3 := .int .i64 l.value) (v4 := .int .i64 0) HRB2.out _ rfl
    generalize ((((((w2.drewN nq).setCell ⟨X.heap.size + 1, 0, none⟩ (.bool l.neg)).setCell ⟨X.heap.size + 1, 1, none⟩ (.int .i64 (posB S.ctx.names l.pred))).setCell ⟨X.heap.size + 1, 2, none⟩ (.slice xa ms.length xc)).setCell ⟨X.heap.size + 1, 3, none⟩ (.int .i64 l.value)).setCell ⟨X.heap.size + 1, 4, none⟩ (.int .i64 0)) = Y at *
    simp [bodyPost, results, Tryz.results114, go_sem, hz]
    exact hend _
  | false =>
    rw [hhv] at HO4 r3
    rw [Bool.false_or, Bool.not_false, Bool.true_or] at HO4
    rw [show decide (l.value = 0) = (l.value == 0) from rfl] at HO4
    go_wp2_with fail
    refine (CW2.out _ _).mono ?_
    intro e w3 hE
    rcases hE.no with ⟨c1, h3, rfl, hw⟩ | ⟨_, h3, rfl, hw⟩
    · subst w3
      exact on_panic rfl (El.bad (ex_no HO4.out h3) HF2.out)
    subst w3
    have HO5 := hide (ex_go HO4.out h3)
    clear hE h3 HO4
    go_wp2_with fail
    refine (CW2.out _ _).mono ?_
    intro e w3 hE
    rcases hE.no with ⟨c1, h3, rfl, hw⟩ | ⟨_, h3, rfl, hw⟩
    · cases h3
    subst w3
    have HO6 := hide (ex_go HO5.out h3)
    clear hE h3 HO5 CH CW2
    have z0 := cell_of_row w2 (X.heap.size + 1) 0 _ _ _ HRB2.out
    have z1 := cell_of_row w2 (X.heap.size + 1) 1 _ _ _ HRB2.out
    have z2 := cell_of_row w2 (X.heap.size + 1) 2 _ _ _ HRB2.out
    have z3 := cell_of_row w2 (X.heap.size + 1) 3 _ _ _ HRB2.out
    have z4 := cell_of_row w2 (X.heap.size + 1) 4 _ _ _ HRB2.out
    have zf := fun i => frozen_of_row w2 (X.heap.size + 1) i _ _ HRB2.out
    simp only [List.getElem?_toArray, List.getElem?_cons_zero, List.getElem?_cons_succ] at z0 z1 z2 z3 z4
    go_upto_region 7 with fail
    refine region_last (by kernel_rfl) (by kernel_rfl) (by kernel_rfl) (by kernel_rfl) (by kernel_rfl) ?_
    dsimp only [List.dropLast, List.getLast, List.cons_append, List.nil_append]
    repeat (go_big_quiet_step (fail))
    refine wpQuiet_nil ?_
    rintro _ ⟨nq, rfl⟩
    go_wp2_with fail
    have hend := fun u => lit_end (u := u) HX2.out HZZ.out HF2.out HNN.out.2.1 (H.out.new _ (by omega)) HO6.out nq (.bool l.neg) (.int .i64 (posB S.ctx.names l.pred)) (.slice xa ms.length xc) (.int .i64 l.value) (.int .i64 0)
    have hz := five_set (W := w2.drewN nq) (v0 := .bool l.neg) (v1 := .int .i64 (posB S.ctx.names l.pred)) (v2 := .slice xa ms.length xc) (v3 := .int .i64 l.value) (v4 := .int .i64 0) HRB2.out _ rfl
    generalize ((((((w2.drewN nq).setCell ⟨X.heap.size + 1, 0, none⟩ (.bool l.neg)).setCell ⟨X.heap.size + 1, 1, none⟩ (.int .i64 (posB S.ctx.names l.pred))).setCell ⟨X.heap.size + 1, 2, none⟩ (.slice xa ms.length xc)).setCell ⟨X.heap.size + 1, 3, none⟩ (.int .i64 l.value)).setCell ⟨X.heap.size + 1, 4, none⟩ (.int .i64 0)) = Y at *
    simp [bodyPost, results, Tryz.results114, go_sem, hz]
    exact hend _
end
end Go.Proofs.YtbdlgglbcaoakaaGreat
/- Terms. -/
namespace Go.Proofs.YtbdlgglbcaoakaaGreat
open Go.RowKit Go.Shelf Go.Maps Go.WideMaps

section
variable {W0 : World} {R : Nat} {S : StatM} {st : St9} {mp : Mp8} {it : Nat} {seen : List Bytes} {Z : Nat → Prop} {V M rb vb : Nat} {v : Scope} {X : World}
abbrev termV (t : TermM) (aa : Option Addr) (ac : Nat) : Array Value := #[.int .i64 t.coef, .string ⟨t.pred.toArray⟩, .slice aa t.args.length ac, .int .i64 t.value]

set_option maxRecDepth 100000 in
set_option maxHeartbeats 12800000 in
theorem term_any (h : Rx W0 R S st mp it seen Z V M rb vb v X) (hp4 : ∀ p ∈ S.preds, p.kinds.length ≤ 4) (t : TermM) {aa : Option Addr} {ac : Nat} (hpr : t.pred.length ≤ maxLen) (hl : Strs R W0 t.args (.slice aa t.args.length ac)) (hv : v.length + 4 ≤ 4096) :
    Calls Tryz.prog 130 #[ptr R, .agg (termV t aa ac), .func (.func 112) #[] #[ptr rb, ptr vb]] X fun e X' => Eb Z V M it X (termM S.ctx v t) e X' := by
  have hA : Below X.heap.size X (X.alloc (.cells (termV t aa ac) 202)) := (Below.refl _ _).alloc (Nat.le_refl _) _
  have h1 := h.below hA
  have H1 := hide h1
  have H := hide h
  have HA := hide hA
  have hb := heap_alloc_new X (.cells (termV t aa ac) 202)
  have HB := hide hb
  have CW := hide (fun b c => want_any h1.res.c9 b c)
  have HF0 := hide (show Fr Z X (X.alloc (.cells (termV t aa ac) 202)) from .of_below hA)
  have hal : t.args.length ≤ 140737488351232 := by obtain ⟨_, _, _, _, h⟩ := hl.form; exact h
  have b0 := cell_of_row _ X.heap.size 0 _ _ _ hb
  have b1 := cell_of_row _ X.heap.size 1 _ _ _ hb
  have b2 := cell_of_row _ X.heap.size 2 _ _ _ hb
  have b3 := cell_of_row _ X.heap.size 3 _ _ _ hb
  simp only [List.getElem?_toArray, List.getElem?_cons_zero, List.getElem?_cons_succ] at b0 b1 b2 b3
  obtain ⟨o, ho⟩ : ∃ o, termM S.ctx v t = o := ⟨_, rfl⟩
  rw [ho]
  have HO := hide ho
  unfold termM at HO
  have HL := hide hl
  have HP4 := hide hp4
  have CP := hide (findPred_any h1.res t.pred hpr)
  unfold str at CP
  simp only [termV] at *
  clear h h1 hA hb ho hl hp4
  by_cases hpe : t.pred = []
  · rw [if_pos hpe] at HO
    obtain ⟨tc, tp, ta, tv⟩ := t
    simp only at *
    subst hpe
    have HS : Hid (∃ nv kv, Scp Z V M nv kv v (X.alloc (.cells #[.int .i64 tc, .string ⟨#[]⟩, .slice aa ta.length ac, .int .i64 tv] 202))) := hide H1.out.scp
    have CM := hide (fun w => may_any tv w)
    clear CP H1 H
    by_cases hc0 : tc = 0
    · subst hc0
      rw [decide_eq_true rfl] at HO
      simp only [Bool.true_and] at HO
      rw [show decide ((ta.length : Int) = 0) = ((ta.length : Int) == 0) from rfl] at HO
      go_enter Tryz.func130, Tryz.ntmps130
      go_wp2_with fail
      refine (CW.out _ _).mono ?_
      intro e w2 hE
      rcases hE.no with ⟨c1, h3, rfl, hw⟩ | ⟨_, h3, rfl, hw⟩
      · subst w2
        exact on_panic rfl (Eb.bad (ex_no HO.out h3) HF0.out)
      subst w2
      have HO1 := hide (ex_go HO.out h3)
      clear hE h3 HO
      cases hmay : mayB tv with
      | false =>
        rw [hmay] at HO1 CM
        go_wp2_with (go_at_call 109; refine (CM.out _).mono ?_; rintro _ wn ⟨rfl, hwn⟩; subst wn)
        refine (CW.out _ _).mono ?_
        intro e w2 hE
        rcases hE.no with ⟨c1, h3, rfl, hw⟩ | ⟨_, h3, rfl, hw⟩
        · subst w2
          exact on_panic rfl (Eb.bad (ex_no HO1.out h3) HF0.out)
        · cases h3
      | true =>
        rw [hmay] at HO1 CM
        go_wp2_with (go_at_call 109; refine (CM.out _).mono ?_; rintro _ wn ⟨rfl, hwn⟩; subst wn)
        refine (CW.out _ _).mono ?_
        intro e w2 hE
        rcases hE.no with ⟨c1, h3, rfl, hw⟩ | ⟨_, h3, rfl, hw⟩
        · cases h3
        subst w2
        have HO2 := ex_go HO1.out h3
        go_wp2_with fail
        go_end0
        exact Eb.ok HO2 HF0.out HS.out
    · rw [decide_eq_false hc0] at HO
      simp only [Bool.false_and] at HO
      have hcb : (tc == 0) = false := beq_eq_false_iff_ne.2 hc0
      go_enter Tryz.func130, Tryz.ntmps130
      go_wp2_with fail
      refine (CW.out _ _).mono ?_
      intro e w2 hE
      rcases hE.no with ⟨c1, h3, rfl, hw⟩ | ⟨_, h3, rfl, hw⟩
      · subst w2
        exact on_panic rfl (Eb.bad (ex_no HO.out h3) HF0.out)
      · cases h3
  · rw [if_neg hpe] at HO
    have hpb : (t.pred == []) = false := beq_eq_false_iff_ne.2 hpe
    go_enter Tryz.func130, Tryz.ntmps130
    go_wp2_with fail
    refine CP.out.mono ?_
    intro e w1 hE
    rcases hE.no with ⟨c1, h3, rfl, hb⟩ | ⟨p, u, h3, rfl, hrp, hb⟩
    · exact on_panic rfl (Eb.bad (ex_no HO.out h3) (.of_below (HA.out.trans (hb.mono HA.out.size))))
    obtain ⟨ka, kc, va, vc, rfl, hpn, hpk, hpv⟩ := hrp
    have HO1 := hide (ex_go HO.out h3)
    have HPM := hide (HP4.out p (findPredM_mem h3))
    have hA1 : Below w1.heap.size w1 (w1.alloc (.cells (predV p ka kc va vc) 119)) := (Below.refl _ _).alloc (Nat.le_refl _) _
    have hB1 : Below X.heap.size X (w1.alloc (.cells (predV p ka kc va vc) 119)) := (HA.out.trans (hb.mono HA.out.size)).trans (hA1.mono (Nat.le_trans HA.out.size hb.size))
    have hX1 := H.out.fit (X1 := (w1.alloc (.cells (predV p ka kc va vc) 119))) (fun k hk _ => hB1.block k hk) hB1.size ⟨hB1.os, hB1.tape, hB1.output⟩
    have HX1 := hide hX1
    have HF1 := hide (show Fr Z X (w1.alloc (.cells (predV p ka kc va vc) 119)) from .of_below hB1)
    have hs1 : X.heap.size + 1 ≤ w1.heap.size := by have := hb.size; simp at this; omega
    have hlb := (hA1.block X.heap.size (by omega)).trans ((hb.block X.heap.size (by simp)).trans HB.out)
    have hpb := heap_alloc_new w1 (.cells (predV p ka kc va vc) 119)
    have HZ1 : Hid (∀ k, ((Z k ∧ k < X.heap.size) ∨ (w1.alloc (.cells (predV p ka kc va vc) 119)).heap.size ≤ k) → Z k) := by
      rintro k (a | a)
      · exact a.1
      · exact H.out.new k (by have := hB1.size; omega)
    have hRX : R < X.heap.size := World.block_lt_of_cell? X _ H.out.clo.c9
    have HKS : Hid (Strs R W0 p.kinds (.slice ka p.kinds.length kc)) := hide (hpk.keep fun g hg => ((hb.block g (by simp; omega)).trans ((HA.out.block g (by omega)).trans (H.out.at0 g hg))).symm)
    have p0 := cell_of_row _ w1.heap.size 0 _ _ _ hpb
    have p1 := cell_of_row _ w1.heap.size 1 _ _ _ hpb
    have p2 := cell_of_row _ w1.heap.size 2 _ _ _ hpb
    have p3 := cell_of_row _ w1.heap.size 3 _ _ _ hpb
    have l0 := cell_of_row _ X.heap.size 0 _ _ _ hlb
    have l2 := cell_of_row _ X.heap.size 2 _ _ _ hlb
    have l3 := cell_of_row _ X.heap.size 3 _ _ _ hlb
    simp only [List.getElem?_toArray, List.getElem?_cons_zero, List.getElem?_cons_succ] at p0 p1 p2 p3 l0 l2 l3
    have CW1 := hide (fun b c => want_any hX1.res.c9 b c)
    have CA := hide (args_any (va := va) (vc := vc) hX1 p HKS.out HPM.out t.args HL.out hv)
    simp only [predV] at *
    clear hE h3 HO CP hb hA1 hB1 hX1 hlb hpk hpv hpn b0 b1 b2 b3 CW
    rw [show decide (p.sort = 2) = (p.sort == 2) from rfl] at HO1
    go_wp2_with fail
    refine (CW1.out _ _).mono ?_
    intro e w2 hE
    rcases hE.no with ⟨c1, h3, rfl, hw⟩ | ⟨_, h3, rfl, hw⟩
    · subst w2
      exact on_panic rfl (Eb.bad (ex_no HO1.out h3) HF1.out)
    subst w2
    have HO2 := hide (ex_go HO1.out h3)
    clear hE h3 HO1
    by_cases hc0 : t.coef = 0
    · rw [decide_eq_true hc0] at HO2
      simp only [Bool.not_true, Bool.false_and] at HO2
      have hc0b : (t.coef != 0) = false := by simp [hc0]
      go_wp2_with fail
      refine (CW1.out _ _).mono ?_
      intro e w2 hE
      rcases hE.no with ⟨c1, h3, rfl, hw⟩ | ⟨_, h3, rfl, hw⟩
      · subst w2
        exact on_panic rfl (Eb.bad (ex_no HO2.out h3) HF1.out)
      · cases h3
    rw [decide_eq_false hc0] at HO2
    simp only [Bool.not_false, Bool.true_and] at HO2
    have hc0b : (t.coef != 0) = true := by simp [hc0]
    by_cases hc1 : t.coef < -1000
    · have hc1' : ¬ (-1000 ≤ t.coef) := by omega
      have hc1b : (decide (-1000 ≤ t.coef)) = false := decide_eq_false hc1'
      rw [hc1b] at HO2
      simp only [Bool.false_and] at HO2
      go_wp2_with fail
      refine (CW1.out _ _).mono ?_
      intro e w2 hE
      rcases hE.no with ⟨c1, h3, rfl, hw⟩ | ⟨_, h3, rfl, hw⟩
      · subst w2
        exact on_panic rfl (Eb.bad (ex_no HO2.out h3) HF1.out)
      · cases h3
    have hc1' : -1000 ≤ t.coef := by omega
    rw [decide_eq_true hc1'] at HO2
    simp only [Bool.true_and] at HO2
    by_cases hc2 : 1000 < t.coef
    · have hc2' : ¬ (t.coef ≤ 1000) := by omega
      have hc2b : (decide (t.coef ≤ 1000)) = false := decide_eq_false hc2'
      rw [hc2b] at HO2
      simp only [Bool.false_and] at HO2
      go_wp2_with fail
      refine (CW1.out _ _).mono ?_
      intro e w2 hE
      rcases hE.no with ⟨c1, h3, rfl, hw⟩ | ⟨_, h3, rfl, hw⟩
      · subst w2
        exact on_panic rfl (Eb.bad (ex_no HO2.out h3) HF1.out)
      · cases h3
    have hc2' : t.coef ≤ 1000 := by omega
    rw [decide_eq_true hc2'] at HO2
    simp only [Bool.true_and] at HO2
    rw [show decide (t.value = 0) = (t.value == 0) from rfl] at HO2
    go_wp2_with fail
    refine (CW1.out _ _).mono ?_
    intro e w2 hE
    rcases hE.no with ⟨c1, h3, rfl, hw⟩ | ⟨_, h3, rfl, hw⟩
    · subst w2
      exact on_panic rfl (Eb.bad (ex_no HO2.out h3) HF1.out)
    subst w2
    have HO3 := hide (ex_go HO2.out h3)
    clear hE h3 HO2
    go_wp2_with fail
    refine CA.out.mono ?_
    intro e w2 hE
    rcases hE.no with ⟨c1, h3, rfl, hf⟩ | ⟨v2, ms, xa, xc, h3, rfl, hrow, hsc, hf⟩
    · exact on_panic rfl (Eb.bad (ex_no HO3.out h3) (HF1.out.trans (hf.mono fun k _ => HZ1.out k)))
    have HO4 := ex_go HO3.out h3
    have HF2 := hide (HF1.out.trans (hf.mono (Z' := Z) fun k _ => HZ1.out k))
    have HS2 : Hid (∃ nv kv, Scp Z V M nv kv v2 w2) := by
      obtain ⟨nv, kv, hs⟩ := hsc
      exact ⟨nv, kv, hs.mono fun k _ => HZ1.out k⟩
    clear hE h3 hrow hsc hf
    go_wp2_with fail
    go_end0
    exact Eb.ok HO4 HF2.out HS2.out
end
end Go.Proofs.YtbdlgglbcaoakaaGreat
/- How many variables a rule can have. -/
namespace Go.Proofs.YtbdlgglbcaoakaaGreat

theorem ex_ok {α β : Type} {x : Er α} {f : α → Er β} {b : β} (h : (x >>= f) = .ok b) : ∃ a, x = .ok a ∧ f a = .ok b := by
  cases x with
  | error c => cases h
  | ok a => exact ⟨a, rfl, h⟩
theorem ok_inj {α : Type} {a b : α} (h : (Except.ok a : Er α) = .ok b) : a = b := by injection h
theorem bindM_len {v v' : Scope} {s : Bytes} {k : Int} (h : bindM v s k = .ok v') : v'.length ≤ v.length + 1 := by
  unfold bindM at h
  obtain ⟨_, _, h2⟩ := ex_ok h
  rw [← ok_inj h2]
  exact bind_len _ _ _
theorem argsM_len {C : Ctx} : ∀ (l k : List Bytes) (v : Scope) (ms : List Nat) (x : Scope × List Nat), argsM C v ms l k = .ok x → x.1.length ≤ v.length + l.length := by
  intro l
  induction l with
  | nil => intro k v ms x h; unfold argsM at h; rw [← ok_inj h]; simp
  | cons s r ih =>
    intro k v ms x h
    cases k with
    | nil => unfold argsM at h; rw [← ok_inj h]; simp
    | cons k q =>
      unfold argsM at h
      by_cases hv : isVarB s = true
      · rw [if_pos hv] at h
        obtain ⟨v2, h1, h2⟩ := ex_ok h
        have := ih q v2 ms x h2
        have := bindM_len h1
        simp
        omega
      · rw [if_neg hv] at h
        obtain ⟨m, _, h2⟩ := ex_ok h
        obtain ⟨_, _, h3⟩ := ex_ok h2
        have := ih q v _ x h3
        simp
        omega
theorem argumentsM_len {C : Ctx} {v : Scope} {p : PredM} {l : List Bytes} {x : Scope × List Nat} (h : argumentsM C v p l = .ok x) (h4 : p.kinds.length ≤ 4) : x.1.length ≤ v.length + 4 := by
  unfold argumentsM at h
  obtain ⟨_, h1, h2⟩ := ex_ok h
  have := argsM_len _ _ _ _ _ h2
  have hl : l.length = p.kinds.length := by
    by_cases hh : (l.length : Int) = (p.kinds.length : Int)
    · omega
    · rw [decide_eq_false hh] at h1; cases h1
  omega
theorem literalM_len {C : Ctx} (hp : ∀ p ∈ C.preds, p.kinds.length ≤ 4) {v : Scope} {l : LitM} {x : Scope × List Nat} (h : literalM C v l = .ok x) : x.1.length ≤ v.length + 4 := by
  unfold literalM at h
  obtain ⟨p, hp1, h⟩ := ex_ok h
  obtain ⟨_, _, h⟩ := ex_ok h
  obtain ⟨y, hy, h⟩ := ex_ok h
  obtain ⟨_, _, h⟩ := ex_ok h
  obtain ⟨_, _, h⟩ := ex_ok h
  obtain ⟨_, _, h⟩ := ex_ok h
  rw [← ok_inj h]
  exact argumentsM_len hy (hp p (findPredM_mem hp1))
theorem termM_len {C : Ctx} (hp : ∀ p ∈ C.preds, p.kinds.length ≤ 4) {v v' : Scope} {t : TermM} (h : termM C v t = .ok v') : v'.length ≤ v.length + 4 := by
  unfold termM at h
  by_cases ht : t.pred = []
  · rw [if_pos ht] at h
    obtain ⟨_, _, h⟩ := ex_ok h
    obtain ⟨_, _, h⟩ := ex_ok h
    rw [← ok_inj h]; omega
  · rw [if_neg ht] at h
    obtain ⟨p, hp1, h⟩ := ex_ok h
    obtain ⟨_, _, h⟩ := ex_ok h
    obtain ⟨_, _, h⟩ := ex_ok h
    obtain ⟨y, hy, h⟩ := ex_ok h
    rw [← ok_inj h]
    exact argumentsM_len hy (hp p (findPredM_mem hp1))
theorem termsM_len {C : Ctx} (hp : ∀ p ∈ C.preds, p.kinds.length ≤ 4) : ∀ (l : List TermM) (v v' : Scope), termsM C v l = .ok v' → v'.length ≤ v.length + 4 * l.length := by
  intro l
  induction l with
  | nil => intro v v' h; unfold termsM at h; rw [← ok_inj h]; simp
  | cons t r ih =>
    intro v v' h
    unfold termsM at h
    obtain ⟨v2, h1, h2⟩ := ex_ok h
    have := ih _ _ h2
    have := termM_len hp h1
    simp
    omega
theorem side_len {l : List TermM} (h : sideB l = true) : 1 ≤ l.length ∧ l.length ≤ 8 := by unfold sideB at h; simpa using h
theorem guardM_len {C : Ctx} (hp : ∀ p ∈ C.preds, p.kinds.length ≤ 4) {v v' : Scope} {g : GuardM} (h : guardM C v g = .ok v') : v'.length ≤ v.length + 64 := by
  unfold guardM at h
  obtain ⟨_, _, h⟩ := ex_ok h
  obtain ⟨_, h1, h⟩ := ex_ok h
  obtain ⟨v2, h2, h⟩ := ex_ok h
  have a := termsM_len hp _ _ _ h2
  have b := termsM_len hp _ _ _ h
  have hs : sideB g.left = true ∧ sideB g.right = true := by
    cases hb : sideB g.left && sideB g.right with
    | false => rw [hb] at h1; cases h1
    | true => simpa using hb
  have := side_len hs.1
  have := side_len hs.2
  omega
theorem unlikeM_len {C : Ctx} {v v' : Scope} {s : Bytes} (h : unlikeM C v s = .ok v') : v'.length ≤ v.length + 1 := by
  unfold unlikeM at h
  by_cases hv : isVarB s = true
  · rw [if_pos hv] at h; rw [← ok_inj h]; exact stand_len _ _
  · rw [if_neg hv] at h
    obtain ⟨_, _, h⟩ := ex_ok h
    rw [← ok_inj h]; omega
theorem premM_len {C : Ctx} (hp : ∀ p ∈ C.preds, p.kinds.length ≤ 4) {v v' : Scope} {q : PremM} (h : premM C v q = .ok v') : v'.length ≤ v.length + 64 := by
  unfold premM at h
  by_cases h1 : q.kind = 1
  · rw [if_pos h1] at h
    obtain ⟨x, hx, h⟩ := ex_ok h
    have := literalM_len hp hx
    rw [← ok_inj h]; omega
  · rw [if_neg h1] at h
    by_cases h2 : q.kind = 2
    · rw [if_pos h2] at h
      exact guardM_len hp h
    · rw [if_neg h2] at h
      by_cases h3 : q.kind = 3
      · rw [if_pos h3] at h
        obtain ⟨v2, hx, h⟩ := ex_ok h
        have := unlikeM_len hx
        have := unlikeM_len h
        omega
      · rw [if_neg h3] at h; cases h
end Go.Proofs.YtbdlgglbcaoakaaGreat
