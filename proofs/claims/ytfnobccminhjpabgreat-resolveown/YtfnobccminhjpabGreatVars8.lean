/- Vars: what is asked behind Check. -/
import Derived.Test.YtfnobccminhjpabGreatLess8
namespace Go.Proofs.YtfnobccminhjpabGreat
open Go.RowKit Go.Shelf Go.Maps Go.WideMaps
theorem ruleM_sixteen {C : Ctx} {a b : List Bytes} {n : Nat} {t : RuleM} (h : ruleM C a b n t = .ok ()) : t.body.length ≤ 16 := by
  unfold ruleM at h
  obtain ⟨_, _, h⟩ := ex_ok h
  obtain ⟨_, _, h⟩ := ex_ok h
  obtain ⟨_, _, h⟩ := ex_ok h
  obtain ⟨_, _, h⟩ := ex_ok h
  obtain ⟨_, _, h⟩ := ex_ok h
  obtain ⟨_, h1, _⟩ := ex_ok h
  apply Classical.byContradiction
  intro hn
  rw [decide_eq_false (show ¬ ((t.body.length : Int) ≤ 16) by omega)] at h1
  cases h1
section
variable {R : Nat} {S : StatM} {st : St9} {mp : Mp8} {it : Nat} {seen : List Bytes} {w w' : World}
/-- How the asking of one rule's variables ends. -/
def Ev (vb : Nat) (w : World) (it : Int) (o : Er Scope) (e : Ending) (w' : World) : Prop := Fr (fun k => k = vb) w w' ∧ match o with
  | .ok v' => e = .returned (.tuple #[]) ∧ ∃ Z V M nv kv, w'.heap[vb]? = some (.cells #[ptr V] 95 (0, 0)) ∧ Scp Z V M nv kv v' w' ∧ (∀ k, Z k → w.heap.size ≤ k)
  | .error c => e = .panicked [fl c it]
def varsM (S : StatM) (k : Int) : Er Scope := wantM (decide (0 ≤ k) && decide (k < (S.rules.length : Int))) 1 >>= fun _ => match S.rules[k.toNat]? with
  | some t => partsM S.ctx t
  | none => .error 1
set_option maxRecDepth 100000 in
set_option maxHeartbeats 6400000 in
theorem vars1_any (h : Res R S st mp it seen w) (hp4 : ∀ p ∈ S.preds, p.kinds.length ≤ 4) (h16 : ∀ t ∈ S.rules, t.body.length ≤ 16) (k : Int) {kb sb vb : Nat} {y : Value} {a : Option Addr} {c : Nat} (hk : w.cell? ⟨kb, 0, none⟩ = some (.int .i64 k)) (hs : w.cell? ⟨sb, 6, none⟩ = some (.slice a S.rules.length c)) (hl : RR R 11 (cRule R) w S.rules (.slice a S.rules.length c)) (hv : w.heap[vb]? = some (.cells #[y] 95 (0, 0))) :
    Calls Tryz.prog 18 #[ptr R, ptr kb, ptr sb, ptr vb] w fun e w' => Ev vb w it (varsM S k) e w' := by
  have hll : S.rules.length ≤ 140737488351232 := by obtain ⟨_, _, _, _, h⟩ := hl.form; exact h
  have CW := hide (fun b c => want_any h.c9 b c)
  obtain ⟨o, ho⟩ : ∃ o, varsM S k = o := ⟨_, rfl⟩
  rw [ho]
  have HO := hide ho
  unfold varsM at HO
  have H := hide h
  have HP4 := hide hp4
  have HV := hide hv
  have H16 := hide h16
  have HL := hide hl
  clear h hp4 h16 ho hl hv
  by_cases h0 : 0 ≤ k
  case neg =>
    rw [decide_eq_false h0, Bool.false_and] at HO
    have h0' : k < 0 := by omega
    go_enter Tryz.func18, Tryz.ntmps18
    go_wp2_with fail
    refine (CW.out _ _).mono ?_
    intro e w2 hE
    rcases hE.no with ⟨c1, h3, rfl, hw⟩ | ⟨_, h3, rfl, hw⟩
    · subst w2
      refine on_panic rfl ?_
      rw [← ex_no HO.out h3]
      exact ⟨.refl _ _, rfl⟩
    · cases h3
  rw [decide_eq_true h0, Bool.true_and] at HO
  by_cases hlt : k < (S.rules.length : Int)
  case neg =>
    rw [decide_eq_false hlt] at HO
    have hd : decide (k < (S.rules.length : Int)) = false := decide_eq_false hlt
    go_enter Tryz.func18, Tryz.ntmps18
    go_wp2_with fail
    refine (CW.out _ _).mono ?_
    intro e w2 hE
    rcases hE.no with ⟨c1, h3, rfl, hw⟩ | ⟨_, h3, rfl, hw⟩
    · subst w2
      refine on_panic rfl ?_
      rw [← ex_no HO.out (want_f rfl)]
      have : c1 = 1 := want_err1 h3
      subst this
      exact ⟨.refl _ _, rfl⟩
    · exfalso; first | cases h3 | (rw [hd] at h3; cases h3)
  rw [decide_eq_true hlt] at HO
  obtain ⟨n, rfl⟩ : ∃ n : Nat, k = n := ⟨k.toNat, by omega⟩
  have hn : n < S.rules.length := by omega
  obtain ⟨x, hx⟩ : ∃ x, S.rules[n]? = some x := ⟨S.rules[n], List.getElem?_eq_getElem hn⟩
  have HO1 : Hid (partsM S.ctx x = o) := by
    have := ex_go HO.out (want_t rfl)
    rw [Int.toNat_natCast, hx] at this
    exact this
  obtain ⟨gg, oo, ba, bc, ka, kc, hga, hg, e0, e1, e2, e3, e4, e5, e6, e7, e8, e9, e10, hs1, hs2, hs3, hbs, hks⟩ := at_R HL.out hx
  cases hga
  have CP := hide (parts_any H.out HP4.out x hbs hs3 hks (H16.out x (List.mem_iff_getElem?.2 ⟨n, hx⟩)))
  unfold ruleV at CP
  unfold str at *
  clear hx hbs hks HO
  go_enter Tryz.func18, Tryz.ntmps18
  go_wp2_with fail
  refine (CW.out _ _).mono ?_
  intro e w2 hE
  rcases hE.no with ⟨c1, h3, rfl, hw⟩ | ⟨_, h3, rfl, hw⟩
  · exfalso
    first | cases h3 | (rw [decide_eq_true hlt] at h3; cases h3)
  subst w2
  clear hE h3
  go_wp2_with fail
  refine CP.out.mono ?_
  intro e w2 hE
  rcases hE.no with ⟨c1, h3, rfl, hf⟩ | ⟨v2, Z, V, M, nv, kv, h3, rfl, hs', hz, hf⟩
  · refine on_panic rfl ?_
    rw [← HO1.out, h3]
    exact ⟨.of_below hf, rfl⟩
  have hvb := (hf.block vb (loc_lt HV.out)).trans HV.out
  have q0 := cell_of_row w2 vb 0 _ _ _ hvb
  simp only [List.getElem?_toArray, List.getElem?_cons_zero] at q0
  have qf := frozen_of_row w2 vb 0 _ _ hvb
  have hlv := loc_lt HV.out
  have HA := hide (loc_set (i := 0) (v := ptr V) hvb)
  have HF := hide ((Fr.of_below (Z := fun k => k = vb) hf).trans (.setCell ⟨vb, 0, none⟩ (ptr V) rfl))
  have HS := hide (hs'.keep (w' := w2.setCell ⟨vb, 0, none⟩ (ptr V)) fun k hk _ => heap_setCell_other w2 ⟨vb, 0, none⟩ k _ (by have := hz k hk; show k ≠ vb; omega))
  have HZ := hide hz
  have HO2 : Hid (.ok v2 = o) := h3.symm.trans HO1.out
  clear hE h3 hs' hz hf CP CW hvb e0 e1 e2 e3 e4 e5 e6 e7 e8 e9 e10 hk hs HL HO1
  go_wp2_with fail
  go_end0
  rw [← HO2.out]
  exact ⟨HF.out, rfl, Z, V, M, nv, kv, HA.out, HS.out, HZ.out⟩
end
end Go.Proofs.YtfnobccminhjpabGreat
/- The first fault, a rule's variables asked besides. -/
namespace Go.Proofs.YtfnobccminhjpabGreat
open Go.RowKit Go.Shelf Go.Maps Go.WideMaps
section
variable {S : StatM} {st : St9} {w w' : World}
/-- How the first fault is told when a rule's variables are asked besides. -/
def Ew (vb : Nat) (w : World) (c : Int) (n : Nat) (o : Er Scope) (e : Ending) (w' : World) : Prop := Fr (fun k => k = vb) w w' ∧ ((c ≠ 0 ∧ e = .returned (.agg #[.int .i64 c, .int .i64 n])) ∨ (c = 0 ∧ ∃ d, o = .error d ∧ e = .returned (.agg #[.int .i64 d, .int .i64 n])) ∨ (c = 0 ∧ ∃ v Z V M nv kv, o = .ok v ∧ e = .returned (.agg #[.int .i64 0, .int .i64 n]) ∧ w'.heap[vb]? = some (.cells #[ptr V] 95 (0, 0)) ∧ Scp Z V M nv kv v w' ∧ ∀ k, Z k → w.heap.size ≤ k))
set_option maxRecDepth 100000 in
set_option maxHeartbeats 12800000 in
theorem firstV_any (h : SR w.heap.size w S st) (k : Int) {kb sb vb : Nat} {y : Value} (hkk : w.cell? ⟨kb, 0, none⟩ = some (.int .i64 k)) (hss : w.cell? ⟨sb, 6, none⟩ = some st.rules) (hvv : w.heap[vb]? = some (.cells #[y] 95 (0, 0))) : Calls Tryz.prog 17 #[st.agg, .func (.func 18) #[] #[ptr kb, ptr sb, ptr vb]] w fun e w' => Ew vb w (checkM S).1 (checkM S).2 (varsM S k) e w' := by
  obtain ⟨c0, n0, hck⟩ : ∃ c n, checkM S = (c, n) := ⟨_, _, rfl⟩
  rw [hck]
  have HCK := hide hck
  have HKK := hide hkk
  have HVV := hide hvv
  have hlk := World.block_lt_of_cell? w _ hkk
  have hls := World.block_lt_of_cell? w _ hss
  have hlv := loc_lt hvv
  simp only at hlk hls
  clear hck
  obtain ⟨tt, ht⟩ := h.title
  obtain ⟨a1, b1, f1, _, l1⟩ := h.kinds.form
  obtain ⟨a2, b2, f2, _, l2⟩ := h.members.form
  obtain ⟨a3, b3, f3, _, l3⟩ := h.preds.form
  obtain ⟨a4, b4, f4, _, l4⟩ := h.classes.form
  obtain ⟨a5, b5, f5, _, l5⟩ := h.sources.form
  obtain ⟨a6, b6, f6, _, l6⟩ := h.rules.form
  obtain ⟨a7, b7, f7, _, l7⟩ := h.excepts.form
  obtain ⟨a8, b8, f8, _, l8⟩ := h.totals.form
  obtain ⟨s0, s1, s2, s3, s4, s5, s6, s7, s8⟩ := st
  simp only at ht f1 f2 f3 f4 f5 f6 f7 f8
  simp only at hss
  subst ht f1 f2 f3 f4 f5 f6 f7 f8
  have HSS := hide hss
  clear hkk hvv hss
  have hmf : ∀ (fn : Fn) (first cap : Array Value) (w : World), (Instr.makeFunc fn first cap).run Tryz.prog w = .ok (.func fn first cap) w := fun _ _ _ _ => rfl
  have hA : Below w.heap.size w (((w.alloc (.cells #[.string tt, .slice a1 S.kinds.length b1, .slice a2 S.members.length b2, .slice a3 S.preds.length b3, .slice a4 S.classes.length b4, .slice a5 S.sources.length b5, .slice a6 S.rules.length b6, .slice a7 S.excepts.length b7, .slice a8 S.totals.length b8] 31)).alloc (.cells #[.int .i64 0, .int .i64 0] 97)).alloc (.cells #[.string tt, .slice a1 S.kinds.length b1, .slice a2 S.members.length b2, .slice a3 S.preds.length b3, .slice a4 S.classes.length b4, .slice a5 S.sources.length b5, .slice a6 S.rules.length b6, .slice a7 S.excepts.length b7, .slice a8 S.totals.length b8, .int .i64 0, .map none, .map none, .map none, .map none, .map none, .map none, .map none, .map none] 125)) := (((Below.refl _ w).alloc (Nat.le_refl _) _).alloc (by simp) _).alloc (by simp; omega) _
  have hRaw : Raw (w.heap.size + 1 + 1) S ⟨.string tt, .slice a1 S.kinds.length b1, .slice a2 S.members.length b2, .slice a3 S.preds.length b3, .slice a4 S.classes.length b4, .slice a5 S.sources.length b5, .slice a6 S.rules.length b6, .slice a7 S.excepts.length b7, .slice a8 S.totals.length b8⟩ (((w.alloc (.cells #[.string tt, .slice a1 S.kinds.length b1, .slice a2 S.members.length b2, .slice a3 S.preds.length b3, .slice a4 S.classes.length b4, .slice a5 S.sources.length b5, .slice a6 S.rules.length b6, .slice a7 S.excepts.length b7, .slice a8 S.totals.length b8] 31)).alloc (.cells #[.int .i64 0, .int .i64 0] 97)).alloc (.cells #[.string tt, .slice a1 S.kinds.length b1, .slice a2 S.members.length b2, .slice a3 S.preds.length b3, .slice a4 S.classes.length b4, .slice a5 S.sources.length b5, .slice a6 S.rules.length b6, .slice a7 S.excepts.length b7, .slice a8 S.totals.length b8, .int .i64 0, .map none, .map none, .map none, .map none, .map none, .map none, .map none, .map none] 125)) := by
    refine ⟨?_, SR.mono (by omega) (h.keep fun g hg => hA.block g hg)⟩
    have := heap_alloc_new ((w.alloc (.cells #[.string tt, .slice a1 S.kinds.length b1, .slice a2 S.members.length b2, .slice a3 S.preds.length b3, .slice a4 S.classes.length b4, .slice a5 S.sources.length b5, .slice a6 S.rules.length b6, .slice a7 S.excepts.length b7, .slice a8 S.totals.length b8] 31)).alloc (.cells #[.int .i64 0, .int .i64 0] 97)) (.cells #[.string tt, .slice a1 S.kinds.length b1, .slice a2 S.members.length b2, .slice a3 S.preds.length b3, .slice a4 S.classes.length b4, .slice a5 S.sources.length b5, .slice a6 S.rules.length b6, .slice a7 S.excepts.length b7, .slice a8 S.totals.length b8, .int .i64 0, .map none, .map none, .map none, .map none, .map none, .map none, .map none, .map none] 125)
    simpa using this
  have hq : (((w.alloc (.cells #[.string tt, .slice a1 S.kinds.length b1, .slice a2 S.members.length b2, .slice a3 S.preds.length b3, .slice a4 S.classes.length b4, .slice a5 S.sources.length b5, .slice a6 S.rules.length b6, .slice a7 S.excepts.length b7, .slice a8 S.totals.length b8] 31)).alloc (.cells #[.int .i64 0, .int .i64 0] 97)).alloc (.cells #[.string tt, .slice a1 S.kinds.length b1, .slice a2 S.members.length b2, .slice a3 S.preds.length b3, .slice a4 S.classes.length b4, .slice a5 S.sources.length b5, .slice a6 S.rules.length b6, .slice a7 S.excepts.length b7, .slice a8 S.totals.length b8, .int .i64 0, .map none, .map none, .map none, .map none, .map none, .map none, .map none, .map none] 125)).heap[w.heap.size + 1]? = some (.cells #[.int .i64 0, .int .i64 0] 97 (0, 0)) := by
    have := heap_alloc_new (w.alloc (.cells #[.string tt, .slice a1 S.kinds.length b1, .slice a2 S.members.length b2, .slice a3 S.preds.length b3, .slice a4 S.classes.length b4, .slice a5 S.sources.length b5, .slice a6 S.rules.length b6, .slice a7 S.excepts.length b7, .slice a8 S.totals.length b8] 31)) (.cells #[.int .i64 0, .int .i64 0] 97)
    rw [Below.heap_alloc _ _ _ (by simp)]
    simpa using this
  have CC := hide (counts_any hRaw)
  have HRaw := hide hRaw
  have HQ := hide hq
  have HA := hide hA
  clear h hRaw hq hA
  unfold St9.agg
  simp only
  go_enter_defers Tryz.func17, Tryz.ntmps17
  go_wp2_with fail
  refine CC.out.mono ?_
  intro e X1 hE
  cases hfit : S.fitsB with
  | false =>
    have hck : (c0, n0) = ((3 : Int), 0) := by rw [← HCK.out]; unfold checkM; rw [hfit]; rfl
    cases hck
    rcases hE.no with ⟨c1, h3, rfl, hf⟩ | ⟨_, v, h3, rfl, hrv, hf⟩
    · rw [counts_not hfit] at h3
      cases h3
      have HQ1 := hide ((hf.block _ (loc_lt HQ.out)).trans HQ.out)
      have HB1 := hide (HA.out.trans (hf.mono HA.out.size))
      clear hE hf CC HRaw HQ HA
      go_wp2_with fail
      refine leaves_cons (f := 54) (args := #[.pointer (some ⟨w.heap.size + 1, 0, none⟩)]) (by simp) (by simp [go_sem]) ?_
      refine (catch_fault _ _ _ _ _ _ _ HQ1.out).mono ?_
      rintro e u' w5 ⟨rfl, rfl, hq5, hf5⟩
      have z0 := cell_of_row w5 (w.heap.size + 1) 0 _ _ _ hq5
      have z1 := cell_of_row w5 (w.heap.size + 1) 1 _ _ _ hq5
      simp only [List.getElem?_toArray, List.getElem?_cons_zero, List.getElem?_cons_succ] at z0 z1
      have zf : ∀ i, w5.frozen? ⟨w.heap.size + 1, i, none⟩ = false := fun i => frozen_of_row w5 _ i _ _ hq5
      refine ⟨.agg #[.int .i64 (3), .int .i64 (((0 : Nat) : Int))], ?_, (Fr.of_below (HB1.out.trans (hf5.below fun k hk => ⟨Nat.lt_of_lt_of_le hk HB1.out.size, by show ¬ k = w.heap.size + 1; omega⟩))), .inl ⟨by decide, rfl⟩⟩
      simp [results, Tryz.results17, go_sem, z0, z1]
    · rw [counts_not hfit] at h3
      cases h3
  | true =>
  rcases hE.no with ⟨c1, h3, rfl, hf⟩ | ⟨_, v, h3, rfl, hrv, hf⟩
  · rw [counts_fits hfit] at h3
    cases h3
  have HQ1 := hide ((hf.block _ (loc_lt HQ.out)).trans HQ.out)
  have HB1 := hide (HA.out.trans (hf.mono HA.out.size))
  have CN := hide (number_any (HRaw.out.below hf) hfit)
  have hHC : firstE 0 S.items = (c0, n0) := by rw [← HCK.out]; unfold checkM; rw [hfit]; rfl
  have HC := hide hHC
  clear hE hf h3 hrv CC HRaw HQ HA hHC HCK
  go_wp2_with fail
  refine CN.out.mono ?_
  rintro _ X2 ⟨rfl, hf2, mp, hR2⟩
  have HQ2 := hide ((hf2.block _ (loc_lt HQ1.out) (by show ¬ w.heap.size + 1 = w.heap.size + 1 + 1; omega)).trans HQ1.out)
  have HB2 := hide (HB1.out.trans (hf2.below fun k hk => ⟨Nat.lt_of_lt_of_le hk HB1.out.size, by show ¬ k = w.heap.size + 1 + 1; omega⟩))
  have CI := hide (items_any hR2)
  have hne := hR2.ne.2.2.2.2.2.2.2
  clear CN hf2 hR2 HQ1 HB1
  go_wp2_with fail
  refine CI.out.mono ?_
  rintro _ X3 ⟨hf3, ⟨rfl, ha, hr⟩ | ⟨n, c, hbad, rfl⟩⟩
  rotate_left
  · have hcn := HC.out
    rw [firstE_bad hbad 0] at hcn
    cases hcn
    have HQ3 := hide ((hf3.block _ (loc_lt HQ2.out) (by rintro (a | a) <;> omega)).trans HQ2.out)
    have HB3 := hide (HB2.out.trans (hf3.below fun k hk => ⟨Nat.lt_of_lt_of_le hk HB2.out.size, by rintro (a | a) <;> omega⟩))
    have HNZ : c0 ≠ 0 := nz_items S _ (List.mem_of_getElem? hbad.2) c0 rfl
    clear hf3 CI HQ2 HB2 hbad HC
    go_wp2_with fail
    refine leaves_cons (f := 54) (args := #[.pointer (some ⟨w.heap.size + 1, 0, none⟩)]) (by simp) (by simp [go_sem]) ?_
    refine (catch_fault _ _ _ _ _ _ _ HQ3.out).mono ?_
    rintro e u' w5 ⟨rfl, rfl, hq5, hf5⟩
    have z0 := cell_of_row w5 (w.heap.size + 1) 0 _ _ _ hq5
    have z1 := cell_of_row w5 (w.heap.size + 1) 1 _ _ _ hq5
    simp only [List.getElem?_toArray, List.getElem?_cons_zero, List.getElem?_cons_succ] at z0 z1
    have zf : ∀ i, w5.frozen? ⟨w.heap.size + 1, i, none⟩ = false := fun i => frozen_of_row w5 _ i _ _ hq5
    refine ⟨.agg #[.int .i64 c0, .int .i64 (((0 + n : Nat) : Int))], ?_, (Fr.of_below (HB3.out.trans (hf5.below fun k hk => ⟨Nat.lt_of_lt_of_le hk HB3.out.size, by show ¬ k = w.heap.size + 1; omega⟩))), .inl ⟨HNZ, rfl⟩⟩
    simp [results, Tryz.results17, go_sem, z0, z1]
  have hcn := HC.out
  rw [firstE_ok ha 0] at hcn
  cases hcn
  have hq3 := (hf3.block _ (loc_lt HQ2.out) (by rintro (a | a) <;> omega)).trans HQ2.out
  have HB3 := hide (HB2.out.trans (hf3.below fun k hk => ⟨Nat.lt_of_lt_of_le hk HB2.out.size, by rintro (a | a) <;> omega⟩))
  have hsp := items_split.1 ha
  have HV3 := hide ((HB3.out.block vb hlv).trans HVV.out)
  have CM := hide (vars1_any hr (preds_four hsp.1.1.1.1.1.2) (fun t ht => by
    obtain ⟨i, hi, rfl⟩ := List.getElem_of_mem ht
    exact ruleM_sixteen (AllOk.at.1 hsp.1.1.2 i _ (List.getElem?_eq_getElem hi))) k (kb := kb) (sb := sb) (vb := vb) ((World.cell?_of_block (HB3.out.block kb hlk)).trans HKK.out) ((World.cell?_of_block (HB3.out.block sb hls)).trans HSS.out) hr.rep.rules HV3.out)
  have HR3 := hide hr
  have HQ3 := hide hq3
  have hsz3 := HB3.out.size
  have hlq := loc_lt hq3
  have hlr := loc_lt hr.box
  clear hf3 CI HQ2 HB2 HC ha hr hq3 hsp
  go_wp2_with fail
  refine CM.out.mono ?_
  intro e X4 hE
  obtain ⟨o, ho⟩ : ∃ o, varsM S k = o := ⟨_, rfl⟩
  have HO := hide ho
  rw [ho] at hE
  obtain ⟨hf4, hE⟩ := hE
  have HW4 := hide ((Fr.of_below (Z := fun k => k = vb) HB3.out).trans hf4)
  have hq4 := (hf4.block (w.heap.size + 1) hlq (by show ¬ w.heap.size + 1 = vb; omega)).trans HQ3.out
  have HQ4 := hide hq4
  have hbk := hf4.block (w.heap.size + 1 + 1) hlr (by show ¬ w.heap.size + 1 + 1 = vb; omega)
  have r9 := (World.cell?_of_block hbk).trans HR3.out.c9
  have hsz4 := hf4.size
  clear ho hbk hf4
  cases o with
  | error d =>
    have hE' : e = .panicked [fl d ((0 + S.items.length : Nat) : Int)] := hE
    subst hE'
    clear hE CM r9 hq4
    go_wp2_with fail
    refine leaves_cons (f := 54) (args := #[.pointer (some ⟨w.heap.size + 1, 0, none⟩)]) (by simp) (by simp [go_sem]) ?_
    refine (catch_fault _ _ _ _ _ _ _ HQ4.out).mono ?_
    rintro e u' w5 ⟨rfl, rfl, hq5, hf5⟩
    have z0 := cell_of_row w5 (w.heap.size + 1) 0 _ _ _ hq5
    have z1 := cell_of_row w5 (w.heap.size + 1) 1 _ _ _ hq5
    simp only [List.getElem?_toArray, List.getElem?_cons_zero, List.getElem?_cons_succ] at z0 z1
    refine ⟨.agg #[.int .i64 d, .int .i64 ((0 + S.items.length : Nat) : Int)], ?_, ?_, .inr (.inl ⟨rfl, d, HO.out, rfl⟩)⟩
    · simp [results, Tryz.results17, go_sem, z0, z1]
    · exact ⟨hf5.os.trans HW4.out.os, hf5.tape.trans HW4.out.tape, hf5.output.trans HW4.out.output, Nat.le_trans HW4.out.size hf5.size, fun j hj hn => (hf5.block j (Nat.lt_of_lt_of_le hj HW4.out.size) (by show ¬ j = w.heap.size + 1; omega)).trans (HW4.out.block j hj hn)⟩
  | ok v4 =>
    obtain ⟨rfl, Z, V, M, nv, kv, hb4, hs4, hz4⟩ := hE
    have z0 := cell_of_row X4 (w.heap.size + 1) 0 _ _ _ hq4
    have z1 := cell_of_row X4 (w.heap.size + 1) 1 _ _ _ hq4
    simp only [List.getElem?_toArray, List.getElem?_cons_zero, List.getElem?_cons_succ] at z0 z1
    have zf : ∀ i, X4.frozen? ⟨w.heap.size + 1, i, none⟩ = false := fun i => frozen_of_row X4 _ i _ _ hq4
    have HB4 := hide hb4
    have HS4 := hide hs4
    have HZ4 := hide hz4
    clear CM hb4 hs4 hz4 hq4
    go_wp2_with fail
    refine leaves_cons (f := 54) (args := #[.pointer (some ⟨w.heap.size + 1, 0, none⟩)]) (by simp) (by simp [go_sem]) ?_
    refine (catch_idle _ _).mono ?_
    rintro e u' w5 ⟨rfl, rfl, rfl⟩
    have hoth : ∀ j, j ≠ w.heap.size + 1 → ((X4.setCell ⟨w.heap.size + 1, 0, none⟩ (.int .i64 0)).setCell ⟨w.heap.size + 1, 1, none⟩ (.int .i64 ((S.items.length : Nat) : Int))).heap[j]? = X4.heap[j]? := fun j hj => by
      rw [heap_setCell_other _ _ j _ (by exact hj), heap_setCell_other _ _ j _ (by exact hj)]
    refine ⟨.agg #[.int .i64 0, .int .i64 ((0 + S.items.length : Nat) : Int)], ?_, ?_, .inr (.inr ⟨rfl, v4, Z, V, M, nv, kv, HO.out, rfl, (hoth vb (by omega)).trans HB4.out, HS4.out.keep fun j hj _ => hoth j (by have := HZ4.out j hj; omega), fun j hj => by have := HZ4.out j hj; omega⟩)⟩
    · have hq4 := loc_set (i := 1) (v := .int .i64 ((S.items.length : Nat) : Int)) (loc_set (i := 0) (v := .int .i64 0) HQ4.out)
      simp only [List.setIfInBounds_toArray, List.set_cons_zero, List.set_cons_succ] at hq4
      have k0 := cell_of_row _ (w.heap.size + 1) 0 _ _ _ hq4
      have k1 := cell_of_row _ (w.heap.size + 1) 1 _ _ _ hq4
      simp only [List.getElem?_toArray, List.getElem?_cons_zero, List.getElem?_cons_succ] at k0 k1
      simp [results, Tryz.results17, go_sem, k0, k1]
    · exact ⟨HW4.out.os, HW4.out.tape, HW4.out.output, by have := HW4.out.size; simp; omega, fun j hj hn => (hoth j (by omega)).trans (HW4.out.block j hj hn)⟩
end
end Go.Proofs.YtfnobccminhjpabGreat
