/- Vars: what is asked behind Check. -/
import Derived.Test.YtfnobccminhjpaaGreatLess8
namespace Go.Proofs.YtfnobccminhjpaaGreat
open Go.RowKit Go.Shelf Go.Maps Go.WideMaps
theorem ruleM_sixteen {C : Ctx} {a b : List Bytes} {n : Nat} {t : RuleM} (h : ruleM C a b n t = .ok ()) : t.body.length ≤ 16 := by
  unfold ruleM at h
  obtain ⟨_, _, h⟩ := ex_ok h
  obtain ⟨_, _, h⟩ := ex_ok h
  obtain ⟨_, _, h⟩ := ex_ok h
  obtain ⟨_, _, h⟩ := ex_ok h
  obtain ⟨_, _, h⟩ := ex_ok h
  obtain ⟨_, h1, _⟩ := ex_ok h
  apply Classical.byContradiction
  intro hn
  rw [decide_eq_false (show ¬ ((t.body.length : Int) ≤ 16) by omega)] at h1
  cases h1
section
variable {R : Nat} {S : StatM} {st : St9} {mp : Mp8} {it : Nat} {seen : List Bytes} {w w' : World}
/-- How the asking of one rule's variables ends. -/
def Ev (vb : Nat) (w : World) (it : Int) (o : Er Scope) (e : Ending) (w' : World) : Prop := Fr (fun k => k = vb) w w' ∧ match o with
  | .ok v' => e = .returned (.tuple #[]) ∧ ∃ Z V M nv kv, w'.heap[vb]? = some (.cells #[ptr V] 90 (0, 0)) ∧ Scp Z V M nv kv v' w' ∧ (∀ k, Z k → w.heap.size ≤ k)
  | .error c => e = .panicked [fl c it]
def varsM (S : StatM) (k : Int) : Er Scope := wantM (decide (0 ≤ k) && decide (k < (S.rules.length : Int))) 1 >>= fun _ => match S.rules[k.toNat]? with
  | some t => partsM S.ctx t
  | none => .error 1
set_option maxRecDepth 100000 in
set_option maxHeartbeats 6400000 in
theorem vars1_any (h : Res R S st mp it seen w) (hp4 : ∀ p ∈ S.preds, p.kinds.length ≤ 4) (h16 : ∀ t ∈ S.rules, t.body.length ≤ 16) (k : Int) {kb sb vb : Nat} {y : Value} {a : Option Addr} {c : Nat} (hk : w.cell? ⟨kb, 0, none⟩ = some (.int .i64 k)) (hs : w.cell? ⟨sb, 6, none⟩ = some (.slice a S.rules.length c)) (hl : RR R 11 (cRule R) w S.rules (.slice a S.rules.length c)) (hv : w.heap[vb]? = some (.cells #[y] 90 (0, 0))) :
    Calls Tryz.prog 52 #[ptr R, ptr kb, ptr sb, ptr vb] w fun e w' => Ev vb w it (varsM S k) e w' := by
  have hll : S.rules.length ≤ 140737488351232 := by obtain ⟨_, _, _, _, h⟩ := hl.form; exact h
  have CW := hide (fun b c => want_any h.c9 b c)
  obtain ⟨o, ho⟩ : ∃ o, varsM S k = o := ⟨_, rfl⟩
  rw [ho]
  have HO := hide ho
  unfold varsM at HO
  have H := hide h
  have HP4 := hide hp4
  have HV := hide hv
  have H16 := hide h16
  have HL := hide hl
  clear h hp4 h16 ho hl hv
  by_cases h0 : 0 ≤ k
  case neg =>
    rw [decide_eq_false h0, Bool.false_and] at HO
    have h0' : k < 0 := by omega
    go_enter Tryz.func52, Tryz.ntmps52
    go_wp2_with fail
    refine (CW.out _ _).mono ?_
    intro e w2 hE
    rcases hE.no with ⟨c1, h3, rfl, hw⟩ | ⟨_, h3, rfl, hw⟩
    · subst w2
      refine on_panic rfl ?_
      rw [← ex_no HO.out h3]
      exact ⟨.refl _ _, rfl⟩
    · cases h3
  rw [decide_eq_true h0, Bool.true_and] at HO
  by_cases hlt : k < (S.rules.length : Int)
  case neg =>
    rw [decide_eq_false hlt] at HO
    have hd : decide (k < (S.rules.length : Int)) = false := decide_eq_false hlt
    go_enter Tryz.func52, Tryz.ntmps52
    go_wp2_with fail
    refine (CW.out _ _).mono ?_
    intro e w2 hE
    rcases hE.no with ⟨c1, h3, rfl, hw⟩ | ⟨_, h3, rfl, hw⟩
    · subst w2
      refine on_panic rfl ?_
      rw [← ex_no HO.out (want_f rfl)]
      have : c1 = 1 := want_err1 h3
      subst this
      exact ⟨.refl _ _, rfl⟩
    · exfalso; first | cases h3 | (rw [hd] at h3; cases h3)
  rw [decide_eq_true hlt] at HO
  obtain ⟨n, rfl⟩ : ∃ n : Nat, k = n := ⟨k.toNat, by omega⟩
  have hn : n < S.rules.length := by omega
  obtain ⟨x, hx⟩ : ∃ x, S.rules[n]? = some x := ⟨S.rules[n], List.getElem?_eq_getElem hn⟩
  have HO1 : Hid (partsM S.ctx x = o) := by
    have := ex_go HO.out (want_t rfl)
    rw [Int.toNat_natCast, hx] at this
    exact this
  obtain ⟨gg, oo, ba, bc, ka, kc, hga, hg, e0, e1, e2, e3, e4, e5, e6, e7, e8, e9, e10, hs1, hs2, hs3, hbs, hks⟩ := at_R HL.out hx
  cases hga
  have CP := hide (parts_any H.out HP4.out x hbs hs3 hks (H16.out x (List.mem_iff_getElem?.2 ⟨n, hx⟩)))
  unfold ruleV at CP
  unfold str at *
  clear hx hbs hks HO
  go_enter Tryz.func52, Tryz.ntmps52
  go_wp2_with fail
  refine (CW.out _ _).mono ?_
  intro e w2 hE
  rcases hE.no with ⟨c1, h3, rfl, hw⟩ | ⟨_, h3, rfl, hw⟩
  · exfalso
    first | cases h3 | (rw [decide_eq_true hlt] at h3; cases h3)
  subst w2
  clear hE h3
  go_wp2_with fail
  refine CP.out.mono ?_
  intro e w2 hE
  rcases hE.no with ⟨c1, h3, rfl, hf⟩ | ⟨v2, Z, V, M, nv, kv, h3, rfl, hs', hz, hf⟩
  · refine on_panic rfl ?_
    rw [← HO1.out, h3]
    exact ⟨.of_below hf, rfl⟩
  have hvb := (hf.block vb (loc_lt HV.out)).trans HV.out
  have q0 := cell_of_row w2 vb 0 _ _ _ hvb
  simp only [List.getElem?_toArray, List.getElem?_cons_zero] at q0
  have qf := frozen_of_row w2 vb 0 _ _ hvb
  have hlv := loc_lt HV.out
  have HA := hide (loc_set (i := 0) (v := ptr V) hvb)
  have HF := hide ((Fr.of_below (Z := fun k => k = vb) hf).trans (.setCell ⟨vb, 0, none⟩ (ptr V) rfl))
  have HS := hide (hs'.keep (w' := w2.setCell ⟨vb, 0, none⟩ (ptr V)) fun k hk _ => heap_setCell_other w2 ⟨vb, 0, none⟩ k _ (by have := hz k hk; show k ≠ vb; omega))
  have HZ := hide hz
  have HO2 : Hid (.ok v2 = o) := h3.symm.trans HO1.out
  clear hE h3 hs' hz hf CP CW hvb e0 e1 e2 e3 e4 e5 e6 e7 e8 e9 e10 hk hs HL HO1
  go_wp2_with fail
  go_end0
  rw [← HO2.out]
  exact ⟨HF.out, rfl, Z, V, M, nv, kv, HA.out, HS.out, HZ.out⟩
end
end Go.Proofs.YtfnobccminhjpaaGreat
