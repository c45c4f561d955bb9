/- A ground literal asked. -/
import Derived.Test.YtfnobccminhjpabGreatNz8
import Derived.Test.YtfnobccminhjpabGreatVars8
namespace Go.Proofs.YtfnobccminhjpabGreat
open Go.RowKit Go.Shelf Go.Maps Go.WideMaps

def argsGM (C : Ctx) : List Nat → List Bytes → List Bytes → Er (List Nat)
  | ms, s :: r, k :: q => if isVarB s then .error 86 else findMemberM C s >>= fun m => wantM (decide ((C.members.getD m ([], [])).2 = k)) 81 >>= fun _ => argsGM C (ms ++ [m]) r q
  | ms, _, _ => .ok ms
def argumentsGM (C : Ctx) (p : PredM) (l : List Bytes) : Er (List Nat) := wantM (decide ((l.length : Int) = (p.kinds.length : Int))) 83 >>= fun _ => argsGM C [] l p.kinds
def literalGM (C : Ctx) (l : LitM) : Er (List Nat) :=
  findPredM C l.pred >>= fun p =>
  wantM (!decide (p.sort = 2)) 84 >>= fun _ =>
  argumentsGM C p l.args >>= fun x =>
  wantM (l.hasValue == decide (p.sort = 3)) 84 >>= fun _ =>
  wantM (l.hasValue || decide (l.value = 0)) 84 >>= fun _ =>
  wantM (!l.hasValue || decide (l.value ∈ p.values)) 85 >>= fun _ => .ok x
/-- Members' numbers in a row not below b. -/
def rG (b : Nat) (w : World) (ms : List Nat) (v : Value) : Prop := ∃ a c, v = .slice a ms.length c ∧ w.ownsRow b 3 1 (.slice a ms.length c) ms.length (nats ms)

theorem owns_down' {w : World} {b b' e k n : Nat} {u : Value} {xs : List Value} (h : w.ownsRow b e k u n xs) (hb : b' ≤ b) : w.ownsRow b' e k u n xs := by
  obtain ⟨h1, h2⟩ := h
  refine ⟨h1, ?_⟩
  rcases h2 with h2 | ⟨g, cap, cur, e, hg, h4⟩
  · exact .inl h2
  · exact .inr ⟨g, cap, cur, e, Nat.le_trans hb hg, h4⟩
section
variable {R : Nat} {S : StatM} {st : St9} {mp : Mp8} {it : Nat} {seen : List Bytes} {X : World}
set_option maxRecDepth 100000 in
set_option maxHeartbeats 1600000 in
theorem closG_any {rb : Nat} (hr : X.cell? ⟨rb, 0, none⟩ = some (ptr R)) (h9 : X.cell? ⟨R, 9, none⟩ = some (.int .i64 it)) (s : Bytes) (k : Int) :
    Calls Tryz.prog 24 #[str s, .int .i64 k, ptr rb] X fun e X' => e = .panicked [fl 86 it] ∧ X' = X := by
  have CF := hide (fail_any h9 86)
  unfold str
  go_enter Tryz.func24, Tryz.ntmps24
  go_wp2_with fail
  refine CF.out.mono ?_
  rintro _ w1 ⟨rfl, hw⟩
  subst w1
  exact on_panic rfl ⟨rfl, rfl⟩

/-- What stands in the midst of the arguments. -/
structure AG (R : Nat) (S : StatM) (st : St9) (mp : Mp8) (it : Nat) (seen : List Bytes) (X : World) (l : List Bytes) (p : PredM) (pv : Array Value) (o : Er (List Nat)) (i : Nat) (ms : List Nat) (mv : Value) (wr : World) : Prop where
  res : Res R S st mp it seen wr
  low : Below X.heap.size X wr
  row : wr.ownsRow (X.heap.size + 1) 3 1 mv ms.length (nats ms)
  mod : argsGM S.ctx ms (l.drop i) (p.kinds.drop i) = o
  box : wr.heap[X.heap.size]? = some (.cells pv 115 (0, 0))

set_option maxRecDepth 100000 in
set_option maxHeartbeats 12800000 in
theorem argsG_any (h : Res R S st mp it seen X) {rb : Nat} (hrb : X.cell? ⟨rb, 0, none⟩ = some (ptr R)) (p : PredM) {ka va : Option Addr} {kc vc : Nat} (hpk : Strs X.heap.size X p.kinds (.slice ka p.kinds.length kc)) (hp4 : p.kinds.length ≤ 4) (l : List Bytes) {aa : Option Addr} {ac : Nat} (hl : Strs X.heap.size X l (.slice aa l.length ac)) :
    Calls Tryz.prog 65 #[ptr R, .agg (predV p ka kc va vc), .slice aa l.length ac, .func (.func 24) #[] #[ptr rb]] X fun e X' => Ed X it (rG X.heap.size) (argumentsGM S.ctx p l) e X' := by
  have hA : Below X.heap.size X (X.alloc (.cells (predV p ka kc va vc) 115)) := (Below.refl _ _).alloc (Nat.le_refl _) _
  have h1 := h.below hA
  have CW := hide (fun b c => want_any h1.c9 b c)
  have HF0 := hide hA
  have hbx := heap_alloc_new X (.cells (predV p ka kc va vc) 115)
  have HBX := hide hbx
  have b2 := cell_of_row _ X.heap.size 2 _ _ _ hbx
  simp only [predV, List.getElem?_toArray, List.getElem?_cons_zero, List.getElem?_cons_succ] at b2
  have H1 := hide h1
  have H0 := hide h
  have HPK := hide hpk
  have HL := hide hl
  have hll : l.length ≤ 140737488351232 := by obtain ⟨_, _, _, _, h⟩ := hl.form; exact h
  have HRB := hide hrb
  obtain ⟨o, ho⟩ : ∃ o, argumentsGM S.ctx p l = o := ⟨_, rfl⟩
  rw [ho]
  have HO := hide ho
  unfold argumentsGM at HO
  obtain ⟨iM, hiM, zM0, zM1, zM2⟩ := info_parts' infoI
  simp only [predV] at *
  clear h h1 hA ho hpk hl hbx hrb
  go_enter Tryz.func65, Tryz.ntmps65
  rw [show decide ((l.length : Int) = (p.kinds.length : Int)) = ((l.length : Int) == (p.kinds.length : Int)) from rfl] at HO
  go_wp2_with fail
  refine (CW.out _ _).mono ?_
  intro e w1 hE
  rcases hE.no with ⟨c1, h3, rfl, hw⟩ | ⟨_, h3, rfl, hw⟩
  · subst w1
    exact on_panic rfl (Ed.bad (ex_no HO.out h3) HF0.out)
  subst w1
  have hlen : l.length = p.kinds.length := by
    by_cases hh : (l.length : Int) = (p.kinds.length : Int)
    · omega
    · rw [show ((l.length : Int) == (p.kinds.length : Int)) = false from beq_eq_false_iff_ne.2 hh] at h3; cases h3
  have HO2 := hide (ex_go HO.out h3)
  have HLN := hide hlen
  clear hE h3 HO CW
  go_wp2_with fail
  go_loopw [9, 23] (fun m x wr => ∃ (i : Nat) (a0 : Option Addr) (c0 : Nat) (ms : List Nat), i ≤ l.length ∧ x = .int .i64 i ∧ m = .slice a0 ms.length c0 ∧ ms.length ≤ i ∧ Hid (AG R S st mp it seen X l p #[.string ⟨p.name.toArray⟩, .int .i64 p.sort, .slice ka p.kinds.length kc, .slice va p.values.length vc] o i ms (.slice a0 ms.length c0) wr)) (fun _ x _ => l.length - (intOf x).toNat)
  case atStart => exact ⟨0, none, 0, [], by omega, rfl, rfl, Nat.le_refl _, hide ⟨H1.out, HF0.out, ⟨rfl, .inl ⟨rfl, rfl⟩⟩, by simpa using HO2.out, HBX.out⟩⟩
  case round =>
    obtain ⟨i, a0, c0, ms, hi, rfl, rfl, hms, HA⟩ := hrel
    clear HO2 HBX
    by_cases hlt : i < l.length
    · obtain ⟨s, hs0⟩ : ∃ s, l[i]? = some s := ⟨l[i], List.getElem?_eq_getElem hlt⟩
      obtain ⟨k, hk0⟩ : ∃ k, p.kinds[i]? = some k := ⟨p.kinds[i]'(by omega), List.getElem?_eq_getElem (by omega)⟩
      have HRX := hide HA.out.res
      obtain ⟨g, oo, rfl, hg, e0, hs⟩ := at_S (HL.out.keep (w' := wr) fun g hg => HA.out.low.block g hg) hs0
      obtain ⟨g2, o2, rfl, hg2, f0, hk⟩ := at_S (HPK.out.keep (w' := wr) fun g hg => HA.out.low.block g hg) hk0
      have d2 := cell_of_row wr X.heap.size 2 _ _ _ HA.out.box
      simp only [List.getElem?_toArray, List.getElem?_cons_zero, List.getElem?_cons_succ] at d2
      have CV := hide (isVar_any ⟨s.toArray⟩ wr)
      have hmod := HA.out.mod
      rw [drop_c hs0, drop_c hk0] at hmod
      unfold argsGM at hmod
      have HMOD := hide hmod
      have c10 := HRX.out.c10
      have c2 := HRX.out.c2
      have hlk := fun q => look_S (w := wr.drewN q) (HRX.out.mK'.keep rfl) k hk
      unfold str at *
      clear hmod hs0 hk0
      cases hv : isVarB s with
      | true =>
        rw [show (⟨s.toArray⟩ : ByteArray).data.toList = s from rfl, hv] at CV
        rw [if_pos hv] at HMOD
        have CC := hide (fun Y (hY : Lk wr Y) => closG_any (X := Y) (rb := rb) ((World.cell?_of_block (hY.below.block rb (Nat.lt_of_lt_of_le (World.block_lt_of_cell? X _ HRB.out) HA.out.low.size))).trans ((World.cell?_of_block (HA.out.low.block rb (World.block_lt_of_cell? X _ HRB.out))).trans HRB.out)) (HRX.out.like hY).c9 s (posB S.ctx.kinds k))
        unfold str at CC
        go_upto_region 7 with (go_at_call 122; refine CV.out.mono ?_; rintro _ wn ⟨rfl, hwn⟩; subst wn)
        refine region_last (by kernel_rfl) (by kernel_rfl) (by kernel_rfl) (by kernel_rfl) (by kernel_rfl) ?_
        dsimp only [List.dropLast, List.getLast, List.cons_append, List.nil_append]
        repeat (go_big_quiet_step (fail))
        refine wpQuiet_nil ?_
        rintro _ ⟨nq, rfl⟩
        go_wp2_with fail
        refine (CC.out _ .of).mono ?_
        rintro e w2 ⟨rfl, hw⟩
        subst w2
        exact ⟨rfl, Ed.bad HMOD.out (HA.out.low.trans ((below_drewN wr nq).mono HA.out.low.size))⟩
      | false =>
        rw [show (⟨s.toArray⟩ : ByteArray).data.toList = s from rfl, hv] at CV
        rw [if_neg (by rw [hv]; simp)] at HMOD
        have CM := hide (findMember_any HRX.out s hs)
        unfold str vN at CM
        go_wp2_with (go_at_call 122; refine CV.out.mono ?_; rintro _ wn ⟨rfl, hwn⟩; subst wn)
        refine CM.out.mono ?_
        intro e w2 hE
        rcases hE.no with ⟨c1, h3, rfl, hw⟩ | ⟨m, h3, rfl, hw⟩
        · subst w2
          exact ⟨rfl, Ed.bad (ex_no HMOD.out h3) HA.out.low⟩
        subst w2
        have HM2 := hide (ex_go HMOD.out h3)
        have hm1 : m < S.members.length := by
          unfold findMemberM at h3
          cases hw : wantM (isNameB s) 71 with
          | error c => rw [hw] at h3; cases h3
          | ok _ =>
            rw [hw] at h3
            have h4 : findM S.ctx.people s 82 = .ok m := h3
            have := (find_ok h4).2.2
            simpa [Ctx.people, StatM.ctx] using this
        obtain ⟨mm, hmm⟩ : ∃ mm, S.members[m]? = some mm := ⟨S.members[m], List.getElem?_eq_getElem hm1⟩
        have hgd : (S.ctx.members.getD m ([], [])).2 = mm.2 := by show (S.members.getD m ([], [])).2 = mm.2; rw [List.getD_eq_getElem?_getD, hmm]; rfl
        rw [hgd] at HM2
        obtain ⟨ma, mc, hmv, -, -⟩ := HRX.out.rep.members.form
        rw [hmv] at c2
        have hmr := HRX.out.rep.members
        rw [hmv] at hmr
        obtain ⟨g3, o3, rfl, hg3, -, m2, -, -⟩ := at_M hmr hmm
        have CW := hide (fun Y (hY : Lk wr Y) b c => want_any (HRX.out.like hY).c9 b c)
        unfold str at m2
        generalize mm.2 = mk at m2 HM2
        rw [show decide (mk = k) = (mk == k) from by rw [Bool.eq_iff_iff]; simp] at HM2
        clear hE h3 HMOD CM hmm hgd hmr hmv
        go_upto_region 9 with fail
        refine region_last (by kernel_rfl) (by kernel_rfl) (by kernel_rfl) (by kernel_rfl) (by kernel_rfl) ?_
        dsimp only [List.dropLast, List.getLast, List.cons_append, List.nil_append]
        repeat (go_big_quiet_step (fail))
        refine wpQuiet_nil ?_
        rintro _ ⟨nq, rfl⟩
        go_wp2_with fail
        refine (CW.out _ .of _ _).mono ?_
        intro e w2 hE
        rcases hE.no with ⟨c1, h3, rfl, hw⟩ | ⟨_, h3, rfl, hw⟩
        · subst w2
          exact ⟨rfl, Ed.bad (ex_no HM2.out h3) (HA.out.low.trans ((below_drewN wr nq).mono HA.out.low.size))⟩
        subst w2
        have HM3 := hide (ex_go HM2.out h3)
        have HAD : Hid (AG R S st mp it seen X l p #[.string ⟨p.name.toArray⟩, .int .i64 p.sort, .slice (some ⟨g2, o2, none⟩) p.kinds.length kc, .slice va p.values.length vc] (argsGM S.ctx ms (l.drop i) (p.kinds.drop i)) i ms (.slice a0 ms.length c0) (wr.drewN nq)) := hide ⟨HRX.out.below (below_drewN wr nq), HA.out.low.trans ((below_drewN wr nq).mono HA.out.low.size), owns_keep HA.out.row fun _ _ => rfl, rfl, HA.out.box⟩
        have HROW := hide HAD.out.row
        clear hE h3 HM2 CW c10 c2 hlk d2 e0 f0 m2
        go_upto_region 10 with fail
        generalize wr.drewN nq = wd at *
        have HX4 : X.heap.size < wd.heap.size := loc_lt HAD.out.box
        go_wp2_with (at_builtin; go_must (refine wpList_append_two _ rfl _ _ 61 rfl (X.heap.size + 1) 3 iM _ 1 8 Tryz.underlying61 hiM zM0 zM1 zM2 rfl (by decide) _ _ _ rfl (HROW.out.alloc _) ⟨wd.heap.size, 0, none⟩ 1 [.int .i64 m] rfl rfl (news_at rfl) (by simp [Value.oneCell']) (by unfold maxLen; omega) (by omega) (by simp; omega) ?_))
        intro g4 cap4 w4 hown4 hg4
        have hfr := grown_fr (Z := fun k => X.heap.size + 1 ≤ k) rfl hg4 fun g e => (HROW.out.lt g e).1
        have hlow4 : Below X.heap.size X w4 := HAD.out.low.trans (hfr.below fun k hk => ⟨by omega, by show ¬ X.heap.size + 1 ≤ k; omega⟩)
        have hbox4 := (hfr.block _ HX4 (by show ¬ X.heap.size + 1 ≤ X.heap.size; omega)).trans HAD.out.box
        have HA4 : Hid (AG R S st mp it seen X l p #[.string ⟨p.name.toArray⟩, .int .i64 p.sort, .slice (some ⟨g2, o2, none⟩) p.kinds.length kc, .slice va p.values.length vc] o (i + 1) (ms ++ [m]) (.slice (some ⟨g4, 0, none⟩) (ms.length + 1) cap4) w4) := by
          refine hide ⟨H0.out.below hlow4, hlow4, ?_, HM3.out, hbox4⟩
          rw [show (ms ++ [m]).length = ms.length + 1 from by simp, show nats (ms ++ [m]) = nats ms ++ [.int .i64 (m : Int)] from by unfold nats; simp]
          exact hown4
        clear hown4 hg4 hfr hlow4 hbox4 HM3 HROW HAD
        go_wp2_with fail
        go_roundw
        case rel => exact ⟨i + 1, some ⟨g4, 0, none⟩, cap4, ms ++ [m], by omega, by go_num, by simp, by simp; omega, by simpa using HA4⟩
        case measure => simp [intOf]; omega
    · have HE : .ok ms = o := by
        have := HA.out.mod
        rw [List.drop_eq_nil_of_le (by omega), List.drop_eq_nil_of_le (by have := HLN.out; omega)] at this
        exact this
      go_wp2_with fail
      go_ret
      exact Ed.ok HE ⟨a0, c0, rfl, owns_down' HA.out.row (Nat.le_succ _)⟩ HA.out.low
end
end Go.Proofs.YtfnobccminhjpabGreat
/- A ground literal asked, whole. -/
namespace Go.Proofs.YtfnobccminhjpabGreat
open Go.RowKit Go.Shelf Go.Maps Go.WideMaps

/-- A ground literal, its arguments in a row not below b. -/
def rL (S : StatM) (l : LitM) (b : Nat) (w : World) (ms : List Nat) (v : Value) : Prop := ∃ a c, v = .agg #[.bool l.neg, .int .i64 (posB S.ctx.names l.pred), .slice a ms.length c, .int .i64 l.value, .int .i64 0] ∧ w.ownsRow b 3 1 (.slice a ms.length c) ms.length (nats ms)
section
variable {R : Nat} {S : StatM} {st : St9} {mp : Mp8} {it : Nat} {seen : List Bytes} {X : World}
theorem litL_end {l : LitM} {ms : List Nat} {w2 : World} {o : Er (List Nat)} {xa : Option Addr} {xc : Nat} (hF : Below X.heap.size X w2) (hrow : w2.ownsRow (X.heap.size + 2) 3 1 (.slice xa ms.length xc) ms.length (nats ms)) (ho : .ok ms = o) (nq : Nat) :
    Ed X it (rL S l X.heap.size) o (.returned (.agg #[.bool l.neg, .int .i64 (posB S.ctx.names l.pred), .slice xa ms.length xc, .int .i64 l.value, .int .i64 0])) ((((((w2.drewN nq).setCell ⟨X.heap.size + 1, 0, none⟩ (.bool l.neg)).setCell ⟨X.heap.size + 1, 1, none⟩ (.int .i64 (posB S.ctx.names l.pred))).setCell ⟨X.heap.size + 1, 2, none⟩ (.slice xa ms.length xc)).setCell ⟨X.heap.size + 1, 3, none⟩ (.int .i64 l.value)).setCell ⟨X.heap.size + 1, 4, none⟩ (.int .i64 0)) := by
  refine Ed.ok ho ⟨xa, xc, rfl, owns_down' (b := X.heap.size + 2) (owns_keep hrow fun g hg => ?_) (by omega)⟩ ?_
  · have hgb : g ≠ X.heap.size + 1 := by have := (hrow.lt g hg).1; omega
    rw [heap_setCell_other _ _ g _ hgb, heap_setCell_other _ _ g _ hgb, heap_setCell_other _ _ g _ hgb, heap_setCell_other _ _ g _ hgb, heap_setCell_other _ _ g _ hgb]
    rfl
  · exact ((((((hF.trans ((below_drewN w2 nq).mono hF.size)).setCell (Nat.le_succ _) _).setCell (Nat.le_succ _) _).setCell (Nat.le_succ _) _).setCell (Nat.le_succ _) _).setCell (Nat.le_succ _) _)

set_option maxRecDepth 100000 in
set_option maxHeartbeats 12800000 in
theorem litL_any (h : Res R S st mp it seen X) {rb : Nat} (hrb : X.cell? ⟨rb, 0, none⟩ = some (ptr R)) (hp4 : ∀ p ∈ S.preds, p.kinds.length ≤ 4) (l : LitM) {aa : Option Addr} {ac : Nat} (hpr : l.pred.length ≤ maxLen) (hl : Strs X.heap.size X l.args (.slice aa l.args.length ac)) :
    Calls Tryz.prog 23 #[ptr R, .agg (litV l aa ac), .func (.func 24) #[] #[ptr rb]] X fun e X' => Ed X it (rL S l X.heap.size) (literalGM S.ctx l) e X' := by
  have hA : Below X.heap.size X ((X.alloc (.cells (litV l aa ac) 34)).alloc (.cells #[.bool false, .int .i64 0, .slice none 0 0, .int .i64 0, .int .i64 0] 68)) := ((Below.refl _ _).alloc (Nat.le_refl _) _).alloc (by simp) _
  have h1 := h.below hA
  have CP := hide (findPred_any h1 l.pred hpr)
  have H := hide h
  have HA := hide hA
  have hb0 := ((Below.refl (X.alloc (.cells (litV l aa ac) 34)).heap.size (X.alloc (.cells (litV l aa ac) 34))).alloc (Nat.le_refl _) (.cells #[.bool false, .int .i64 0, .slice none 0 0, .int .i64 0, .int .i64 0] 68)).block X.heap.size (by simp)
  have hb := hb0.trans (heap_alloc_new X (.cells (litV l aa ac) 34))
  have HB := hide hb
  have hr0 := heap_alloc_new (X.alloc (.cells (litV l aa ac) 34)) (.cells #[.bool false, .int .i64 0, .slice none 0 0, .int .i64 0, .int .i64 0] 68)
  have hsz : (X.alloc (.cells (litV l aa ac) 34)).heap.size = X.heap.size + 1 := by simp
  rw [hsz] at hr0
  have HR0 := hide hr0
  have b1 := cell_of_row _ X.heap.size 1 _ _ _ hb
  simp only [List.getElem?_toArray, List.getElem?_cons_zero, List.getElem?_cons_succ] at b1
  obtain ⟨o, ho⟩ : ∃ o, literalGM S.ctx l = o := ⟨_, rfl⟩
  rw [ho]
  have HO := hide ho
  unfold literalGM at HO
  unfold str at CP
  have HL := hide hl
  have HP4 := hide hp4
  have HRBC := hide hrb
  clear h h1 hA hb0 hb hr0 hsz ho hl hp4 hrb
  go_enter Tryz.func23, Tryz.ntmps23
  go_wp2_with fail
  refine CP.out.mono ?_
  intro e w1 hE
  rcases hE.no with ⟨c1, h3, rfl, hb⟩ | ⟨p, u, h3, rfl, hrp, hb⟩
  · exact on_panic rfl (Ed.bad (ex_no HO.out h3) (HA.out.trans (hb.mono HA.out.size)))
  obtain ⟨ka, kc, va, vc, rfl, hpn, hpk, hpv⟩ := hrp
  have HO1 := hide (ex_go HO.out h3)
  have HPM := hide (HP4.out p (findPredM_mem h3))
  have hA1 : Below w1.heap.size w1 (w1.alloc (.cells (predV p ka kc va vc) 115)) := (Below.refl _ _).alloc (Nat.le_refl _) _
  have hB1 : Below X.heap.size X (w1.alloc (.cells (predV p ka kc va vc) 115)) := (HA.out.trans (hb.mono HA.out.size)).trans (hA1.mono (Nat.le_trans HA.out.size hb.size))
  have hX1 := H.out.below hB1
  have HF1 := hide hB1
  have hs1 : X.heap.size + 2 ≤ w1.heap.size := by have := hb.size; simp at this; omega
  have hlb := (hA1.block X.heap.size (by omega)).trans ((hb.block X.heap.size (by first | (simp; done) | (simp; omega))).trans HB.out)
  have hrb := (hA1.block (X.heap.size + 1) (by omega)).trans ((hb.block (X.heap.size + 1) (by first | (simp; done) | (simp; omega))).trans HR0.out)
  have hpb := heap_alloc_new w1 (.cells (predV p ka kc va vc) 115)
  have HLB := hide hlb
  have HRB := hide hrb
  have HPB := hide hpb
  have hRX : R < X.heap.size := loc_lt H.out.box
  have HKS : Hid (Strs (w1.alloc (.cells (predV p ka kc va vc) 115)).heap.size (w1.alloc (.cells (predV p ka kc va vc) 115)) p.kinds (.slice ka p.kinds.length kc)) := hide (Strs.mono (by have := hA1.size; omega) (hpk.keep fun g hg => hA1.block g (by omega)))
  have HVS : Hid (Moneys R (w1.alloc (.cells (predV p ka kc va vc) 115)) p.values (.slice va p.values.length vc)) := hide (hpv.keep fun g hg => hA1.block g (by omega))
  have hvl : p.values.length ≤ 140737488351232 := by obtain ⟨_, _, _, _, h⟩ := hpv.form; exact h
  have p1 := cell_of_row _ w1.heap.size 1 _ _ _ hpb
  have p0 := cell_of_row _ w1.heap.size 0 _ _ _ hpb
  have p2 := cell_of_row _ w1.heap.size 2 _ _ _ hpb
  have p3 := cell_of_row _ w1.heap.size 3 _ _ _ hpb
  have l2 := cell_of_row _ X.heap.size 2 _ _ _ hlb
  simp only [List.getElem?_toArray, List.getElem?_cons_zero, List.getElem?_cons_succ] at p0 p1 p2 p3 l2
  have CW1 := hide (fun b c => want_any hX1.c9 b c)
  have CA := hide (argsG_any (va := va) (vc := vc) hX1 (rb := rb) ((World.cell?_of_block (hB1.block rb (World.block_lt_of_cell? X _ HRBC.out))).trans HRBC.out) p HKS.out HPM.out l.args (Strs.mono hB1.size (HL.out.keep fun g hg => hB1.block g hg)))
  have HX1 := hide hX1
  simp only [litV, predV] at *
  clear hE h3 HO CP hb hA1 hB1 hX1 hlb hrb hpb hpk hpv hpn b1
  rw [show decide (p.sort = 2) = (p.sort == 2) from rfl] at HO1
  go_wp2_with fail
  refine (CW1.out _ _).mono ?_
  intro e w2 hE
  rcases hE.no with ⟨c1, h3, rfl, hw⟩ | ⟨_, h3, rfl, hw⟩
  · subst w2
    exact on_panic rfl (Ed.bad (ex_no HO1.out h3) HF1.out)
  subst w2
  have HO2 := hide (ex_go HO1.out h3)
  clear hE h3 HO1 CW1
  go_wp2_with fail
  refine CA.out.mono ?_
  intro e w2 hE
  rcases hE.no with ⟨c1, h3, rfl, hf⟩ | ⟨ms, v2, h3, rfl, hrow0, hf⟩
  · exact on_panic rfl (Ed.bad (ex_no HO2.out h3) (HF1.out.trans (hf.mono HF1.out.size)))
  obtain ⟨xa, xc, rfl, hrow⟩ := hrow0
  have HO3 := hide (ex_go HO2.out h3)
  have hX2 := HX1.out.below hf
  have HF2 := hide (HF1.out.trans (hf.mono HF1.out.size))
  have HROW : Hid (w2.ownsRow (X.heap.size + 2) 3 1 (.slice xa ms.length xc) ms.length (nats ms)) := hide (owns_down' hrow (by simp; omega))
  have hlb := (hf.block X.heap.size (loc_lt HLB.out)).trans HLB.out
  have hrb := (hf.block (X.heap.size + 1) (loc_lt HRB.out)).trans HRB.out
  have hpb := (hf.block w1.heap.size (loc_lt HPB.out)).trans HPB.out
  have HRB2 := hide hrb
  have q1 := cell_of_row w2 w1.heap.size 1 _ _ _ hpb
  have q3 := cell_of_row w2 w1.heap.size 3 _ _ _ hpb
  have r0 := cell_of_row w2 X.heap.size 0 _ _ _ hlb
  have r1 := cell_of_row w2 X.heap.size 1 _ _ _ hlb
  have r3 := cell_of_row w2 X.heap.size 3 _ _ _ hlb
  have r4 := cell_of_row w2 X.heap.size 4 _ _ _ hlb
  simp only [List.getElem?_toArray, List.getElem?_cons_zero, List.getElem?_cons_succ] at q1 q3 r0 r1 r3 r4
  have CW2 := hide (fun b c => want_any hX2.c9 b c)
  have CH := hide (hasM_any (c := vc) (HVS.out.keep (w' := w2) (fun g hg => hf.block g (by have := loc_lt HX1.out.box; omega))).at1 hvl l.value)
  have c12 := hX2.c12
  have hlk := fun q => look_S (w := w2.drewN q) (hX2.mP.keep rfl) l.pred hpr
  clear hE h3 HO2 CA hf hrow hX2 hlb hrb hpb HX1 HF1 HLB HRB HPB p0 p1 p2 p3 l2
  rw [show (l.hasValue == decide (p.sort = 3)) = (l.hasValue == (p.sort == 3)) from rfl] at HO3
  go_wp2_with fail
  refine (CW2.out _ _).mono ?_
  intro e w3 hE
  rcases hE.no with ⟨c1, h3, rfl, hw⟩ | ⟨_, h3, rfl, hw⟩
  · subst w3
    exact on_panic rfl (Ed.bad (ex_no HO3.out h3) HF2.out)
  subst w3
  have HO4 := hide (ex_go HO3.out h3)
  clear hE h3 HO3
  cases hhv : l.hasValue with
  | true =>
    rw [hhv] at HO4 r3
    rw [Bool.true_or, Bool.not_true, Bool.false_or] at HO4
    go_wp2_with fail
    refine (CW2.out _ _).mono ?_
    intro e w3 hE
    rcases hE.no with ⟨c1, h3, rfl, hw⟩ | ⟨_, h3, rfl, hw⟩
    · cases h3
    subst w3
    have HO5 := hide (ex_go HO4.out h3)
    clear hE h3 HO4
    generalize decide (l.value ∈ p.values) = bx at CH HO5
    go_wp2_with (go_at_call 66; refine CH.out.mono ?_; rintro _ wn ⟨rfl, hwn⟩; subst wn)
    refine (CW2.out _ _).mono ?_
    intro e w3 hE
    rcases hE.no with ⟨c1, h3, rfl, hw⟩ | ⟨_, h3, rfl, hw⟩
    · subst w3
      exact on_panic rfl (Ed.bad (ex_no HO5.out h3) HF2.out)
    subst w3
    have HO6 := hide (ex_go HO5.out h3)
    clear hE h3 HO5 CH CW2
    have z0 := cell_of_row w2 (X.heap.size + 1) 0 _ _ _ HRB2.out
    have z1 := cell_of_row w2 (X.heap.size + 1) 1 _ _ _ HRB2.out
    have z2 := cell_of_row w2 (X.heap.size + 1) 2 _ _ _ HRB2.out
    have z3 := cell_of_row w2 (X.heap.size + 1) 3 _ _ _ HRB2.out
    have z4 := cell_of_row w2 (X.heap.size + 1) 4 _ _ _ HRB2.out
    have zf := fun i => frozen_of_row w2 (X.heap.size + 1) i _ _ HRB2.out
    simp only [List.getElem?_toArray, List.getElem?_cons_zero, List.getElem?_cons_succ] at z0 z1 z2 z3 z4
    go_upto_region 7 with fail
    refine region_last (by kernel_rfl) (by kernel_rfl) (by kernel_rfl) (by kernel_rfl) (by kernel_rfl) ?_
    dsimp only [List.dropLast, List.getLast, List.cons_append, List.nil_append]
    repeat (go_big_quiet_step (fail))
    refine wpQuiet_nil ?_
    rintro _ ⟨nq, rfl⟩
    go_wp2_with fail
    have hend := litL_end (l := l) (S := S) (it := it) HF2.out HROW.out HO6.out nq
    have hz := five_set (W := w2.drewN nq) (v0 := .bool l.neg) (v1 := .int .i64 (posB S.ctx.names l.pred)) (v2 := .slice xa ms.length xc) (v3 := .int .i64 l.value) (v4 := .int .i64 0) HRB2.out _ rfl
    generalize ((((((w2.drewN nq).setCell ⟨X.heap.size + 1, 0, none⟩ (.bool l.neg)).setCell ⟨X.heap.size + 1, 1, none⟩ (.int .i64 (posB S.ctx.names l.pred))).setCell ⟨X.heap.size + 1, 2, none⟩ (.slice xa ms.length xc)).setCell ⟨X.heap.size + 1, 3, none⟩ (.int .i64 l.value)).setCell ⟨X.heap.size + 1, 4, none⟩ (.int .i64 0)) = Y at *
    simp [bodyPost, results, Tryz.results23, go_sem, hz]
    exact hend
  | false =>
    rw [hhv] at HO4 r3
    rw [Bool.false_or, Bool.not_false, Bool.true_or] at HO4
    rw [show decide (l.value = 0) = (l.value == 0) from rfl] at HO4
    go_wp2_with fail
    refine (CW2.out _ _).mono ?_
    intro e w3 hE
    rcases hE.no with ⟨c1, h3, rfl, hw⟩ | ⟨_, h3, rfl, hw⟩
    · subst w3
      exact on_panic rfl (Ed.bad (ex_no HO4.out h3) HF2.out)
    subst w3
    have HO5 := hide (ex_go HO4.out h3)
    clear hE h3 HO4
    go_wp2_with fail
    refine (CW2.out _ _).mono ?_
    intro e w3 hE
    rcases hE.no with ⟨c1, h3, rfl, hw⟩ | ⟨_, h3, rfl, hw⟩
    · cases h3
    subst w3
    have HO6 := hide (ex_go HO5.out h3)
    clear hE h3 HO5 CH CW2
    have z0 := cell_of_row w2 (X.heap.size + 1) 0 _ _ _ HRB2.out
    have z1 := cell_of_row w2 (X.heap.size + 1) 1 _ _ _ HRB2.out
    have z2 := cell_of_row w2 (X.heap.size + 1) 2 _ _ _ HRB2.out
    have z3 := cell_of_row w2 (X.heap.size + 1) 3 _ _ _ HRB2.out
    have z4 := cell_of_row w2 (X.heap.size + 1) 4 _ _ _ HRB2.out
    have zf := fun i => frozen_of_row w2 (X.heap.size + 1) i _ _ HRB2.out
    simp only [List.getElem?_toArray, List.getElem?_cons_zero, List.getElem?_cons_succ] at z0 z1 z2 z3 z4
    go_upto_region 7 with fail
    refine region_last (by kernel_rfl) (by kernel_rfl) (by kernel_rfl) (by kernel_rfl) (by kernel_rfl) ?_
    dsimp only [List.dropLast, List.getLast, List.cons_append, List.nil_append]
    repeat (go_big_quiet_step (fail))
    refine wpQuiet_nil ?_
    rintro _ ⟨nq, rfl⟩
    go_wp2_with fail
    have hend := litL_end (l := l) (S := S) (it := it) HF2.out HROW.out HO6.out nq
    have hz := five_set (W := w2.drewN nq) (v0 := .bool l.neg) (v1 := .int .i64 (posB S.ctx.names l.pred)) (v2 := .slice xa ms.length xc) (v3 := .int .i64 l.value) (v4 := .int .i64 0) HRB2.out _ rfl
    generalize ((((((w2.drewN nq).setCell ⟨X.heap.size + 1, 0, none⟩ (.bool l.neg)).setCell ⟨X.heap.size + 1, 1, none⟩ (.int .i64 (posB S.ctx.names l.pred))).setCell ⟨X.heap.size + 1, 2, none⟩ (.slice xa ms.length xc)).setCell ⟨X.heap.size + 1, 3, none⟩ (.int .i64 l.value)).setCell ⟨X.heap.size + 1, 4, none⟩ (.int .i64 0)) = Y at *
    simp [bodyPost, results, Tryz.results23, go_sem, hz]
    exact hend
end
end Go.Proofs.YtfnobccminhjpabGreat
/- Literal's own asking, and the first fault beside it. -/
namespace Go.Proofs.YtfnobccminhjpabGreat
open Go.RowKit Go.Shelf Go.Maps Go.WideMaps
section
variable {R : Nat} {S : StatM} {st : St9} {mp : Mp8} {it : Nat} {seen : List Bytes} {w w' : World}
/-- The zero literal. -/
abbrev zl : Obj := .cells #[.bool false, .int .i64 0, .slice none 0 0, .int .i64 0, .int .i64 0] 68 (0, 0)
/-- What Literal's box holds in the end. -/
def Lb (S : StatM) (l : LitM) (lb B : Nat) (w' : World) (ms : List Nat) : Prop := ∃ a c, w'.heap[lb]? = some (.cells #[.bool l.neg, .int .i64 (posB S.ctx.names l.pred), .slice a ms.length c, .int .i64 l.value, .int .i64 0] 68 (0, 0)) ∧ w'.ownsRow B 3 1 (.slice a ms.length c) ms.length (nats ms)
def Ek (S : StatM) (l : LitM) (lb : Nat) (w : World) (it : Int) (o : Er (List Nat)) (e : Ending) (w' : World) : Prop := Fr (fun k => k = lb) w w' ∧ match o with
  | .ok ms => e = .returned (.tuple #[]) ∧ Lb S l lb w.heap.size w' ms
  | .error c => e = .panicked [fl c it] ∧ w'.heap[lb]? = some zl
set_option maxRecDepth 100000 in
set_option maxHeartbeats 6400000 in
theorem lit1_any (h : Res R S st mp it seen w) (hp4 : ∀ p ∈ S.preds, p.kinds.length ≤ 4) (l : LitM) {tb lb : Nat} {aa : Option Addr} {ac : Nat} (htt : w.heap[tb]? = some (.cells (litV l aa ac) 34 (0, 0))) (hpr : l.pred.length ≤ maxLen) (hl : Strs w.heap.size w l.args (.slice aa l.args.length ac)) (hlb : w.heap[lb]? = some zl) :
    Calls Tryz.prog 22 #[ptr R, ptr tb, ptr lb] w fun e w' => Ek S l lb w it (literalGM S.ctx l) e w' := by
  have hA : Below w.heap.size w (w.alloc (.cells #[ptr R] 99)) := (Below.refl _ _).alloc (Nat.le_refl _) _
  have hmf : ∀ (fn : Fn) (first cap : Array Value) (w : World), (Instr.makeFunc fn first cap).run Tryz.prog w = .ok (.func fn first cap) w := fun _ _ _ _ => rfl
  have CL := hide (litL_any (h.below hA) (rb := w.heap.size) (cell_of_row _ _ 0 _ _ _ (heap_alloc_new w _)) hp4 l (aa := aa) (ac := ac) hpr (Strs.mono hA.size (hl.keep fun g hg => hA.block g hg)))
  have ht2 := (hA.block tb (loc_lt htt)).trans htt
  have t0 := cell_of_row _ tb 0 _ _ _ ht2
  have t1 := cell_of_row _ tb 1 _ _ _ ht2
  have t2 := cell_of_row _ tb 2 _ _ _ ht2
  have t3 := cell_of_row _ tb 3 _ _ _ ht2
  have t4 := cell_of_row _ tb 4 _ _ _ ht2
  simp only [litV, List.getElem?_toArray, List.getElem?_cons_zero, List.getElem?_cons_succ] at t0 t1 t2 t3 t4
  have HLB := hide hlb
  have HA := hide hA
  have hll := loc_lt hlb
  obtain ⟨o, ho⟩ : ∃ o, literalGM S.ctx l = o := ⟨_, rfl⟩
  rw [ho]
  rw [ho] at CL
  simp only [litV] at CL
  clear h hp4 ht2 htt hl hlb ho hA
  go_enter Tryz.func22, Tryz.ntmps22
  go_wp2_with fail
  refine CL.out.mono ?_
  intro e w2 hE
  rcases hE.no with ⟨c1, h3, rfl, hf⟩ | ⟨ms, v2, h3, rfl, hrow0, hf⟩
  · subst h3
    refine on_panic rfl ⟨.of_below (HA.out.trans (hf.mono HA.out.size)), rfl, ?_⟩
    exact ((HA.out.trans (hf.mono HA.out.size)).block lb hll).trans HLB.out
  subst h3
  obtain ⟨xa, xc, rfl, hrow⟩ := hrow0
  have HF := hide (HA.out.trans (hf.mono HA.out.size))
  have hb2 := (HF.out.block lb hll).trans HLB.out
  have z0 := cell_of_row w2 lb 0 _ _ _ hb2
  have z1 := cell_of_row w2 lb 1 _ _ _ hb2
  have z2 := cell_of_row w2 lb 2 _ _ _ hb2
  have z3 := cell_of_row w2 lb 3 _ _ _ hb2
  have z4 := cell_of_row w2 lb 4 _ _ _ hb2
  have zf := fun i => frozen_of_row w2 lb i _ _ hb2
  simp only [List.getElem?_toArray, List.getElem?_cons_zero, List.getElem?_cons_succ] at z0 z1 z2 z3 z4
  have HROW := hide hrow
  have HB2 := hide hb2
  have hsz : w.heap.size < (w.alloc (.cells #[ptr R] 99)).heap.size := by simp
  clear hE CL hf hrow t0 t1 t2 t3 t4 hb2 hmf
  go_wp2_with fail
  go_end0
  refine ⟨?_, rfl, xa, xc, ?_, owns_down' (owns_keep HROW.out fun g hg => ?_) (Nat.le_of_lt hsz)⟩
  · exact ((((((Fr.of_below (Z := fun k => k = lb) HF.out).trans (.setCell ⟨lb, 0, none⟩ _ rfl)).trans (.setCell ⟨lb, 1, none⟩ _ rfl)).trans (.setCell ⟨lb, 2, none⟩ _ rfl)).trans (.setCell ⟨lb, 3, none⟩ _ rfl)).trans (.setCell ⟨lb, 4, none⟩ _ rfl))
  · have s4 := loc_set (i := 4) (v := .int .i64 0) (loc_set (i := 3) (v := .int .i64 l.value) (loc_set (i := 2) (v := .slice xa ms.length xc) (loc_set (i := 1) (v := .int .i64 (posB S.ctx.names l.pred)) (loc_set (i := 0) (v := .bool l.neg) HB2.out))))
    simp only [List.setIfInBounds_toArray, List.set_cons_zero, List.set_cons_succ] at s4
    exact s4
  · have hgb : g ≠ lb := by have := (HROW.out.lt g hg).1; omega
    rw [heap_setCell_other _ _ g _ hgb, heap_setCell_other _ _ g _ hgb, heap_setCell_other _ _ g _ hgb, heap_setCell_other _ _ g _ hgb, heap_setCell_other _ _ g _ hgb]
end
section
variable {S : StatM} {st : St9} {w w' : World}
/-- How the first fault is told when a literal is asked besides. -/
def El9 (S : StatM) (l : LitM) (lb : Nat) (w : World) (c : Int) (n : Nat) (o : Er (List Nat)) (e : Ending) (w' : World) : Prop := Fr (fun k => k = lb) w w' ∧ ((c ≠ 0 ∧ e = .returned (.agg #[.int .i64 c, .int .i64 n]) ∧ w'.heap[lb]? = some zl) ∨ (c = 0 ∧ ∃ d, o = .error d ∧ e = .returned (.agg #[.int .i64 d, .int .i64 n]) ∧ w'.heap[lb]? = some zl) ∨ (c = 0 ∧ ∃ ms, o = .ok ms ∧ e = .returned (.agg #[.int .i64 0, .int .i64 n]) ∧ Lb S l lb w.heap.size w' ms))
set_option maxRecDepth 100000 in
set_option maxHeartbeats 12800000 in
theorem firstL_any (h : SR w.heap.size w S st) (l : LitM) {tb vb : Nat} {aa : Option Addr} {ac : Nat} (htt : w.heap[tb]? = some (.cells (litV l aa ac) 34 (0, 0))) (hpr : l.pred.length ≤ maxLen) (hll : Strs w.heap.size w l.args (.slice aa l.args.length ac)) (hvv : w.heap[vb]? = some zl) : Calls Tryz.prog 17 #[st.agg, .func (.func 22) #[] #[ptr tb, ptr vb]] w fun e w' => El9 S l vb w (checkM S).1 (checkM S).2 (literalGM S.ctx l) e w' := by
  obtain ⟨c0, n0, hck⟩ : ∃ c n, checkM S = (c, n) := ⟨_, _, rfl⟩
  rw [hck]
  have HCK := hide hck
  have HTT := hide htt
  have HLL := hide hll
  have HVV := hide hvv
  have hlk := loc_lt htt
  have hlv := loc_lt hvv
  clear hck
  obtain ⟨tt, ht⟩ := h.title
  obtain ⟨a1, b1, f1, _, l1⟩ := h.kinds.form
  obtain ⟨a2, b2, f2, _, l2⟩ := h.members.form
  obtain ⟨a3, b3, f3, _, l3⟩ := h.preds.form
  obtain ⟨a4, b4, f4, _, l4⟩ := h.classes.form
  obtain ⟨a5, b5, f5, _, l5⟩ := h.sources.form
  obtain ⟨a6, b6, f6, _, l6⟩ := h.rules.form
  obtain ⟨a7, b7, f7, _, l7⟩ := h.excepts.form
  obtain ⟨a8, b8, f8, _, l8⟩ := h.totals.form
  obtain ⟨s0, s1, s2, s3, s4, s5, s6, s7, s8⟩ := st
  simp only at ht f1 f2 f3 f4 f5 f6 f7 f8
  subst ht f1 f2 f3 f4 f5 f6 f7 f8
  clear htt hll hvv
  have hmf : ∀ (fn : Fn) (first cap : Array Value) (w : World), (Instr.makeFunc fn first cap).run Tryz.prog w = .ok (.func fn first cap) w := fun _ _ _ _ => rfl
  have hA : Below w.heap.size w (((w.alloc (.cells #[.string tt, .slice a1 S.kinds.length b1, .slice a2 S.members.length b2, .slice a3 S.preds.length b3, .slice a4 S.classes.length b4, .slice a5 S.sources.length b5, .slice a6 S.rules.length b6, .slice a7 S.excepts.length b7, .slice a8 S.totals.length b8] 31)).alloc (.cells #[.int .i64 0, .int .i64 0] 97)).alloc (.cells #[.string tt, .slice a1 S.kinds.length b1, .slice a2 S.members.length b2, .slice a3 S.preds.length b3, .slice a4 S.classes.length b4, .slice a5 S.sources.length b5, .slice a6 S.rules.length b6, .slice a7 S.excepts.length b7, .slice a8 S.totals.length b8, .int .i64 0, .map none, .map none, .map none, .map none, .map none, .map none, .map none, .map none] 125)) := (((Below.refl _ w).alloc (Nat.le_refl _) _).alloc (by simp) _).alloc (by simp; omega) _
  have hRaw : Raw (w.heap.size + 1 + 1) S ⟨.string tt, .slice a1 S.kinds.length b1, .slice a2 S.members.length b2, .slice a3 S.preds.length b3, .slice a4 S.classes.length b4, .slice a5 S.sources.length b5, .slice a6 S.rules.length b6, .slice a7 S.excepts.length b7, .slice a8 S.totals.length b8⟩ (((w.alloc (.cells #[.string tt, .slice a1 S.kinds.length b1, .slice a2 S.members.length b2, .slice a3 S.preds.length b3, .slice a4 S.classes.length b4, .slice a5 S.sources.length b5, .slice a6 S.rules.length b6, .slice a7 S.excepts.length b7, .slice a8 S.totals.length b8] 31)).alloc (.cells #[.int .i64 0, .int .i64 0] 97)).alloc (.cells #[.string tt, .slice a1 S.kinds.length b1, .slice a2 S.members.length b2, .slice a3 S.preds.length b3, .slice a4 S.classes.length b4, .slice a5 S.sources.length b5, .slice a6 S.rules.length b6, .slice a7 S.excepts.length b7, .slice a8 S.totals.length b8, .int .i64 0, .map none, .map none, .map none, .map none, .map none, .map none, .map none, .map none] 125)) := by
    refine ⟨?_, SR.mono (by omega) (h.keep fun g hg => hA.block g hg)⟩
    have := heap_alloc_new ((w.alloc (.cells #[.string tt, .slice a1 S.kinds.length b1, .slice a2 S.members.length b2, .slice a3 S.preds.length b3, .slice a4 S.classes.length b4, .slice a5 S.sources.length b5, .slice a6 S.rules.length b6, .slice a7 S.excepts.length b7, .slice a8 S.totals.length b8] 31)).alloc (.cells #[.int .i64 0, .int .i64 0] 97)) (.cells #[.string tt, .slice a1 S.kinds.length b1, .slice a2 S.members.length b2, .slice a3 S.preds.length b3, .slice a4 S.classes.length b4, .slice a5 S.sources.length b5, .slice a6 S.rules.length b6, .slice a7 S.excepts.length b7, .slice a8 S.totals.length b8, .int .i64 0, .map none, .map none, .map none, .map none, .map none, .map none, .map none, .map none] 125)
    simpa using this
  have hq : (((w.alloc (.cells #[.string tt, .slice a1 S.kinds.length b1, .slice a2 S.members.length b2, .slice a3 S.preds.length b3, .slice a4 S.classes.length b4, .slice a5 S.sources.length b5, .slice a6 S.rules.length b6, .slice a7 S.excepts.length b7, .slice a8 S.totals.length b8] 31)).alloc (.cells #[.int .i64 0, .int .i64 0] 97)).alloc (.cells #[.string tt, .slice a1 S.kinds.length b1, .slice a2 S.members.length b2, .slice a3 S.preds.length b3, .slice a4 S.classes.length b4, .slice a5 S.sources.length b5, .slice a6 S.rules.length b6, .slice a7 S.excepts.length b7, .slice a8 S.totals.length b8, .int .i64 0, .map none, .map none, .map none, .map none, .map none, .map none, .map none, .map none] 125)).heap[w.heap.size + 1]? = some (.cells #[.int .i64 0, .int .i64 0] 97 (0, 0)) := by
    have := heap_alloc_new (w.alloc (.cells #[.string tt, .slice a1 S.kinds.length b1, .slice a2 S.members.length b2, .slice a3 S.preds.length b3, .slice a4 S.classes.length b4, .slice a5 S.sources.length b5, .slice a6 S.rules.length b6, .slice a7 S.excepts.length b7, .slice a8 S.totals.length b8] 31)) (.cells #[.int .i64 0, .int .i64 0] 97)
    rw [Below.heap_alloc _ _ _ (by simp)]
    simpa using this
  have CC := hide (counts_any hRaw)
  have HRaw := hide hRaw
  have HQ := hide hq
  have HA := hide hA
  clear h hRaw hq hA
  unfold St9.agg
  simp only
  go_enter_defers Tryz.func17, Tryz.ntmps17
  go_wp2_with fail
  refine CC.out.mono ?_
  intro e X1 hE
  cases hfit : S.fitsB with
  | false =>
    have hck : (c0, n0) = ((3 : Int), 0) := by rw [← HCK.out]; unfold checkM; rw [hfit]; rfl
    cases hck
    rcases hE.no with ⟨c1, h3, rfl, hf⟩ | ⟨_, v, h3, rfl, hrv, hf⟩
    · rw [counts_not hfit] at h3
      cases h3
      have HQ1 := hide ((hf.block _ (loc_lt HQ.out)).trans HQ.out)
      have HB1 := hide (HA.out.trans (hf.mono HA.out.size))
      clear hE hf CC HRaw HQ HA
      go_wp2_with fail
      refine leaves_cons (f := 54) (args := #[.pointer (some ⟨w.heap.size + 1, 0, none⟩)]) (by simp) (by simp [go_sem]) ?_
      refine (catch_fault _ _ _ _ _ _ _ HQ1.out).mono ?_
      rintro e u' w5 ⟨rfl, rfl, hq5, hf5⟩
      have z0 := cell_of_row w5 (w.heap.size + 1) 0 _ _ _ hq5
      have z1 := cell_of_row w5 (w.heap.size + 1) 1 _ _ _ hq5
      simp only [List.getElem?_toArray, List.getElem?_cons_zero, List.getElem?_cons_succ] at z0 z1
      have zf : ∀ i, w5.frozen? ⟨w.heap.size + 1, i, none⟩ = false := fun i => frozen_of_row w5 _ i _ _ hq5
      refine ⟨.agg #[.int .i64 (3), .int .i64 (((0 : Nat) : Int))], ?_, (Fr.of_below (HB1.out.trans (hf5.below fun k hk => ⟨Nat.lt_of_lt_of_le hk HB1.out.size, by show ¬ k = w.heap.size + 1; omega⟩))), .inl ⟨by decide, rfl, ((HB1.out.trans (hf5.below fun k hk => ⟨Nat.lt_of_lt_of_le hk HB1.out.size, by show ¬ k = w.heap.size + 1; omega⟩)).block vb hlv).trans HVV.out⟩⟩
      simp [results, Tryz.results17, go_sem, z0, z1]
    · rw [counts_not hfit] at h3
      cases h3
  | true =>
  rcases hE.no with ⟨c1, h3, rfl, hf⟩ | ⟨_, v, h3, rfl, hrv, hf⟩
  · rw [counts_fits hfit] at h3
    cases h3
  have HQ1 := hide ((hf.block _ (loc_lt HQ.out)).trans HQ.out)
  have HB1 := hide (HA.out.trans (hf.mono HA.out.size))
  have CN := hide (number_any (HRaw.out.below hf) hfit)
  have hHC : firstE 0 S.items = (c0, n0) := by rw [← HCK.out]; unfold checkM; rw [hfit]; rfl
  have HC := hide hHC
  clear hE hf h3 hrv CC HRaw HQ HA hHC HCK
  go_wp2_with fail
  refine CN.out.mono ?_
  rintro _ X2 ⟨rfl, hf2, mp, hR2⟩
  have HQ2 := hide ((hf2.block _ (loc_lt HQ1.out) (by show ¬ w.heap.size + 1 = w.heap.size + 1 + 1; omega)).trans HQ1.out)
  have HB2 := hide (HB1.out.trans (hf2.below fun k hk => ⟨Nat.lt_of_lt_of_le hk HB1.out.size, by show ¬ k = w.heap.size + 1 + 1; omega⟩))
  have CI := hide (items_any hR2)
  have hne := hR2.ne.2.2.2.2.2.2.2
  clear CN hf2 hR2 HQ1 HB1
  go_wp2_with fail
  refine CI.out.mono ?_
  rintro _ X3 ⟨hf3, ⟨rfl, ha, hr⟩ | ⟨n, c, hbad, rfl⟩⟩
  rotate_left
  · have hcn := HC.out
    rw [firstE_bad hbad 0] at hcn
    cases hcn
    have HQ3 := hide ((hf3.block _ (loc_lt HQ2.out) (by rintro (a | a) <;> omega)).trans HQ2.out)
    have HB3 := hide (HB2.out.trans (hf3.below fun k hk => ⟨Nat.lt_of_lt_of_le hk HB2.out.size, by rintro (a | a) <;> omega⟩))
    have HNZ : c0 ≠ 0 := nz_items S _ (List.mem_of_getElem? hbad.2) c0 rfl
    clear hf3 CI HQ2 HB2 hbad HC
    go_wp2_with fail
    refine leaves_cons (f := 54) (args := #[.pointer (some ⟨w.heap.size + 1, 0, none⟩)]) (by simp) (by simp [go_sem]) ?_
    refine (catch_fault _ _ _ _ _ _ _ HQ3.out).mono ?_
    rintro e u' w5 ⟨rfl, rfl, hq5, hf5⟩
    have z0 := cell_of_row w5 (w.heap.size + 1) 0 _ _ _ hq5
    have z1 := cell_of_row w5 (w.heap.size + 1) 1 _ _ _ hq5
    simp only [List.getElem?_toArray, List.getElem?_cons_zero, List.getElem?_cons_succ] at z0 z1
    have zf : ∀ i, w5.frozen? ⟨w.heap.size + 1, i, none⟩ = false := fun i => frozen_of_row w5 _ i _ _ hq5
    refine ⟨.agg #[.int .i64 c0, .int .i64 (((0 + n : Nat) : Int))], ?_, (Fr.of_below (HB3.out.trans (hf5.below fun k hk => ⟨Nat.lt_of_lt_of_le hk HB3.out.size, by show ¬ k = w.heap.size + 1; omega⟩))), .inl ⟨HNZ, rfl, ((HB3.out.trans (hf5.below fun k hk => ⟨Nat.lt_of_lt_of_le hk HB3.out.size, by show ¬ k = w.heap.size + 1; omega⟩)).block vb hlv).trans HVV.out⟩⟩
    simp [results, Tryz.results17, go_sem, z0, z1]
  have hcn := HC.out
  rw [firstE_ok ha 0] at hcn
  cases hcn
  have hq3 := (hf3.block _ (loc_lt HQ2.out) (by rintro (a | a) <;> omega)).trans HQ2.out
  have HB3 := hide (HB2.out.trans (hf3.below fun k hk => ⟨Nat.lt_of_lt_of_le hk HB2.out.size, by rintro (a | a) <;> omega⟩))
  have hsp := items_split.1 ha
  have HV3 := hide ((HB3.out.block vb hlv).trans HVV.out)
  have CM := hide (lit1_any hr (preds_four hsp.1.1.1.1.1.2) l (tb := tb) (lb := vb) (aa := aa) (ac := ac) ((HB3.out.block tb hlk).trans HTT.out) hpr (Strs.mono HB3.out.size (HLL.out.keep fun g hg => HB3.out.block g hg)) HV3.out)
  have HR3 := hide hr
  have HQ3 := hide hq3
  have hsz3 := HB3.out.size
  have hlq := loc_lt hq3
  have hlr := loc_lt hr.box
  clear hf3 CI HQ2 HB2 HC ha hr hq3 hsp
  go_wp2_with fail
  refine CM.out.mono ?_
  intro e X4 hE
  obtain ⟨o, ho⟩ : ∃ o, literalGM S.ctx l = o := ⟨_, rfl⟩
  have HO := hide ho
  rw [ho] at hE
  obtain ⟨hf4, hE⟩ := hE
  have HW4 := hide ((Fr.of_below (Z := fun k => k = vb) HB3.out).trans hf4)
  have hq4 := (hf4.block (w.heap.size + 1) hlq (by show ¬ w.heap.size + 1 = vb; omega)).trans HQ3.out
  have HQ4 := hide hq4
  have hbk := hf4.block (w.heap.size + 1 + 1) hlr (by show ¬ w.heap.size + 1 + 1 = vb; omega)
  have r9 := (World.cell?_of_block hbk).trans HR3.out.c9
  have hsz4 := hf4.size
  clear ho hbk hf4
  cases o with
  | error d =>
    have hE' : e = .panicked [fl d ((0 + S.items.length : Nat) : Int)] := hE.1
    have HE2 : Hid (X4.heap[vb]? = some zl) := hide hE.2
    subst hE'
    clear hE CM r9 hq4
    go_wp2_with fail
    refine leaves_cons (f := 54) (args := #[.pointer (some ⟨w.heap.size + 1, 0, none⟩)]) (by simp) (by simp [go_sem]) ?_
    refine (catch_fault _ _ _ _ _ _ _ HQ4.out).mono ?_
    rintro e u' w5 ⟨rfl, rfl, hq5, hf5⟩
    have z0 := cell_of_row w5 (w.heap.size + 1) 0 _ _ _ hq5
    have z1 := cell_of_row w5 (w.heap.size + 1) 1 _ _ _ hq5
    simp only [List.getElem?_toArray, List.getElem?_cons_zero, List.getElem?_cons_succ] at z0 z1
    refine ⟨.agg #[.int .i64 d, .int .i64 ((0 + S.items.length : Nat) : Int)], ?_, ?_, .inr (.inl ⟨rfl, d, HO.out, rfl, (hf5.block vb (Nat.lt_of_lt_of_le hlv HW4.out.size) (by show ¬ vb = w.heap.size + 1; omega)).trans HE2.out⟩)⟩
    · simp [results, Tryz.results17, go_sem, z0, z1]
    · exact ⟨hf5.os.trans HW4.out.os, hf5.tape.trans HW4.out.tape, hf5.output.trans HW4.out.output, Nat.le_trans HW4.out.size hf5.size, fun j hj hn => (hf5.block j (Nat.lt_of_lt_of_le hj HW4.out.size) (by show ¬ j = w.heap.size + 1; omega)).trans (HW4.out.block j hj hn)⟩
  | ok v4 =>
    obtain ⟨rfl, la, lc, hb4, hs4⟩ := hE
    have z0 := cell_of_row X4 (w.heap.size + 1) 0 _ _ _ hq4
    have z1 := cell_of_row X4 (w.heap.size + 1) 1 _ _ _ hq4
    simp only [List.getElem?_toArray, List.getElem?_cons_zero, List.getElem?_cons_succ] at z0 z1
    have zf : ∀ i, X4.frozen? ⟨w.heap.size + 1, i, none⟩ = false := fun i => frozen_of_row X4 _ i _ _ hq4
    have HB4 := hide hb4
    have HS4 := hide hs4
    clear CM hb4 hs4 hq4
    go_wp2_with fail
    refine leaves_cons (f := 54) (args := #[.pointer (some ⟨w.heap.size + 1, 0, none⟩)]) (by simp) (by simp [go_sem]) ?_
    refine (catch_idle _ _).mono ?_
    rintro e u' w5 ⟨rfl, rfl, rfl⟩
    have hoth : ∀ j, j ≠ w.heap.size + 1 → ((X4.setCell ⟨w.heap.size + 1, 0, none⟩ (.int .i64 0)).setCell ⟨w.heap.size + 1, 1, none⟩ (.int .i64 ((S.items.length : Nat) : Int))).heap[j]? = X4.heap[j]? := fun j hj => by
      rw [heap_setCell_other _ _ j _ (by exact hj), heap_setCell_other _ _ j _ (by exact hj)]
    refine ⟨.agg #[.int .i64 0, .int .i64 ((0 + S.items.length : Nat) : Int)], ?_, ?_, .inr (.inr ⟨rfl, v4, HO.out, rfl, la, lc, (hoth vb (by omega)).trans HB4.out, owns_down' (owns_keep HS4.out fun j hj => hoth j (by have := (HS4.out.lt j hj).1; omega)) (by omega)⟩)⟩
    · have hq4 := loc_set (i := 1) (v := .int .i64 ((S.items.length : Nat) : Int)) (loc_set (i := 0) (v := .int .i64 0) HQ4.out)
      simp only [List.setIfInBounds_toArray, List.set_cons_zero, List.set_cons_succ] at hq4
      have k0 := cell_of_row _ (w.heap.size + 1) 0 _ _ _ hq4
      have k1 := cell_of_row _ (w.heap.size + 1) 1 _ _ _ hq4
      simp only [List.getElem?_toArray, List.getElem?_cons_zero, List.getElem?_cons_succ] at k0 k1
      simp [results, Tryz.results17, go_sem, k0, k1]
    · exact ⟨HW4.out.os, HW4.out.tape, HW4.out.output, by have := HW4.out.size; simp; omega, fun j hj hn => (hoth j (by omega)).trans (HW4.out.block j hj hn)⟩
end
end Go.Proofs.YtfnobccminhjpabGreat
/- Literal: a ground one told to the caller. -/
namespace Go.Proofs.YtfnobccminhjpabGreat
open Go.RowKit Go.Shelf Go.Maps Go.WideMaps

section
variable {S : StatM} {st : St9} {w w' : World}
/-- What Literal answers. -/
def Et (S : StatM) (l : LitM) (w : World) (c : Int) (o : Er (List Nat)) (e : Ending) (w' : World) : Prop := Below w.heap.size w w' ∧
  ((c ≠ 0 ∧ e = .returned (.tuple #[.agg #[.bool false, .int .i64 0, .slice none 0 0, .int .i64 0, .int .i64 0], .int .i64 c])) ∨ (c = 0 ∧ ∃ d, o = .error d ∧ e = .returned (.tuple #[.agg #[.bool false, .int .i64 0, .slice none 0 0, .int .i64 0, .int .i64 0], .int .i64 d])) ∨
    (c = 0 ∧ ∃ ms v, o = .ok ms ∧ e = .returned (.tuple #[v, .int .i64 0]) ∧ rL S l w.heap.size w' ms v))
theorem lit_box {w : World} {q : Nat} {y0 y1 y2 y3 y4 : Value} {T : Nat} (h : w.heap[q]? = some (.cells #[y0, y1, y2, y3, y4] T (0, 0))) : w.cell? ⟨q, 0, none⟩ = some y0 ∧ w.cell? ⟨q, 1, none⟩ = some y1 ∧ w.cell? ⟨q, 2, none⟩ = some y2 ∧ w.cell? ⟨q, 3, none⟩ = some y3 ∧ w.cell? ⟨q, 4, none⟩ = some y4 :=
  ⟨cell_of_row w q 0 _ _ _ h, cell_of_row w q 1 _ _ _ h, cell_of_row w q 2 _ _ _ h, cell_of_row w q 3 _ _ _ h, cell_of_row w q 4 _ _ _ h⟩
set_option maxRecDepth 100000 in
set_option maxHeartbeats 6400000 in
theorem literal_any (h : SR w.heap.size w S st) (l : LitM) {aa : Option Addr} {ac : Nat} (hpr : l.pred.length ≤ maxLen) (hll : Strs w.heap.size w l.args (.slice aa l.args.length ac)) : Calls Tryz.prog 6 #[st.agg, .agg (litV l aa ac)] w fun e w' => Et S l w (checkM S).1 (literalGM S.ctx l) e w' := by
  obtain ⟨tt, ht⟩ := h.title
  obtain ⟨a1, b1, f1, _, _⟩ := h.kinds.form
  obtain ⟨a2, b2, f2, _, _⟩ := h.members.form
  obtain ⟨a3, b3, f3, _, _⟩ := h.preds.form
  obtain ⟨a4, b4, f4, _, _⟩ := h.classes.form
  obtain ⟨a5, b5, f5, _, _⟩ := h.sources.form
  obtain ⟨a6, b6, f6, _, _⟩ := h.rules.form
  obtain ⟨a7, b7, f7, _, _⟩ := h.excepts.form
  obtain ⟨a8, b8, f8, _, _⟩ := h.totals.form
  obtain ⟨s0, s1, s2, s3, s4, s5, s6, s7, s8⟩ := st
  simp only at ht f1 f2 f3 f4 f5 f6 f7 f8
  subst ht f1 f2 f3 f4 f5 f6 f7 f8
  have hmf : ∀ (fn : Fn) (first cap : Array Value) (w : World), (Instr.makeFunc fn first cap).run Tryz.prog w = .ok (.func fn first cap) w := fun _ _ _ _ => rfl
  obtain ⟨X, hX⟩ : ∃ X, X = (w.alloc (.cells #[.string tt, .slice a1 S.kinds.length b1, .slice a2 S.members.length b2, .slice a3 S.preds.length b3, .slice a4 S.classes.length b4, .slice a5 S.sources.length b5, .slice a6 S.rules.length b6, .slice a7 S.excepts.length b7, .slice a8 S.totals.length b8] 31)) := ⟨_, rfl⟩
  have hXs : X.heap.size = w.heap.size + 1 := by rw [hX]; simp
  have hXb : Below w.heap.size w X := by rw [hX]; exact (Below.refl _ w).alloc (Nat.le_refl _) _
  obtain ⟨Y, hY⟩ : ∃ Y, Y = (X.alloc (.cells (litV l aa ac) 34)) := ⟨_, rfl⟩
  have hYs : Y.heap.size = w.heap.size + 2 := by rw [hY]; simp [hXs]
  have hY1 : Y.heap[w.heap.size + 1]? = some (.cells (litV l aa ac) 34 (0, 0)) := by rw [hY, ← hXs]; exact heap_alloc_new X _
  have hYb : Below w.heap.size w Y := by rw [hY]; exact hXb.alloc (by omega) _
  obtain ⟨U, hU⟩ : ∃ U, U = (Y.alloc zl) := ⟨_, rfl⟩
  have hUs : U.heap.size = w.heap.size + 3 := by rw [hU]; simp [hYs]
  have hU1 : U.heap[w.heap.size + 1]? = Y.heap[w.heap.size + 1]? := by rw [hU]; exact Below.heap_alloc _ _ _ (by omega)
  have hU2 : U.heap[w.heap.size + 2]? = some zl := by rw [hU, ← hYs]; exact heap_alloc_new Y _
  have hUb : Below w.heap.size w U := by rw [hU]; exact hYb.alloc (by omega) _
  obtain ⟨T, hT⟩ : ∃ T, T = (U.alloc zl) := ⟨_, rfl⟩
  have hTs : T.heap.size = w.heap.size + 4 := by rw [hT]; simp [hUs]
  have hT1 : T.heap[w.heap.size + 1]? = U.heap[w.heap.size + 1]? := by rw [hT]; exact Below.heap_alloc _ _ _ (by omega)
  have hT2 : T.heap[w.heap.size + 2]? = U.heap[w.heap.size + 2]? := by rw [hT]; exact Below.heap_alloc _ _ _ (by omega)
  have hT3 : T.heap[w.heap.size + 3]? = some zl := by rw [hT, ← hUs]; exact heap_alloc_new U _
  have hTb : Below w.heap.size w T := by rw [hT]; exact hUb.alloc (by omega) _
  have CF := hide (firstL_any (SR.mono (N' := T.heap.size) (by omega) (h.keep fun g hg => hTb.block g hg)) l (tb := w.heap.size + 1) (vb := w.heap.size + 3) (aa := aa) (ac := ac) (hT1.trans (hU1.trans hY1)) hpr (Strs.mono hTb.size (hll.keep fun g hg => hTb.block g hg)) hT3)
  have HTB := hide hTb
  have HTS := hide hTs
  have HT2 := hide (hT2.trans hU2)
  unfold St9.agg at *
  simp only [litV] at *
  generalize (checkM S).1 = c0 at *
  generalize (checkM S).2 = n0 at *
  generalize literalGM S.ctx l = o at *
  clear h hTb hTs hUb hUs hXb hYb hY1 hU1 hU2 hT1 hT2 hT3 hXs hYs hll
  subst hX
  subst hY
  subst hU
  subst hT
  go_enter Tryz.func6, Tryz.ntmps6
  go_wp2_with fail
  refine CF.out.mono ?_
  rintro e w1 ⟨hf, hE⟩
  have HB := hide (HTB.out.trans (hf.below (n := w.heap.size) fun j hj => ⟨by have := HTS.out; omega, by show ¬ j = w.heap.size + 3; omega⟩))
  have HS1 : w.heap.size + 4 ≤ w1.heap.size := by have := hf.size; have := HTS.out; omega
  have hr2 := (hf.block (w.heap.size + 2) (loc_lt HT2.out) (by show ¬ w.heap.size + 2 = w.heap.size + 3; omega)).trans HT2.out
  have HZ0 := hide HTS.out
  clear hf CF HTB HTS hmf
  have HR2 := hide hr2
  rcases hE with ⟨hc, rfl, hv⟩ | ⟨hc, d, ho, rfl, hv⟩ | ⟨hc, ms, ho, rfl, la, lc, hv, hrow⟩
  · have hA1 : Below w1.heap.size w1 (w1.alloc (.cells #[.int .i64 c0, .int .i64 n0] 97)) := (Below.refl _ w1).alloc (Nat.le_refl _) _
    obtain ⟨v0, v1, v2, v3, v4⟩ := lit_box ((hA1.block _ (loc_lt hv)).trans hv)
    have hr3 : (w1.alloc (.cells #[.int .i64 c0, .int .i64 n0] 97)).heap[w.heap.size + 1 + 1]? = some zl := (hA1.block _ (loc_lt hr2)).trans hr2
    obtain ⟨r0, r1, r2, r3, r4⟩ := lit_box hr3
    have rf := fun i => frozen_of_row _ _ i _ _ hr3
    have HZ := hide (five_set (W := (w1.alloc (.cells #[.int .i64 c0, .int .i64 n0] 97))) (v0 := (.bool false)) (v1 := (.int .i64 0)) (v2 := (.slice none 0 0)) (v3 := (.int .i64 0)) (v4 := (.int .i64 0)) hr3 _ rfl)
    have HB2 := hide (HB.out.trans (hA1.mono HB.out.size))
    have HE := hide ((((((HB2.out.setCell (p := ⟨w.heap.size + 1 + 1, 0, none⟩) (by show w.heap.size ≤ w.heap.size + 1 + 1; omega) (.bool false)).setCell (p := ⟨w.heap.size + 1 + 1, 1, none⟩) (by show w.heap.size ≤ w.heap.size + 1 + 1; omega) (.int .i64 0)).setCell (p := ⟨w.heap.size + 1 + 1, 2, none⟩) (by show w.heap.size ≤ w.heap.size + 1 + 1; omega) (.slice none 0 0)).setCell (p := ⟨w.heap.size + 1 + 1, 3, none⟩) (by show w.heap.size ≤ w.heap.size + 1 + 1; omega) (.int .i64 0)).setCell (p := ⟨w.heap.size + 1 + 1, 4, none⟩) (by show w.heap.size ≤ w.heap.size + 1 + 1; omega) (.int .i64 0)))
    go_wp2_with fail
    go_region
    clear v0 v1 v2 v3 v4 r0 r1 r2 r3 r4 rf hr3 hA1
    generalize ((((((w1.alloc (.cells #[.int .i64 c0, .int .i64 n0] 97)).setCell ⟨w.heap.size + 1 + 1, 0, none⟩ (.bool false)).setCell ⟨w.heap.size + 1 + 1, 1, none⟩ (.int .i64 0)).setCell ⟨w.heap.size + 1 + 1, 2, none⟩ (.slice none 0 0)).setCell ⟨w.heap.size + 1 + 1, 3, none⟩ (.int .i64 0)).setCell ⟨w.heap.size + 1 + 1, 4, none⟩ (.int .i64 0)) = Y at *
    go_wp2_with fail
    obtain ⟨z0, z1, z2, z3, z4⟩ := HZ.out
    simp [bodyPost, results, Tryz.results6, go_sem, z0, z1, z2, z3, z4]
    exact ⟨HE.out.trans ((Lk.of (w := Y)).below.mono HE.out.size), .inl ⟨hc, rfl⟩⟩
  · have hA1 : Below w1.heap.size w1 (w1.alloc (.cells #[.int .i64 d, .int .i64 n0] 97)) := (Below.refl _ w1).alloc (Nat.le_refl _) _
    obtain ⟨v0, v1, v2, v3, v4⟩ := lit_box ((hA1.block _ (loc_lt hv)).trans hv)
    have hr3 : (w1.alloc (.cells #[.int .i64 d, .int .i64 n0] 97)).heap[w.heap.size + 1 + 1]? = some zl := (hA1.block _ (loc_lt hr2)).trans hr2
    obtain ⟨r0, r1, r2, r3, r4⟩ := lit_box hr3
    have rf := fun i => frozen_of_row _ _ i _ _ hr3
    have HZ := hide (five_set (W := (w1.alloc (.cells #[.int .i64 d, .int .i64 n0] 97))) (v0 := (.bool false)) (v1 := (.int .i64 0)) (v2 := (.slice none 0 0)) (v3 := (.int .i64 0)) (v4 := (.int .i64 0)) hr3 _ rfl)
    have HB2 := hide (HB.out.trans (hA1.mono HB.out.size))
    have HE := hide ((((((HB2.out.setCell (p := ⟨w.heap.size + 1 + 1, 0, none⟩) (by show w.heap.size ≤ w.heap.size + 1 + 1; omega) (.bool false)).setCell (p := ⟨w.heap.size + 1 + 1, 1, none⟩) (by show w.heap.size ≤ w.heap.size + 1 + 1; omega) (.int .i64 0)).setCell (p := ⟨w.heap.size + 1 + 1, 2, none⟩) (by show w.heap.size ≤ w.heap.size + 1 + 1; omega) (.slice none 0 0)).setCell (p := ⟨w.heap.size + 1 + 1, 3, none⟩) (by show w.heap.size ≤ w.heap.size + 1 + 1; omega) (.int .i64 0)).setCell (p := ⟨w.heap.size + 1 + 1, 4, none⟩) (by show w.heap.size ≤ w.heap.size + 1 + 1; omega) (.int .i64 0)))
    go_wp2_with fail
    go_region
    clear v0 v1 v2 v3 v4 r0 r1 r2 r3 r4 rf hr3 hA1
    generalize ((((((w1.alloc (.cells #[.int .i64 d, .int .i64 n0] 97)).setCell ⟨w.heap.size + 1 + 1, 0, none⟩ (.bool false)).setCell ⟨w.heap.size + 1 + 1, 1, none⟩ (.int .i64 0)).setCell ⟨w.heap.size + 1 + 1, 2, none⟩ (.slice none 0 0)).setCell ⟨w.heap.size + 1 + 1, 3, none⟩ (.int .i64 0)).setCell ⟨w.heap.size + 1 + 1, 4, none⟩ (.int .i64 0)) = Y at *
    go_wp2_with fail
    obtain ⟨z0, z1, z2, z3, z4⟩ := HZ.out
    simp [bodyPost, results, Tryz.results6, go_sem, z0, z1, z2, z3, z4]
    exact ⟨HE.out.trans ((Lk.of (w := Y)).below.mono HE.out.size), .inr (.inl ⟨hc, d, ho, rfl⟩)⟩
  · have hA1 : Below w1.heap.size w1 (w1.alloc (.cells #[.int .i64 0, .int .i64 n0] 97)) := (Below.refl _ w1).alloc (Nat.le_refl _) _
    obtain ⟨v0, v1, v2, v3, v4⟩ := lit_box ((hA1.block _ (loc_lt hv)).trans hv)
    have hr3 : (w1.alloc (.cells #[.int .i64 0, .int .i64 n0] 97)).heap[w.heap.size + 1 + 1]? = some zl := (hA1.block _ (loc_lt hr2)).trans hr2
    obtain ⟨r0, r1, r2, r3, r4⟩ := lit_box hr3
    have rf := fun i => frozen_of_row _ _ i _ _ hr3
    have HZ := hide (five_set (W := (w1.alloc (.cells #[.int .i64 0, .int .i64 n0] 97))) (v0 := (.bool l.neg)) (v1 := (.int .i64 (posB S.ctx.names l.pred))) (v2 := (.slice la ms.length lc)) (v3 := (.int .i64 l.value)) (v4 := (.int .i64 0)) hr3 _ rfl)
    have HB2 := hide (HB.out.trans (hA1.mono HB.out.size))
    have HE := hide ((((((HB2.out.setCell (p := ⟨w.heap.size + 1 + 1, 0, none⟩) (by show w.heap.size ≤ w.heap.size + 1 + 1; omega) (.bool l.neg)).setCell (p := ⟨w.heap.size + 1 + 1, 1, none⟩) (by show w.heap.size ≤ w.heap.size + 1 + 1; omega) (.int .i64 (posB S.ctx.names l.pred))).setCell (p := ⟨w.heap.size + 1 + 1, 2, none⟩) (by show w.heap.size ≤ w.heap.size + 1 + 1; omega) (.slice la ms.length lc)).setCell (p := ⟨w.heap.size + 1 + 1, 3, none⟩) (by show w.heap.size ≤ w.heap.size + 1 + 1; omega) (.int .i64 l.value)).setCell (p := ⟨w.heap.size + 1 + 1, 4, none⟩) (by show w.heap.size ≤ w.heap.size + 1 + 1; omega) (.int .i64 0)))
    have HROW : Hid (((((((w1.alloc (.cells #[.int .i64 0, .int .i64 n0] 97)).setCell ⟨w.heap.size + 1 + 1, 0, none⟩ (.bool l.neg)).setCell ⟨w.heap.size + 1 + 1, 1, none⟩ (.int .i64 (posB S.ctx.names l.pred))).setCell ⟨w.heap.size + 1 + 1, 2, none⟩ (.slice la ms.length lc)).setCell ⟨w.heap.size + 1 + 1, 3, none⟩ (.int .i64 l.value)).setCell ⟨w.heap.size + 1 + 1, 4, none⟩ (.int .i64 0)).ownsRow w.heap.size 3 1 (.slice la ms.length lc) ms.length (nats ms)) := by
      refine hide (owns_down' (b := w.heap.size + 4) (owns_keep (owns_down' hrow (by have := HZ0.out; omega)) fun g hg => ?_) (by omega))
      have h4 := (hrow.lt g hg)
      have hgb : g ≠ w.heap.size + 1 + 1 := by have := h4.1; have := HZ0.out; omega
      rw [heap_setCell_other _ _ g _ hgb, heap_setCell_other _ _ g _ hgb, heap_setCell_other _ _ g _ hgb, heap_setCell_other _ _ g _ hgb, heap_setCell_other _ _ g _ hgb]
      exact hA1.block g h4.2
    clear hrow
    go_wp2_with fail
    go_region
    clear v0 v1 v2 v3 v4 r0 r1 r2 r3 r4 rf hr3 hA1
    generalize ((((((w1.alloc (.cells #[.int .i64 0, .int .i64 n0] 97)).setCell ⟨w.heap.size + 1 + 1, 0, none⟩ (.bool l.neg)).setCell ⟨w.heap.size + 1 + 1, 1, none⟩ (.int .i64 (posB S.ctx.names l.pred))).setCell ⟨w.heap.size + 1 + 1, 2, none⟩ (.slice la ms.length lc)).setCell ⟨w.heap.size + 1 + 1, 3, none⟩ (.int .i64 l.value)).setCell ⟨w.heap.size + 1 + 1, 4, none⟩ (.int .i64 0)) = Y at *
    go_wp2_with fail
    obtain ⟨z0, z1, z2, z3, z4⟩ := HZ.out
    simp [bodyPost, results, Tryz.results6, go_sem, z0, z1, z2, z3, z4]
    exact ⟨HE.out.trans ((Lk.of (w := Y)).below.mono HE.out.size), .inr (.inr ⟨hc, ms, _, ho, rfl, la, lc, rfl, owns_keep HROW.out fun _ _ => rfl⟩)⟩
end
end Go.Proofs.YtfnobccminhjpabGreat
