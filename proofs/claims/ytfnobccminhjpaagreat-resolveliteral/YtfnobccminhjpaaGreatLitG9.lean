/- A ground literal asked. -/
import Derived.Test.YtfnobccminhjpaaGreatCheck8
import Derived.Test.YtfnobccminhjpaaGreatBkC9
namespace Go.Proofs.YtfnobccminhjpaaGreat
open Go.RowKit Go.Shelf Go.Maps Go.WideMaps

def argsGM (C : Ctx) : List Nat → List Bytes → List Bytes → Er (List Nat)
  | ms, s :: r, k :: q => if isVarB s then .error 86 else findMemberM C s >>= fun m => wantM (decide ((C.members.getD m ([], [])).2 = k)) 81 >>= fun _ => argsGM C (ms ++ [m]) r q
  | ms, _, _ => .ok ms
def argumentsGM (C : Ctx) (p : PredM) (l : List Bytes) : Er (List Nat) := wantM (decide ((l.length : Int) = (p.kinds.length : Int))) 83 >>= fun _ => argsGM C [] l p.kinds
def literalGM (C : Ctx) (l : LitM) : Er (List Nat) :=
  findPredM C l.pred >>= fun p =>
  wantM (!decide (p.sort = 2)) 84 >>= fun _ =>
  argumentsGM C p l.args >>= fun x =>
  wantM (l.hasValue == decide (p.sort = 3)) 84 >>= fun _ =>
  wantM (l.hasValue || decide (l.value = 0)) 84 >>= fun _ =>
  wantM (!l.hasValue || decide (l.value ∈ p.values)) 85 >>= fun _ => .ok x
/-- Members' numbers in a row not below b. -/
def rG (b : Nat) (w : World) (ms : List Nat) (v : Value) : Prop := ∃ a c, v = .slice a ms.length c ∧ w.ownsRow b 3 1 (.slice a ms.length c) ms.length (nats ms)

theorem owns_down' {w : World} {b b' e k n : Nat} {u : Value} {xs : List Value} (h : w.ownsRow b e k u n xs) (hb : b' ≤ b) : w.ownsRow b' e k u n xs := by
  obtain ⟨h1, h2⟩ := h
  refine ⟨h1, ?_⟩
  rcases h2 with h2 | ⟨g, cap, cur, e, hg, h4⟩
  · exact .inl h2
  · exact .inr ⟨g, cap, cur, e, Nat.le_trans hb hg, h4⟩
section
variable {R : Nat} {S : StatM} {st : St9} {mp : Mp8} {it : Nat} {seen : List Bytes} {X : World}
set_option maxRecDepth 100000 in
set_option maxHeartbeats 1600000 in
theorem closG_any {rb : Nat} (hr : X.cell? ⟨rb, 0, none⟩ = some (ptr R)) (h9 : X.cell? ⟨R, 9, none⟩ = some (.int .i64 it)) (s : Bytes) (k : Int) :
    Calls Tryz.prog 91 #[str s, .int .i64 k, ptr rb] X fun e X' => e = .panicked [fl 86 it] ∧ X' = X := by
  have CF := hide (fail_any h9 86)
  unfold str
  go_enter Tryz.func91, Tryz.ntmps91
  go_wp2_with fail
  refine CF.out.mono ?_
  rintro _ w1 ⟨rfl, hw⟩
  subst w1
  exact on_panic rfl ⟨rfl, rfl⟩

/-- What stands in the midst of the arguments. -/
structure AG (R : Nat) (S : StatM) (st : St9) (mp : Mp8) (it : Nat) (seen : List Bytes) (X : World) (l : List Bytes) (p : PredM) (pv : Array Value) (o : Er (List Nat)) (i : Nat) (ms : List Nat) (mv : Value) (wr : World) : Prop where
  res : Res R S st mp it seen wr
  low : Below X.heap.size X wr
  row : wr.ownsRow (X.heap.size + 1) 3 1 mv ms.length (nats ms)
  mod : argsGM S.ctx ms (l.drop i) (p.kinds.drop i) = o
  box : wr.heap[X.heap.size]? = some (.cells pv 132 (0, 0))

set_option maxRecDepth 100000 in
set_option maxHeartbeats 12800000 in
theorem argsG_any (h : Res R S st mp it seen X) {rb : Nat} (hrb : X.cell? ⟨rb, 0, none⟩ = some (ptr R)) (p : PredM) {ka va : Option Addr} {kc vc : Nat} (hpk : Strs X.heap.size X p.kinds (.slice ka p.kinds.length kc)) (hp4 : p.kinds.length ≤ 4) (l : List Bytes) {aa : Option Addr} {ac : Nat} (hl : Strs X.heap.size X l (.slice aa l.length ac)) :
    Calls Tryz.prog 128 #[ptr R, .agg (predV p ka kc va vc), .slice aa l.length ac, .func (.func 91) #[] #[ptr rb]] X fun e X' => Ed X it (rG X.heap.size) (argumentsGM S.ctx p l) e X' := by
  have hA : Below X.heap.size X (X.alloc (.cells (predV p ka kc va vc) 132)) := (Below.refl _ _).alloc (Nat.le_refl _) _
  have h1 := h.below hA
  have CW := hide (fun b c => want_any h1.c9 b c)
  have HF0 := hide hA
  have hbx := heap_alloc_new X (.cells (predV p ka kc va vc) 132)
  have HBX := hide hbx
  have b2 := cell_of_row _ X.heap.size 2 _ _ _ hbx
  simp only [predV, List.getElem?_toArray, List.getElem?_cons_zero, List.getElem?_cons_succ] at b2
  have H1 := hide h1
  have H0 := hide h
  have HPK := hide hpk
  have HL := hide hl
  have hll : l.length ≤ 140737488351232 := by obtain ⟨_, _, _, _, h⟩ := hl.form; exact h
  have HRB := hide hrb
  obtain ⟨o, ho⟩ : ∃ o, argumentsGM S.ctx p l = o := ⟨_, rfl⟩
  rw [ho]
  have HO := hide ho
  unfold argumentsGM at HO
  obtain ⟨iM, hiM, zM0, zM1, zM2⟩ := info_parts' infoI
  simp only [predV] at *
  clear h h1 hA ho hpk hl hbx hrb
  go_enter Tryz.func128, Tryz.ntmps128
  rw [show decide ((l.length : Int) = (p.kinds.length : Int)) = ((l.length : Int) == (p.kinds.length : Int)) from rfl] at HO
  go_wp2_with fail
  refine (CW.out _ _).mono ?_
  intro e w1 hE
  rcases hE.no with ⟨c1, h3, rfl, hw⟩ | ⟨_, h3, rfl, hw⟩
  · subst w1
    exact on_panic rfl (Ed.bad (ex_no HO.out h3) HF0.out)
  subst w1
  have hlen : l.length = p.kinds.length := by
    by_cases hh : (l.length : Int) = (p.kinds.length : Int)
    · omega
    · rw [show ((l.length : Int) == (p.kinds.length : Int)) = false from beq_eq_false_iff_ne.2 hh] at h3; cases h3
  have HO2 := hide (ex_go HO.out h3)
  have HLN := hide hlen
  clear hE h3 HO CW
  go_wp2_with fail
  go_loopw [9, 23] (fun m x wr => ∃ (i : Nat) (a0 : Option Addr) (c0 : Nat) (ms : List Nat), i ≤ l.length ∧ x = .int .i64 i ∧ m = .slice a0 ms.length c0 ∧ ms.length ≤ i ∧ Hid (AG R S st mp it seen X l p #[.string ⟨p.name.toArray⟩, .int .i64 p.sort, .slice ka p.kinds.length kc, .slice va p.values.length vc] o i ms (.slice a0 ms.length c0) wr)) (fun _ x _ => l.length - (intOf x).toNat)
  case atStart => exact ⟨0, none, 0, [], by omega, rfl, rfl, Nat.le_refl _, hide ⟨H1.out, HF0.out, ⟨rfl, .inl ⟨rfl, rfl⟩⟩, by simpa using HO2.out, HBX.out⟩⟩
  case round =>
    obtain ⟨i, a0, c0, ms, hi, rfl, rfl, hms, HA⟩ := hrel
    clear HO2 HBX
    by_cases hlt : i < l.length
    · obtain ⟨s, hs0⟩ : ∃ s, l[i]? = some s := ⟨l[i], List.getElem?_eq_getElem hlt⟩
      obtain ⟨k, hk0⟩ : ∃ k, p.kinds[i]? = some k := ⟨p.kinds[i]'(by omega), List.getElem?_eq_getElem (by omega)⟩
      have HRX := hide HA.out.res
      obtain ⟨g, oo, rfl, hg, e0, hs⟩ := at_S (HL.out.keep (w' := wr) fun g hg => HA.out.low.block g hg) hs0
      obtain ⟨g2, o2, rfl, hg2, f0, hk⟩ := at_S (HPK.out.keep (w' := wr) fun g hg => HA.out.low.block g hg) hk0
      have d2 := cell_of_row wr X.heap.size 2 _ _ _ HA.out.box
      simp only [List.getElem?_toArray, List.getElem?_cons_zero, List.getElem?_cons_succ] at d2
      have CV := hide (isVar_any ⟨s.toArray⟩ wr)
      have hmod := HA.out.mod
      rw [drop_c hs0, drop_c hk0] at hmod
      unfold argsGM at hmod
      have HMOD := hide hmod
      have c10 := HRX.out.c10
      have c2 := HRX.out.c2
      have hlk := fun q => look_S (w := wr.drewN q) (HRX.out.mK'.keep rfl) k hk
      unfold str at *
      clear hmod hs0 hk0
      cases hv : isVarB s with
      | true =>
        rw [show (⟨s.toArray⟩ : ByteArray).data.toList = s from rfl, hv] at CV
        rw [if_pos hv] at HMOD
        have CC := hide (fun Y (hY : Lk wr Y) => closG_any (X := Y) (rb := rb) ((World.cell?_of_block (hY.below.block rb (Nat.lt_of_lt_of_le (World.block_lt_of_cell? X _ HRB.out) HA.out.low.size))).trans ((World.cell?_of_block (HA.out.low.block rb (World.block_lt_of_cell? X _ HRB.out))).trans HRB.out)) (HRX.out.like hY).c9 s (posB S.ctx.kinds k))
        unfold str at CC
        go_upto_region 7 with (go_at_call 158; refine CV.out.mono ?_; rintro _ wn ⟨rfl, hwn⟩; subst wn)
        refine region_last (by kernel_rfl) (by kernel_rfl) (by kernel_rfl) (by kernel_rfl) (by kernel_rfl) ?_
        dsimp only [List.dropLast, List.getLast, List.cons_append, List.nil_append]
        repeat (go_big_quiet_step (fail))
        refine wpQuiet_nil ?_
        rintro _ ⟨nq, rfl⟩
        go_wp2_with fail
        refine (CC.out _ .of).mono ?_
        rintro e w2 ⟨rfl, hw⟩
        subst w2
        exact ⟨rfl, Ed.bad HMOD.out (HA.out.low.trans ((below_drewN wr nq).mono HA.out.low.size))⟩
      | false =>
        rw [show (⟨s.toArray⟩ : ByteArray).data.toList = s from rfl, hv] at CV
        rw [if_neg (by rw [hv]; simp)] at HMOD
        have CM := hide (findMember_any HRX.out s hs)
        unfold str vN at CM
        go_wp2_with (go_at_call 158; refine CV.out.mono ?_; rintro _ wn ⟨rfl, hwn⟩; subst wn)
        refine CM.out.mono ?_
        intro e w2 hE
        rcases hE.no with ⟨c1, h3, rfl, hw⟩ | ⟨m, h3, rfl, hw⟩
        · subst w2
          exact ⟨rfl, Ed.bad (ex_no HMOD.out h3) HA.out.low⟩
        subst w2
        have HM2 := hide (ex_go HMOD.out h3)
        have hm1 : m < S.members.length := by
          unfold findMemberM at h3
          cases hw : wantM (isNameB s) 71 with
          | error c => rw [hw] at h3; cases h3
          | ok _ =>
            rw [hw] at h3
            have h4 : findM S.ctx.people s 82 = .ok m := h3
            have := (find_ok h4).2.2
            simpa [Ctx.people, StatM.ctx] using this
        obtain ⟨mm, hmm⟩ : ∃ mm, S.members[m]? = some mm := ⟨S.members[m], List.getElem?_eq_getElem hm1⟩
        have hgd : (S.ctx.members.getD m ([], [])).2 = mm.2 := by show (S.members.getD m ([], [])).2 = mm.2; rw [List.getD_eq_getElem?_getD, hmm]; rfl
        rw [hgd] at HM2
        obtain ⟨ma, mc, hmv, -, -⟩ := HRX.out.rep.members.form
        rw [hmv] at c2
        have hmr := HRX.out.rep.members
        rw [hmv] at hmr
        obtain ⟨g3, o3, rfl, hg3, -, m2, -, -⟩ := at_M hmr hmm
        have CW := hide (fun Y (hY : Lk wr Y) b c => want_any (HRX.out.like hY).c9 b c)
        unfold str at m2
        generalize mm.2 = mk at m2 HM2
        rw [show decide (mk = k) = (mk == k) from by rw [Bool.eq_iff_iff]; simp] at HM2
        clear hE h3 HMOD CM hmm hgd hmr hmv
        go_upto_region 9 with fail
        refine region_last (by kernel_rfl) (by kernel_rfl) (by kernel_rfl) (by kernel_rfl) (by kernel_rfl) ?_
        dsimp only [List.dropLast, List.getLast, List.cons_append, List.nil_append]
        repeat (go_big_quiet_step (fail))
        refine wpQuiet_nil ?_
        rintro _ ⟨nq, rfl⟩
        go_wp2_with fail
        refine (CW.out _ .of _ _).mono ?_
        intro e w2 hE
        rcases hE.no with ⟨c1, h3, rfl, hw⟩ | ⟨_, h3, rfl, hw⟩
        · subst w2
          exact ⟨rfl, Ed.bad (ex_no HM2.out h3) (HA.out.low.trans ((below_drewN wr nq).mono HA.out.low.size))⟩
        subst w2
        have HM3 := hide (ex_go HM2.out h3)
        have HAD : Hid (AG R S st mp it seen X l p #[.string ⟨p.name.toArray⟩, .int .i64 p.sort, .slice (some ⟨g2, o2, none⟩) p.kinds.length kc, .slice va p.values.length vc] (argsGM S.ctx ms (l.drop i) (p.kinds.drop i)) i ms (.slice a0 ms.length c0) (wr.drewN nq)) := hide ⟨HRX.out.below (below_drewN wr nq), HA.out.low.trans ((below_drewN wr nq).mono HA.out.low.size), owns_keep HA.out.row fun _ _ => rfl, rfl, HA.out.box⟩
        have HROW := hide HAD.out.row
        clear hE h3 HM2 CW c10 c2 hlk d2 e0 f0 m2
        go_upto_region 10 with fail
        generalize wr.drewN nq = wd at *
        have HX4 : X.heap.size < wd.heap.size := loc_lt HAD.out.box
        go_wp2_with (at_builtin; go_must (refine wpList_append_two _ rfl _ _ 38 rfl (X.heap.size + 1) 3 iM _ 1 8 Tryz.underlying38 hiM zM0 zM1 zM2 rfl (by decide) _ _ _ rfl (HROW.out.alloc _) ⟨wd.heap.size, 0, none⟩ 1 [.int .i64 m] rfl rfl (news_at rfl) (by simp [Value.oneCell']) (by unfold maxLen; omega) (by omega) (by simp; omega) ?_))
        intro g4 cap4 w4 hown4 hg4
        have hfr := grown_fr (Z := fun k => X.heap.size + 1 ≤ k) rfl hg4 fun g e => (HROW.out.lt g e).1
        have hlow4 : Below X.heap.size X w4 := HAD.out.low.trans (hfr.below fun k hk => ⟨by omega, by show ¬ X.heap.size + 1 ≤ k; omega⟩)
        have hbox4 := (hfr.block _ HX4 (by show ¬ X.heap.size + 1 ≤ X.heap.size; omega)).trans HAD.out.box
        have HA4 : Hid (AG R S st mp it seen X l p #[.string ⟨p.name.toArray⟩, .int .i64 p.sort, .slice (some ⟨g2, o2, none⟩) p.kinds.length kc, .slice va p.values.length vc] o (i + 1) (ms ++ [m]) (.slice (some ⟨g4, 0, none⟩) (ms.length + 1) cap4) w4) := by
          refine hide ⟨H0.out.below hlow4, hlow4, ?_, HM3.out, hbox4⟩
          rw [show (ms ++ [m]).length = ms.length + 1 from by simp, show nats (ms ++ [m]) = nats ms ++ [.int .i64 (m : Int)] from by unfold nats; simp]
          exact hown4
        clear hown4 hg4 hfr hlow4 hbox4 HM3 HROW HAD
        go_wp2_with fail
        go_roundw
        case rel => exact ⟨i + 1, some ⟨g4, 0, none⟩, cap4, ms ++ [m], by omega, by go_num, by simp, by simp; omega, by simpa using HA4⟩
        case measure => simp [intOf]; omega
    · have HE : .ok ms = o := by
        have := HA.out.mod
        rw [List.drop_eq_nil_of_le (by omega), List.drop_eq_nil_of_le (by have := HLN.out; omega)] at this
        exact this
      go_wp2_with fail
      go_ret
      exact Ed.ok HE ⟨a0, c0, rfl, owns_down' HA.out.row (Nat.le_succ _)⟩ HA.out.low
end
end Go.Proofs.YtfnobccminhjpaaGreat
/- A ground literal as the page asks for it, beside the program's: plain mathematics. -/
namespace Go.Proofs.YtfnobccminhjpaaGreat

section
variable {C : Ctx}
theorem arg1_const {v : Scope} {s k : Bytes} (hv : isVarB s = false) : arg1M C v s k = (findMemberM C s >>= fun m => wantM (decide ((C.members.getD m ([], [])).2 = k)) 81 >>= fun _ => .ok v) := by
  unfold arg1M
  rw [if_neg (by rw [hv]; simp)]
/-- One step of the program's arguments, by the page's question with an empty book. -/
theorem argsG_step {ms : List Nat} {s k : Bytes} {r q : List Bytes} (hv : isVarB s = false) : argsGM C ms (s :: r) (k :: q) = (arg1M C [] s k >>= fun _ => argsGM C (ms ++ [posB C.people s]) r q) := by
  rw [arg1_const hv]
  show (if isVarB s then .error 86 else findMemberM C s >>= fun m => wantM (decide ((C.members.getD m ([], [])).2 = k)) 81 >>= fun _ => argsGM C (ms ++ [m]) r q) = _
  rw [if_neg (by rw [hv]; simp)]
  cases hm : findMemberM C s with
  | error c => rfl
  | ok m =>
    have e : m = posB C.people s := by
      unfold findMemberM findM at hm
      cases hn : wantM (isNameB s) 71 with
      | error c => rw [hn] at hm; cases hm
      | ok u =>
        rw [hn] at hm
        change (wantM (decide (s ∈ C.people)) 82 >>= fun _ => .ok (posB C.people s)) = .ok m at hm
        cases hw : wantM (decide (s ∈ C.people)) 82 with
        | error c => rw [hw] at hm; cases hm
        | ok u => rw [hw] at hm; exact (Except.ok.inj hm).symm
    subst e
    show (wantM (decide ((C.members.getD (posB C.people s) ([], [])).2 = k)) 81 >>= fun _ => argsGM C (ms ++ [posB C.people s]) r q) = ((wantM (decide ((C.members.getD (posB C.people s) ([], [])).2 = k)) 81 >>= fun _ => (.ok [] : Er Scope)) >>= fun _ => argsGM C (ms ++ [posB C.people s]) r q)
    cases wantM (decide ((C.members.getD (posB C.people s) ([], [])).2 = k)) 81 <;> rfl
theorem argsG_var {ms : List Nat} {s k : Bytes} {r q : List Bytes} (hv : isVarB s = true) : argsGM C ms (s :: r) (k :: q) = .error 86 := by
  unfold argsGM
  rw [if_pos hv]
/-- Arguments that are members leave a book as it is. -/
theorem argsG_S : ∀ (l q : List Bytes) (ms x : List Nat) (v : Scope), argsGM C ms l q = .ok x → argsS C v l q = .ok v
  | [], _, _, _, _, _ => by unfold argsS; rfl
  | _ :: _, [], _, _, _, _ => by unfold argsS; rfl
  | s :: r, k :: q, ms, x, v, h => by
    cases hv : isVarB s with
    | true => rw [argsG_var hv] at h; cases h
    | false =>
      rw [argsG_step hv] at h
      unfold argsS
      have h1 : arg1M C v s k = (arg1M C [] s k >>= fun _ => .ok v) := by
        rw [arg1_const hv, arg1_const hv]
        cases findMemberM C s with
        | error c => rfl
        | ok m =>
          show (wantM (decide ((C.members.getD m ([], [])).2 = k)) 81 >>= fun _ => .ok v) = ((wantM (decide ((C.members.getD m ([], [])).2 = k)) 81 >>= fun _ => (.ok [] : Er Scope)) >>= fun _ => .ok v)
          cases wantM (decide ((C.members.getD m ([], [])).2 = k)) 81 <;> rfl
      rw [h1]
      cases ha : arg1M C [] s k with
      | error c => rw [ha] at h; cases h
      | ok u =>
        rw [ha] at h
        exact argsG_S r q _ x v h
/-- What is left to ask, once the arguments are right. -/
theorem literal_tail {l : LitM} {p : PredM} {x : List Nat} (hp : findPredM C l.pred = .ok p) (ha : argumentsGM C p l.args = .ok x) : literalGM C l = (literalS C [] l >>= fun _ => .ok x) := by
  have hS : argumentsS C [] p l.args = .ok [] := by
    unfold argumentsGM at ha
    unfold argumentsS
    cases hw : wantM (decide ((l.args.length : Int) = (p.kinds.length : Int))) 83 with
    | error c => rw [hw] at ha; cases ha
    | ok u =>
      rw [hw] at ha
      exact argsG_S _ _ _ x [] ha
  unfold literalGM literalS
  rw [hp]
  show (wantM (!decide (p.sort = 2)) 84 >>= fun _ => argumentsGM C p l.args >>= fun x => _) = ((wantM (!decide (p.sort = 2)) 84 >>= fun _ => argumentsS C [] p l.args >>= fun v' => _) >>= fun _ => .ok x)
  rw [ha, hS]
  cases wantM (!decide (p.sort = 2)) 84 with
  | error c => rfl
  | ok u =>
    show (wantM (l.hasValue == decide (p.sort = 3)) 84 >>= fun _ => wantM (l.hasValue || decide (l.value = 0)) 84 >>= fun _ => wantM (!l.hasValue || decide (l.value ∈ p.values)) 85 >>= fun _ => .ok x) = ((wantM (l.hasValue == decide (p.sort = 3)) 84 >>= fun _ => wantM (l.hasValue || decide (l.value = 0)) 84 >>= fun _ => wantM (!l.hasValue || decide (l.value ∈ p.values)) 85 >>= fun _ => (.ok [] : Er Scope)) >>= fun _ => .ok x)
    cases wantM (l.hasValue == decide (p.sort = 3)) 84 with
    | error c => rfl
    | ok u =>
      show (wantM (l.hasValue || decide (l.value = 0)) 84 >>= fun _ => wantM (!l.hasValue || decide (l.value ∈ p.values)) 85 >>= fun _ => .ok x) = ((wantM (l.hasValue || decide (l.value = 0)) 84 >>= fun _ => wantM (!l.hasValue || decide (l.value ∈ p.values)) 85 >>= fun _ => (.ok [] : Er Scope)) >>= fun _ => .ok x)
      cases wantM (l.hasValue || decide (l.value = 0)) 84 with
      | error c => rfl
      | ok u =>
        show (wantM (!l.hasValue || decide (l.value ∈ p.values)) 85 >>= fun _ => .ok x) = ((wantM (!l.hasValue || decide (l.value ∈ p.values)) 85 >>= fun _ => (.ok [] : Er Scope)) >>= fun _ => .ok x)
        cases wantM (!l.hasValue || decide (l.value ∈ p.values)) 85 <;> rfl
end
end Go.Proofs.YtfnobccminhjpaaGreat
/- A ground literal asked, whole. -/
namespace Go.Proofs.YtfnobccminhjpaaGreat
open Go.RowKit Go.Shelf Go.Maps Go.WideMaps

/-- A ground literal, its arguments in a row not below b. -/
def rL (S : StatM) (l : LitM) (b : Nat) (w : World) (ms : List Nat) (v : Value) : Prop := ∃ a c, v = .agg #[.bool l.neg, .int .i64 (posB S.ctx.names l.pred), .slice a ms.length c, .int .i64 l.value, .int .i64 0] ∧ w.ownsRow b 3 1 (.slice a ms.length c) ms.length (nats ms)
section
variable {R : Nat} {S : StatM} {st : St9} {mp : Mp8} {it : Nat} {seen : List Bytes} {X : World}
theorem litL_end {l : LitM} {ms : List Nat} {w2 : World} {o : Er (List Nat)} {xa : Option Addr} {xc : Nat} (hF : Below X.heap.size X w2) (hrow : w2.ownsRow (X.heap.size + 2) 3 1 (.slice xa ms.length xc) ms.length (nats ms)) (ho : .ok ms = o) (nq : Nat) :
    Ed X it (rL S l X.heap.size) o (.returned (.agg #[.bool l.neg, .int .i64 (posB S.ctx.names l.pred), .slice xa ms.length xc, .int .i64 l.value, .int .i64 0])) ((((((w2.drewN nq).setCell ⟨X.heap.size + 1, 0, none⟩ (.bool l.neg)).setCell ⟨X.heap.size + 1, 1, none⟩ (.int .i64 (posB S.ctx.names l.pred))).setCell ⟨X.heap.size + 1, 2, none⟩ (.slice xa ms.length xc)).setCell ⟨X.heap.size + 1, 3, none⟩ (.int .i64 l.value)).setCell ⟨X.heap.size + 1, 4, none⟩ (.int .i64 0)) := by
  refine Ed.ok ho ⟨xa, xc, rfl, owns_down' (b := X.heap.size + 2) (owns_keep hrow fun g hg => ?_) (by omega)⟩ ?_
  · have hgb : g ≠ X.heap.size + 1 := by have := (hrow.lt g hg).1; omega
    rw [heap_setCell_other _ _ g _ hgb, heap_setCell_other _ _ g _ hgb, heap_setCell_other _ _ g _ hgb, heap_setCell_other _ _ g _ hgb, heap_setCell_other _ _ g _ hgb]
    rfl
  · exact ((((((hF.trans ((below_drewN w2 nq).mono hF.size)).setCell (Nat.le_succ _) _).setCell (Nat.le_succ _) _).setCell (Nat.le_succ _) _).setCell (Nat.le_succ _) _).setCell (Nat.le_succ _) _)

set_option maxRecDepth 100000 in
set_option maxHeartbeats 12800000 in
theorem litL_any (h : Res R S st mp it seen X) {rb : Nat} (hrb : X.cell? ⟨rb, 0, none⟩ = some (ptr R)) (hp4 : ∀ p ∈ S.preds, p.kinds.length ≤ 4) (l : LitM) {aa : Option Addr} {ac : Nat} (hpr : l.pred.length ≤ maxLen) (hl : Strs X.heap.size X l.args (.slice aa l.args.length ac)) :
    Calls Tryz.prog 90 #[ptr R, .agg (litV l aa ac), .func (.func 91) #[] #[ptr rb]] X fun e X' => Ed X it (rL S l X.heap.size) (literalGM S.ctx l) e X' := by
  have hA : Below X.heap.size X ((X.alloc (.cells (litV l aa ac) 59)).alloc (.cells #[.bool false, .int .i64 0, .slice none 0 0, .int .i64 0, .int .i64 0] 64)) := ((Below.refl _ _).alloc (Nat.le_refl _) _).alloc (by simp) _
  have h1 := h.below hA
  have CP := hide (findPred_any h1 l.pred hpr)
  have H := hide h
  have HA := hide hA
  have hb0 := ((Below.refl (X.alloc (.cells (litV l aa ac) 59)).heap.size (X.alloc (.cells (litV l aa ac) 59))).alloc (Nat.le_refl _) (.cells #[.bool false, .int .i64 0, .slice none 0 0, .int .i64 0, .int .i64 0] 64)).block X.heap.size (by simp)
  have hb := hb0.trans (heap_alloc_new X (.cells (litV l aa ac) 59))
  have HB := hide hb
  have hr0 := heap_alloc_new (X.alloc (.cells (litV l aa ac) 59)) (.cells #[.bool false, .int .i64 0, .slice none 0 0, .int .i64 0, .int .i64 0] 64)
  have hsz : (X.alloc (.cells (litV l aa ac) 59)).heap.size = X.heap.size + 1 := by simp
  rw [hsz] at hr0
  have HR0 := hide hr0
  have b1 := cell_of_row _ X.heap.size 1 _ _ _ hb
  simp only [List.getElem?_toArray, List.getElem?_cons_zero, List.getElem?_cons_succ] at b1
  obtain ⟨o, ho⟩ : ∃ o, literalGM S.ctx l = o := ⟨_, rfl⟩
  rw [ho]
  have HO := hide ho
  unfold literalGM at HO
  unfold str at CP
  have HL := hide hl
  have HP4 := hide hp4
  have HRBC := hide hrb
  clear h h1 hA hb0 hb hr0 hsz ho hl hp4 hrb
  go_enter Tryz.func90, Tryz.ntmps90
  go_wp2_with fail
  refine CP.out.mono ?_
  intro e w1 hE
  rcases hE.no with ⟨c1, h3, rfl, hb⟩ | ⟨p, u, h3, rfl, hrp, hb⟩
  · exact on_panic rfl (Ed.bad (ex_no HO.out h3) (HA.out.trans (hb.mono HA.out.size)))
  obtain ⟨ka, kc, va, vc, rfl, hpn, hpk, hpv⟩ := hrp
  have HO1 := hide (ex_go HO.out h3)
  have HPM := hide (HP4.out p (findPredM_mem h3))
  have hA1 : Below w1.heap.size w1 (w1.alloc (.cells (predV p ka kc va vc) 132)) := (Below.refl _ _).alloc (Nat.le_refl _) _
  have hB1 : Below X.heap.size X (w1.alloc (.cells (predV p ka kc va vc) 132)) := (HA.out.trans (hb.mono HA.out.size)).trans (hA1.mono (Nat.le_trans HA.out.size hb.size))
  have hX1 := H.out.below hB1
  have HF1 := hide hB1
  have hs1 : X.heap.size + 2 ≤ w1.heap.size := by have := hb.size; simp at this; omega
  have hlb := (hA1.block X.heap.size (by omega)).trans ((hb.block X.heap.size (by first | (simp; done) | (simp; omega))).trans HB.out)
  have hrb := (hA1.block (X.heap.size + 1) (by omega)).trans ((hb.block (X.heap.size + 1) (by first | (simp; done) | (simp; omega))).trans HR0.out)
  have hpb := heap_alloc_new w1 (.cells (predV p ka kc va vc) 132)
  have HLB := hide hlb
  have HRB := hide hrb
  have HPB := hide hpb
  have hRX : R < X.heap.size := loc_lt H.out.box
  have HKS : Hid (Strs (w1.alloc (.cells (predV p ka kc va vc) 132)).heap.size (w1.alloc (.cells (predV p ka kc va vc) 132)) p.kinds (.slice ka p.kinds.length kc)) := hide (Strs.mono (by have := hA1.size; omega) (hpk.keep fun g hg => hA1.block g (by omega)))
  have HVS : Hid (Moneys R (w1.alloc (.cells (predV p ka kc va vc) 132)) p.values (.slice va p.values.length vc)) := hide (hpv.keep fun g hg => hA1.block g (by omega))
  have hvl : p.values.length ≤ 140737488351232 := by obtain ⟨_, _, _, _, h⟩ := hpv.form; exact h
  have p1 := cell_of_row _ w1.heap.size 1 _ _ _ hpb
  have p0 := cell_of_row _ w1.heap.size 0 _ _ _ hpb
  have p2 := cell_of_row _ w1.heap.size 2 _ _ _ hpb
  have p3 := cell_of_row _ w1.heap.size 3 _ _ _ hpb
  have l2 := cell_of_row _ X.heap.size 2 _ _ _ hlb
  simp only [List.getElem?_toArray, List.getElem?_cons_zero, List.getElem?_cons_succ] at p0 p1 p2 p3 l2
  have CW1 := hide (fun b c => want_any hX1.c9 b c)
  have CA := hide (argsG_any (va := va) (vc := vc) hX1 (rb := rb) ((World.cell?_of_block (hB1.block rb (World.block_lt_of_cell? X _ HRBC.out))).trans HRBC.out) p HKS.out HPM.out l.args (Strs.mono hB1.size (HL.out.keep fun g hg => hB1.block g hg)))
  have HX1 := hide hX1
  simp only [litV, predV] at *
  clear hE h3 HO CP hb hA1 hB1 hX1 hlb hrb hpb hpk hpv hpn b1
  rw [show decide (p.sort = 2) = (p.sort == 2) from rfl] at HO1
  go_wp2_with fail
  refine (CW1.out _ _).mono ?_
  intro e w2 hE
  rcases hE.no with ⟨c1, h3, rfl, hw⟩ | ⟨_, h3, rfl, hw⟩
  · subst w2
    exact on_panic rfl (Ed.bad (ex_no HO1.out h3) HF1.out)
  subst w2
  have HO2 := hide (ex_go HO1.out h3)
  clear hE h3 HO1 CW1
  go_wp2_with fail
  refine CA.out.mono ?_
  intro e w2 hE
  rcases hE.no with ⟨c1, h3, rfl, hf⟩ | ⟨ms, v2, h3, rfl, hrow0, hf⟩
  · exact on_panic rfl (Ed.bad (ex_no HO2.out h3) (HF1.out.trans (hf.mono HF1.out.size)))
  obtain ⟨xa, xc, rfl, hrow⟩ := hrow0
  have HO3 := hide (ex_go HO2.out h3)
  have hX2 := HX1.out.below hf
  have HF2 := hide (HF1.out.trans (hf.mono HF1.out.size))
  have HROW : Hid (w2.ownsRow (X.heap.size + 2) 3 1 (.slice xa ms.length xc) ms.length (nats ms)) := hide (owns_down' hrow (by simp; omega))
  have hlb := (hf.block X.heap.size (loc_lt HLB.out)).trans HLB.out
  have hrb := (hf.block (X.heap.size + 1) (loc_lt HRB.out)).trans HRB.out
  have hpb := (hf.block w1.heap.size (loc_lt HPB.out)).trans HPB.out
  have HRB2 := hide hrb
  have q1 := cell_of_row w2 w1.heap.size 1 _ _ _ hpb
  have q3 := cell_of_row w2 w1.heap.size 3 _ _ _ hpb
  have r0 := cell_of_row w2 X.heap.size 0 _ _ _ hlb
  have r1 := cell_of_row w2 X.heap.size 1 _ _ _ hlb
  have r3 := cell_of_row w2 X.heap.size 3 _ _ _ hlb
  have r4 := cell_of_row w2 X.heap.size 4 _ _ _ hlb
  simp only [List.getElem?_toArray, List.getElem?_cons_zero, List.getElem?_cons_succ] at q1 q3 r0 r1 r3 r4
  have CW2 := hide (fun b c => want_any hX2.c9 b c)
  have CH := hide (hasM_any (c := vc) (HVS.out.keep (w' := w2) (fun g hg => hf.block g (by have := loc_lt HX1.out.box; omega))).at1 hvl l.value)
  have c12 := hX2.c12
  have hlk := fun q => look_S (w := w2.drewN q) (hX2.mP.keep rfl) l.pred hpr
  clear hE h3 HO2 CA hf hrow hX2 hlb hrb hpb HX1 HF1 HLB HRB HPB p0 p1 p2 p3 l2
  rw [show (l.hasValue == decide (p.sort = 3)) = (l.hasValue == (p.sort == 3)) from rfl] at HO3
  go_wp2_with fail
  refine (CW2.out _ _).mono ?_
  intro e w3 hE
  rcases hE.no with ⟨c1, h3, rfl, hw⟩ | ⟨_, h3, rfl, hw⟩
  · subst w3
    exact on_panic rfl (Ed.bad (ex_no HO3.out h3) HF2.out)
  subst w3
  have HO4 := hide (ex_go HO3.out h3)
  clear hE h3 HO3
  cases hhv : l.hasValue with
  | true =>
    rw [hhv] at HO4 r3
    rw [Bool.true_or, Bool.not_true, Bool.false_or] at HO4
    go_wp2_with fail
    refine (CW2.out _ _).mono ?_
    intro e w3 hE
    rcases hE.no with ⟨c1, h3, rfl, hw⟩ | ⟨_, h3, rfl, hw⟩
    · cases h3
    subst w3
    have HO5 := hide (ex_go HO4.out h3)
    clear hE h3 HO4
    generalize decide (l.value ∈ p.values) = bx at CH HO5
    go_wp2_with (go_at_call 129; refine CH.out.mono ?_; rintro _ wn ⟨rfl, hwn⟩; subst wn)
    refine (CW2.out _ _).mono ?_
    intro e w3 hE
    rcases hE.no with ⟨c1, h3, rfl, hw⟩ | ⟨_, h3, rfl, hw⟩
    · subst w3
      exact on_panic rfl (Ed.bad (ex_no HO5.out h3) HF2.out)
    subst w3
    have HO6 := hide (ex_go HO5.out h3)
    clear hE h3 HO5 CH CW2
    have z0 := cell_of_row w2 (X.heap.size + 1) 0 _ _ _ HRB2.out
    have z1 := cell_of_row w2 (X.heap.size + 1) 1 _ _ _ HRB2.out
    have z2 := cell_of_row w2 (X.heap.size + 1) 2 _ _ _ HRB2.out
    have z3 := cell_of_row w2 (X.heap.size + 1) 3 _ _ _ HRB2.out
    have z4 := cell_of_row w2 (X.heap.size + 1) 4 _ _ _ HRB2.out
    have zf := fun i => frozen_of_row w2 (X.heap.size + 1) i _ _ HRB2.out
    simp only [List.getElem?_toArray, List.getElem?_cons_zero, List.getElem?_cons_succ] at z0 z1 z2 z3 z4
    go_upto_region 7 with fail
    refine region_last (by kernel_rfl) (by kernel_rfl) (by kernel_rfl) (by kernel_rfl) (by kernel_rfl) ?_
    dsimp only [List.dropLast, List.getLast, List.cons_append, List.nil_append]
    repeat (go_big_quiet_step (fail))
    refine wpQuiet_nil ?_
    rintro _ ⟨nq, rfl⟩
    go_wp2_with fail
    have hend := litL_end (l := l) (S := S) (it := it) HF2.out HROW.out HO6.out nq
    have hz := five_set (W := w2.drewN nq) (v0 := .bool l.neg) (v1 := .int .i64 (posB S.ctx.names l.pred)) (v2 := .slice xa ms.length xc) (v3 := .int .i64 l.value) (v4 := .int .i64 0) HRB2.out _ rfl
    generalize ((((((w2.drewN nq).setCell ⟨X.heap.size + 1, 0, none⟩ (.bool l.neg)).setCell ⟨X.heap.size + 1, 1, none⟩ (.int .i64 (posB S.ctx.names l.pred))).setCell ⟨X.heap.size + 1, 2, none⟩ (.slice xa ms.length xc)).setCell ⟨X.heap.size + 1, 3, none⟩ (.int .i64 l.value)).setCell ⟨X.heap.size + 1, 4, none⟩ (.int .i64 0)) = Y at *
    simp [bodyPost, results, Tryz.results90, go_sem, hz]
    exact hend
  | false =>
    rw [hhv] at HO4 r3
    rw [Bool.false_or, Bool.not_false, Bool.true_or] at HO4
    rw [show decide (l.value = 0) = (l.value == 0) from rfl] at HO4
    go_wp2_with fail
    refine (CW2.out _ _).mono ?_
    intro e w3 hE
    rcases hE.no with ⟨c1, h3, rfl, hw⟩ | ⟨_, h3, rfl, hw⟩
    · subst w3
      exact on_panic rfl (Ed.bad (ex_no HO4.out h3) HF2.out)
    subst w3
    have HO5 := hide (ex_go HO4.out h3)
    clear hE h3 HO4
    go_wp2_with fail
    refine (CW2.out _ _).mono ?_
    intro e w3 hE
    rcases hE.no with ⟨c1, h3, rfl, hw⟩ | ⟨_, h3, rfl, hw⟩
    · cases h3
    subst w3
    have HO6 := hide (ex_go HO5.out h3)
    clear hE h3 HO5 CH CW2
    have z0 := cell_of_row w2 (X.heap.size + 1) 0 _ _ _ HRB2.out
    have z1 := cell_of_row w2 (X.heap.size + 1) 1 _ _ _ HRB2.out
    have z2 := cell_of_row w2 (X.heap.size + 1) 2 _ _ _ HRB2.out
    have z3 := cell_of_row w2 (X.heap.size + 1) 3 _ _ _ HRB2.out
    have z4 := cell_of_row w2 (X.heap.size + 1) 4 _ _ _ HRB2.out
    have zf := fun i => frozen_of_row w2 (X.heap.size + 1) i _ _ HRB2.out
    simp only [List.getElem?_toArray, List.getElem?_cons_zero, List.getElem?_cons_succ] at z0 z1 z2 z3 z4
    go_upto_region 7 with fail
    refine region_last (by kernel_rfl) (by kernel_rfl) (by kernel_rfl) (by kernel_rfl) (by kernel_rfl) ?_
    dsimp only [List.dropLast, List.getLast, List.cons_append, List.nil_append]
    repeat (go_big_quiet_step (fail))
    refine wpQuiet_nil ?_
    rintro _ ⟨nq, rfl⟩
    go_wp2_with fail
    have hend := litL_end (l := l) (S := S) (it := it) HF2.out HROW.out HO6.out nq
    have hz := five_set (W := w2.drewN nq) (v0 := .bool l.neg) (v1 := .int .i64 (posB S.ctx.names l.pred)) (v2 := .slice xa ms.length xc) (v3 := .int .i64 l.value) (v4 := .int .i64 0) HRB2.out _ rfl
    generalize ((((((w2.drewN nq).setCell ⟨X.heap.size + 1, 0, none⟩ (.bool l.neg)).setCell ⟨X.heap.size + 1, 1, none⟩ (.int .i64 (posB S.ctx.names l.pred))).setCell ⟨X.heap.size + 1, 2, none⟩ (.slice xa ms.length xc)).setCell ⟨X.heap.size + 1, 3, none⟩ (.int .i64 l.value)).setCell ⟨X.heap.size + 1, 4, none⟩ (.int .i64 0)) = Y at *
    simp [bodyPost, results, Tryz.results90, go_sem, hz]
    exact hend
end
end Go.Proofs.YtfnobccminhjpaaGreat
