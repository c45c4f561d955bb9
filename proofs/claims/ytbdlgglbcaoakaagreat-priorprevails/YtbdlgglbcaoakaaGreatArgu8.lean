/- The arguments of a literal or a term. -/
import Derived.Test.YtbdlgglbcaoakaaGreatBind8
namespace Go.Proofs.YtbdlgglbcaoakaaGreat
open Go.RowKit Go.Shelf Go.Maps Go.WideMaps

theorem Scp.mono {Z Z' : Nat → Prop} {V M : Nat} {nv kv : Value} {v : Scope} {w : World} (h : Scp Z V M nv kv v w) (hz : ∀ k, k < w.heap.size → Z k → Z' k) : Scp Z' V M nv kv v w :=
  ⟨h.box, h.rowN, h.rowK, h.map, hz V (loc_lt h.box) h.zV, hz M h.map.lt h.zM, fun g hg => hz g (owns_lt h.rowN hg) (h.zn g hg), fun g hg => hz g (owns_lt h.rowK hg) (h.zk g hg), h.short⟩
theorem drop_c {α : Type} {l : List α} {k : Nat} {x : α} (hx : l[k]? = some x) : l.drop k = x :: l.drop (k + 1) := by
  have hlt := (List.getElem?_eq_some_iff.1 hx).1
  rw [List.drop_eq_getElem_cons hlt]
  rw [List.getElem?_eq_getElem hlt] at hx
  cases hx
  rfl
/-- What is new beside belongs to nobody. -/
theorem Rx.fit {W0 : World} {R : Nat} {S : StatM} {st : St9} {mp : Mp8} {it : Nat} {seen : List Bytes} {Z : Nat → Prop} {V M rb vb : Nat} {v : Scope} {X X1 : World} (h : Rx W0 R S st mp it seen Z V M rb vb v X) (hb : ∀ k, k < X.heap.size → (Z k ∨ k = rb ∨ k = vb ∨ k = R ∨ k < W0.heap.size) → X1.heap[k]? = X.heap[k]?) (hs : X.heap.size ≤ X1.heap.size) (ho : X1.os = X.os ∧ X1.tape = X.tape ∧ X1.output = X.output) :
    Rx W0 R S st mp it seen (fun k => (Z k ∧ k < X.heap.size) ∨ X1.heap.size ≤ k) V M rb vb v X1 := by
  obtain ⟨nv, kv, hS⟩ := h.scp
  have hx := h.bel.size
  have lt1 := World.block_lt_of_cell? X _ h.clo.crb
  have lt2 := World.block_lt_of_cell? X _ h.clo.cvb
  have lt3 := World.block_lt_of_cell? X _ h.clo.c9
  refine ⟨h.resW, ⟨ho.1.trans h.bel.os, ho.2.1.trans h.bel.tape, ho.2.2.trans h.bel.output, Nat.le_trans hx hs, fun k hk => (hb k (by omega) (by omega)).trans (h.bel.block k hk)⟩, ?_, ⟨nv, kv, (hS.mono fun k hk hz => .inl ⟨hz, hk⟩).keep ?_⟩, ⟨(World.cell?_of_block (hb rb lt1 (.inr (.inl rfl)))).trans h.clo.crb, (World.cell?_of_block (hb vb lt2 (.inr (.inr (.inl rfl))))).trans h.clo.cvb, (World.cell?_of_block (hb R lt3 (.inr (.inr (.inr (.inl rfl)))))).trans h.clo.c9, ?_, ?_, ?_⟩, fun g hg => .inr hg⟩
  · rintro k (a | a)
    · exact h.low k a.1
    · omega
  · rintro k (a | a) hk
    · exact hb k hk (.inl a.1)
    · omega
  · rintro (a | a)
    · exact h.clo.nrb a.1
    · have : rb < X.heap.size := lt1; omega
  · rintro (a | a)
    · exact h.clo.nvb a.1
    · have : vb < X.heap.size := lt2; omega
  · rintro (a | a)
    · exact h.clo.nR a.1
    · have : R < X.heap.size := lt3; omega
def nats (l : List Nat) : List Value := l.map fun (n : Nat) => .int .i64 (n : Int)
/-- How a call ends that answers members' numbers. -/
def Ea (Z : Nat → Prop) (V M : Nat) (it : Int) (X : World) (o : Er (Scope × List Nat)) (e : Ending) (X' : World) : Prop := Fr Z X X' ∧ match o with
  | .ok x => (∃ a c, e = .returned (.slice a x.2.length c) ∧ X'.ownsRow 0 3 1 (.slice a x.2.length c) x.2.length (nats x.2)) ∧ ∃ nv kv, Scp Z V M nv kv x.1 X'
  | .error c => e = .panicked [fl c it]
theorem Ea.bad {Z : Nat → Prop} {V M : Nat} {it : Int} {X : World} {o : Er (Scope × List Nat)} {c : Int} {X' : World} (h : .error c = o) (hf : Fr Z X X') : Ea Z V M it X o (.panicked [fl c it]) X' := by subst h; exact ⟨hf, rfl⟩
theorem Ea.no {Z : Nat → Prop} {V M : Nat} {it : Int} {X : World} {o : Er (Scope × List Nat)} {e : Ending} {X' : World} (h : Ea Z V M it X o e X') : (∃ c, o = .error c ∧ e = .panicked [fl c it] ∧ Fr Z X X') ∨ (∃ v' ms a c, o = .ok (v', ms) ∧ e = .returned (.slice a ms.length c) ∧ X'.ownsRow 0 3 1 (.slice a ms.length c) ms.length (nats ms) ∧ (∃ nv kv, Scp Z V M nv kv v' X') ∧ Fr Z X X') := by
  obtain ⟨hf, h⟩ := h
  cases o with
  | ok x => obtain ⟨⟨a, c, h1, h2⟩, h3⟩ := h; exact .inr ⟨x.1, x.2, a, c, rfl, h1, h2, h3, hf⟩
  | error c => exact .inl ⟨c, rfl, h, hf⟩

section
variable {W0 : World} {R : Nat} {S : StatM} {st : St9} {mp : Mp8} {it : Nat} {seen : List Bytes} {Z : Nat → Prop} {V M rb vb : Nat} {v : Scope} {X : World}
/-- What stands in the midst of the arguments. -/
structure AI (W0 : World) (R : Nat) (S : StatM) (st : St9) (mp : Mp8) (it : Nat) (seen : List Bytes) (Z : Nat → Prop) (V M rb vb : Nat) (v : Scope) (X : World) (l : List Bytes) (p : PredM) (pv : Array Value) (o : Er (Scope × List Nat)) (i : Nat) (ms : List Nat) (mv : Value) (v' : Scope) (wr : World) : Prop where
  rx : ∃ Z', (∀ k, Z' k → Z k) ∧ Rx W0 R S st mp it seen Z' V M rb vb v' wr ∧ (∀ g, mv.ownBlock = some g → X.heap.size < g ∧ ¬ Z' g) ∧ ¬ Z' X.heap.size
  row : wr.ownsRow 0 3 1 mv ms.length (nats ms)
  fr : Fr Z X wr
  len : v'.length ≤ v.length + i
  mod : argsM S.ctx v' ms (l.drop i) (p.kinds.drop i) = o
  box : wr.heap[X.heap.size]? = some (.cells pv 119 (0, 0))

set_option maxRecDepth 100000 in
set_option maxHeartbeats 12800000 in
theorem args_any (h : Rx W0 R S st mp it seen Z V M rb vb v X) (p : PredM) {ka va : Option Addr} {kc vc : Nat} (hpk : Strs R W0 p.kinds (.slice ka p.kinds.length kc)) (hp4 : p.kinds.length ≤ 4) (l : List Bytes) {aa : Option Addr} {ac : Nat} (hl : Strs R W0 l (.slice aa l.length ac)) (hv : v.length + 4 ≤ 4096) :
    Calls Tryz.prog 128 #[ptr R, .agg (predV p ka kc va vc), .slice aa l.length ac, .func (.func 112) #[] #[ptr rb, ptr vb]] X fun e X' => Ea Z V M it X (argumentsM S.ctx v p l) e X' := by
  have hA : Below X.heap.size X (X.alloc (.cells (predV p ka kc va vc) 119)) := (Below.refl _ _).alloc (Nat.le_refl _) _
  have h1 := h.below hA
  have CW := hide (fun b c => want_any h1.res.c9 b c)
  have HF0 : Hid (Fr Z X (X.alloc (.cells (predV p ka kc va vc) 119))) := hide (.of_below hA)
  have hbx := heap_alloc_new X (.cells (predV p ka kc va vc) 119)
  have HBX := hide hbx
  have b2 := cell_of_row _ X.heap.size 2 _ _ _ hbx
  simp only [predV, List.getElem?_toArray, List.getElem?_cons_zero, List.getElem?_cons_succ] at b2
  have H1 := hide (h.fit (X1 := X.alloc (.cells (predV p ka kc va vc) 119)) (fun k hk _ => hA.block k hk) hA.size ⟨hA.os, hA.tape, hA.output⟩)
  have HZ1 : Hid (∀ k, ((Z k ∧ k < X.heap.size) ∨ (X.alloc (.cells (predV p ka kc va vc) 119)).heap.size ≤ k) → Z k) := by
    rintro k (a | a)
    · exact a.1
    · exact h.new k (by have := hA.size; omega)
  have HPK := hide hpk
  have HL := hide hl
  have hll : l.length ≤ 140737488351232 := by obtain ⟨_, _, _, _, h⟩ := hl.form; exact h
  have HXs := hide (Nat.le_trans (loc_lt h.resW.box) h.bel.size)
  have HNEW := hide h.new
  have HLB := hide (And.intro (World.block_lt_of_cell? X _ h.clo.crb) (And.intro (World.block_lt_of_cell? X _ h.clo.cvb) (And.intro (World.block_lt_of_cell? X _ h.clo.c9) h.bel.size)))
  obtain ⟨o, ho⟩ : ∃ o, argumentsM S.ctx v p l = o := ⟨_, rfl⟩
  rw [ho]
  have HO := hide ho
  unfold argumentsM at HO
  obtain ⟨iM, hiM, zM0, zM1, zM2⟩ := info_parts' infoI
  simp only [predV] at *
  clear h h1 hA ho hpk hl hbx
  go_enter Tryz.func128, Tryz.ntmps128
  rw [show decide ((l.length : Int) = (p.kinds.length : Int)) = ((l.length : Int) == (p.kinds.length : Int)) from rfl] at HO
  go_wp2_with fail
  refine (CW.out _ _).mono ?_
  intro e w1 hE
  rcases hE.no with ⟨c1, h3, rfl, hw⟩ | ⟨_, h3, rfl, hw⟩
  · subst w1
    exact on_panic rfl (Ea.bad (ex_no HO.out h3) HF0.out)
  subst w1
  have hlen : l.length = p.kinds.length := by
    by_cases hh : (l.length : Int) = (p.kinds.length : Int)
    · omega
    · rw [show ((l.length : Int) == (p.kinds.length : Int)) = false from beq_eq_false_iff_ne.2 hh] at h3; cases h3
  have HO2 := hide (ex_go HO.out h3)
  have HLN := hide hlen
  clear hE h3 HO CW
  go_wp2_with fail
  go_loopw [9, 23] (fun m x wr => ∃ (i : Nat) (a0 : Option Addr) (c0 : Nat) (ms : List Nat) (v' : Scope), i ≤ l.length ∧ x = .int .i64 i ∧ m = .slice a0 ms.length c0 ∧ ms.length ≤ i ∧ Hid (AI W0 R S st mp it seen Z V M rb vb v X l p #[.string ⟨p.name.toArray⟩, .int .i64 p.sort, .slice ka p.kinds.length kc, .slice va p.values.length vc] o i ms (.slice a0 ms.length c0) v' wr)) (fun _ x _ => l.length - (intOf x).toNat)
  case atStart => exact ⟨0, none, 0, [], v, by omega, rfl, rfl, Nat.le_refl _, hide ⟨⟨_, HZ1.out, H1.out, (fun g hg => by cases hg), by rintro (a | a); exact absurd a.2 (Nat.lt_irrefl _); simp at a; omega⟩, ⟨rfl, .inl ⟨rfl, rfl⟩⟩, HF0.out, by omega, by simpa using HO2.out, HBX.out⟩⟩
  case round =>
    obtain ⟨i, a0, c0, ms, v', hi, rfl, rfl, hms, HA⟩ := hrel
    clear HO2 HBX
    by_cases hlt : i < l.length
    · obtain ⟨s, hs0⟩ : ∃ s, l[i]? = some s := ⟨l[i], List.getElem?_eq_getElem hlt⟩
      obtain ⟨k, hk0⟩ : ∃ k, p.kinds[i]? = some k := ⟨p.kinds[i]'(by omega), List.getElem?_eq_getElem (by omega)⟩
      obtain ⟨Z', hzz, hrx, hrn, hnb⟩ := HA.out.rx
      have HNB := hide hnb
      have HRX := hide hrx
      obtain ⟨g, oo, rfl, hg, e0, hs⟩ := at_S (HL.out.keep hrx.at0) hs0
      obtain ⟨g2, o2, rfl, hg2, f0, hk⟩ := at_S (HPK.out.keep hrx.at0) hk0
      have d2 := cell_of_row wr X.heap.size 2 _ _ _ HA.out.box
      simp only [List.getElem?_toArray, List.getElem?_cons_zero, List.getElem?_cons_succ] at d2
      have CV := hide (isVar_any ⟨s.toArray⟩ wr)
      have hmod := HA.out.mod
      rw [drop_c hs0, drop_c hk0] at hmod
      unfold argsM at hmod
      have HMOD := hide hmod
      have HVL := hide HA.out.len
      have c10 := hrx.res.c10
      have c2 := hrx.res.c2
      have hlk := fun q => look_S (w := wr.drewN q) (hrx.res.mK'.keep rfl) k hk
      have HZZ := hide hzz
      have HRN := hide hrn
      unfold str at *
      clear hmod hs0 hk0 hrx hzz hrn hnb
      cases hv : isVarB s with
      | true =>
        rw [show (⟨s.toArray⟩ : ByteArray).data.toList = s from rfl, hv] at CV
        rw [if_pos hv] at HMOD
        obtain ⟨nv, kv, hsc⟩ := HRX.out.scp
        have CC := hide (fun Y (hY : Lk wr Y) => clos_any (HRX.out.clo.fr (.of_below hY.below)) (hsc.below hY.below) (fun g hg => HRX.out.new g (by rw [hY.heap] at hg; exact hg)) (by have := HVL.out; omega) s hs (posB S.ctx.kinds k))
        unfold str at CC
        clear hsc
        go_upto_region 7 with (go_at_call 131; refine CV.out.mono ?_; rintro _ wn ⟨rfl, hwn⟩; subst wn)
        refine region_last (by kernel_rfl) (by kernel_rfl) (by kernel_rfl) (by kernel_rfl) (by kernel_rfl) ?_
        dsimp only [List.dropLast, List.getLast, List.cons_append, List.nil_append]
        repeat (go_big_quiet_step (fail))
        refine wpQuiet_nil ?_
        rintro _ ⟨nq, rfl⟩
        go_wp2_with fail
        refine (CC.out _ .of).mono ?_
        intro e w2 hE
        rcases hE.no with ⟨c1, h3, rfl, hf⟩ | ⟨v2, h3, rfl, hs2, hf⟩
        · exact ⟨rfl, Ea.bad (ex_no HMOD.out h3) (HA.out.fr.trans ((Fr.of_below (below_drewN wr nq)).trans (hf.mono fun k _ => HZZ.out k)))⟩
        have hm2 := ex_go HMOD.out h3
        have hf2 : Fr Z' wr w2 := (Fr.of_below (below_drewN wr nq)).trans hf
        have hrx2 := HRX.out.fr hf2 hs2
        have hv2 : v2.length ≤ v'.length + 1 := by
          unfold bindM at h3
          cases hw : wantM (decide (kindAt (bindS v' s (posB S.ctx.kinds k)) s = (posB S.ctx.kinds k : Int))) 81 with
          | error c => rw [hw] at h3; cases h3
          | ok _ =>
            rw [hw] at h3
            have h4 : (Except.ok (bindS v' s (posB S.ctx.kinds k)) : Er Scope) = .ok v2 := h3
            injection h4 with h5
            rw [← h5]
            exact bind_len _ _ _
        have HA2 : Hid (AI W0 R S st mp it seen Z V M rb vb v X l p #[.string ⟨p.name.toArray⟩, .int .i64 p.sort, .slice (some ⟨g2, o2, none⟩) p.kinds.length kc, .slice va p.values.length vc] o (i + 1) ms (.slice a0 ms.length c0) v2 w2) :=
          hide ⟨⟨Z', HZZ.out, hrx2, HRN.out, HNB.out⟩, owns_keep HA.out.row fun j hj => hf2.block j (owns_lt HA.out.row hj) (HRN.out j hj).2, HA.out.fr.trans (hf2.mono fun k _ => HZZ.out k), by have := HVL.out; omega, hm2, (hf2.block X.heap.size (loc_lt HA.out.box) HNB.out).trans HA.out.box⟩
        clear hE h3 hf hf2 hrx2 hm2 hs2 CC
        go_wp2_with fail
        go_roundw
        case rel => exact ⟨i + 1, a0, c0, ms, v2, by omega, by go_num, rfl, by omega, HA2⟩
        case measure => simp [intOf]; omega
      | false =>
        rw [show (⟨s.toArray⟩ : ByteArray).data.toList = s from rfl, hv] at CV
        rw [if_neg (by rw [hv]; simp)] at HMOD
        have CM := hide (findMember_any HRX.out.res s hs)
        unfold str vN at CM
        go_wp2_with (go_at_call 131; refine CV.out.mono ?_; rintro _ wn ⟨rfl, hwn⟩; subst wn)
        refine CM.out.mono ?_
        intro e w2 hE
        rcases hE.no with ⟨c1, h3, rfl, hw⟩ | ⟨m, h3, rfl, hw⟩
        · subst w2
          exact ⟨rfl, Ea.bad (ex_no HMOD.out h3) HA.out.fr⟩
        subst w2
        have HM2 := hide (ex_go HMOD.out h3)
        have hm1 : m < S.members.length := by
          unfold findMemberM at h3
          cases hw : wantM (isNameB s) 71 with
          | error c => rw [hw] at h3; cases h3
          | ok _ =>
            rw [hw] at h3
            have h4 : findM S.ctx.people s 82 = .ok m := h3
            have := (find_ok h4).2.2
            simpa [Ctx.people, StatM.ctx] using this
        obtain ⟨mm, hmm⟩ : ∃ mm, S.members[m]? = some mm := ⟨S.members[m], List.getElem?_eq_getElem hm1⟩
        have hgd : (S.ctx.members.getD m ([], [])).2 = mm.2 := by show (S.members.getD m ([], [])).2 = mm.2; rw [List.getD_eq_getElem?_getD, hmm]; rfl
        rw [hgd] at HM2
        obtain ⟨ma, mc, hmv, -, -⟩ := HRX.out.res.rep.members.form
        rw [hmv] at c2
        have hmr := HRX.out.res.rep.members
        rw [hmv] at hmr
        obtain ⟨g3, o3, rfl, hg3, -, m2, -, -⟩ := at_M hmr hmm
        have CW := hide (fun Y (hY : Lk wr Y) b c => want_any (HRX.out.res.like hY).c9 b c)
        unfold str at m2
        generalize mm.2 = mk at m2 HM2
        rw [show decide (mk = k) = (mk == k) from by rw [Bool.eq_iff_iff]; simp] at HM2
        clear hE h3 HMOD CM hmm hgd hmr hmv
        go_upto_region 9 with fail
        refine region_last (by kernel_rfl) (by kernel_rfl) (by kernel_rfl) (by kernel_rfl) (by kernel_rfl) ?_
        dsimp only [List.dropLast, List.getLast, List.cons_append, List.nil_append]
        repeat (go_big_quiet_step (fail))
        refine wpQuiet_nil ?_
        rintro _ ⟨nq, rfl⟩
        go_wp2_with fail
        refine (CW.out _ .of _ _).mono ?_
        intro e w2 hE
        rcases hE.no with ⟨c1, h3, rfl, hw⟩ | ⟨_, h3, rfl, hw⟩
        · subst w2
          exact ⟨rfl, Ea.bad (ex_no HM2.out h3) (HA.out.fr.trans (.of_below (below_drewN wr nq)))⟩
        subst w2
        have HM3 := hide (ex_go HM2.out h3)
        have HROW : Hid ((wr.drewN nq).ownsRow 0 3 1 (.slice a0 ms.length c0) ms.length (nats ms)) := hide (owns_keep HA.out.row fun _ _ => rfl)
        have HRD := hide (HRX.out.below (below_drewN wr nq))
        have HFD := hide (HA.out.fr.trans (.of_below (below_drewN wr nq)))
        have HBD : Hid ((wr.drewN nq).heap[X.heap.size]? = some (.cells #[.string ⟨p.name.toArray⟩, .int .i64 p.sort, .slice (some ⟨g2, o2, none⟩) p.kinds.length kc, .slice va p.values.length vc] 119 (0, 0))) := HA.out.box
        clear hE h3 HM2 CW c10 c2 hlk d2 e0 f0 m2
        go_upto_region 10 with fail
        generalize wr.drewN nq = wd at *
        go_wp2_with (at_builtin; go_must (refine wpList_append_two _ rfl _ _ 57 rfl 0 3 iM _ 1 8 Tryz.underlying57 hiM zM0 zM1 zM2 rfl (by decide) _ _ _ rfl (HROW.out.alloc _) ⟨wd.heap.size, 0, none⟩ 1 [.int .i64 m] rfl rfl (news_at rfl) (by simp [Value.oneCell']) (by unfold maxLen; omega) (by omega) (Nat.zero_le _) ?_))
        intro g4 cap4 w4 hown4 hg4
        have hw4 : wd.heap.size < w4.heap.size := by
          rcases hg4 with ⟨_, h2⟩ | ⟨_, h2⟩ <;> (have := h2.size; simp at this; omega)
        have hg4l := owns_lt hown4 (g := g4) rfl
        have hX4 : X.heap.size < wd.heap.size := loc_lt HBD.out
        have hfr4 := grown_fr (Z := Z) rfl hg4 (fun j hj => HNEW.out j (Nat.le_of_lt (HRN.out j hj).1))
        have hrx4 := HRD.out.fit (X1 := w4) (fun j hj hh => grown_old rfl hg4 hj (fun e => by
          have h1 := HRN.out j e
          have h2 := HLB.out
          rcases hh with hh | hh | hh | hh | hh
          · exact h1.2 hh
          · omega
          · omega
          · omega
          · omega)) (Nat.le_of_lt hw4) ⟨hfr4.os, hfr4.tape, hfr4.output⟩
        have hb4 := (grown_old rfl hg4 (loc_lt HBD.out) (fun e => absurd (HRN.out _ e).1 (Nat.lt_irrefl _))).trans HBD.out
        have hg4X : X.heap.size < g4 := by
          rcases hg4 with ⟨h1, _⟩ | ⟨h1, _⟩
          · exact (HRN.out g4 h1).1
          · omega
        have hg4Z : ¬ ((Z' g4 ∧ g4 < wd.heap.size) ∨ w4.heap.size ≤ g4) := by
          rintro (a | a)
          · rcases hg4 with ⟨h1, _⟩ | ⟨h1, _⟩
            · exact (HRN.out g4 h1).2 a.1
            · omega
          · omega
        have HA4 : Hid (AI W0 R S st mp it seen Z V M rb vb v X l p #[.string ⟨p.name.toArray⟩, .int .i64 p.sort, .slice (some ⟨g2, o2, none⟩) p.kinds.length kc, .slice va p.values.length vc] o (i + 1) (ms ++ [m]) (.slice (some ⟨g4, 0, none⟩) (ms.length + 1) cap4) v' w4) := by
          refine hide ⟨⟨_, ?_, hrx4, fun j hj => by cases hj; exact ⟨hg4X, hg4Z⟩, ?_⟩, ?_, HFD.out.trans hfr4, by have := HVL.out; omega, HM3.out, hb4⟩
          · rintro k (a | a)
            · exact HZZ.out k a.1
            · exact HNEW.out k (by omega)
          · rintro (a | a)
            · exact HNB.out a.1
            · omega
          · rw [show (ms ++ [m]).length = ms.length + 1 from by simp, show nats (ms ++ [m]) = nats ms ++ [.int .i64 (m : Int)] from by unfold nats; simp]
            exact hown4
        clear hown4 hg4 hfr4 hrx4 hb4 hg4X hg4Z hw4 hg4l hX4 HM3 HROW HRD HFD HBD
        go_wp2_with fail
        go_roundw
        case rel => exact ⟨i + 1, some ⟨g4, 0, none⟩, cap4, ms ++ [m], v', by omega, by go_num, by simp, by simp; omega, by simpa using HA4⟩
        case measure => simp [intOf]; omega
    · have HE : .ok (v', ms) = o := by
        have := HA.out.mod
        rw [List.drop_eq_nil_of_le (by omega), List.drop_eq_nil_of_le (by have := HLN.out; omega)] at this
        exact this
      go_wp2_with fail
      go_ret
      obtain ⟨Z', hzz, hrx, hrn, hnb⟩ := HA.out.rx
      obtain ⟨nv, kv, hsc⟩ := hrx.scp
      have e2 := HE
      subst e2
      exact ⟨HA.out.fr, ⟨a0, c0, rfl, HA.out.row⟩, nv, kv, hsc.mono fun k _ => hzz k⟩
end
end Go.Proofs.YtbdlgglbcaoakaaGreat
