/- conclude. -/
import Derived.Test.YtdholifacnnjcaaRdq
import Derived.Test.YtdholifacnnjcaaNct
import Derived.Test.YtdholifacnnjcaaBeg
import Derived.Test.YtdholifacnnjcaaWkl
import Derived.Laws.EntriesVeiled
namespace Go.Proofs.Ytdholifacnnjcaa
open Go.RowKit Go.Shelf
attribute [local go_sem] Oper.semAt_some

theorem Ck.cells {K : Nat → Prop} {a : Adr} {n R : Nat} {s : Cs} {H : List (List Int)} {vs : List Value} {qv : Value} {w w' : World} (h : Ck K a n R s H vs qv w) (hk : ∀ (k : Nat) cs t fr, w.heap[k]? = some (Obj.cells cs t fr) → w'.heap[k]? = w.heap[k]?) (hs : w.heap.size ≤ w'.heap.size) : Ck K a n R s H vs qv w' := by
  have fx : ∀ {g T : Nat} {xs : List Value}, Fx g T xs w → Fx g T xs w' := fun hf => hf.keep (hk _ _ _ _ hf)
  refine ⟨fx h.cbx, fx h.crw, fx h.qbx, fx h.sbx, fx h.srw, fx h.rrw, fx h.pbx, fx h.kbx, fx h.mrw, fx h.frw, fx h.orw, h.us.rep (hk _ _ _ _ h.us.fx) fun i v g hv hg => ?_, h.qrw.keep fun g hg => ?_, h.n1, h.n2, h.n3, h.n4, h.n5, h.nq, h.nu, fun k hk2 => ⟨Nat.lt_of_lt_of_le (h.kp k hk2).1 hs, (h.kp k hk2).2⟩⟩
  · obtain ⟨l, ho⟩ := h.us.own_at hv
    rcases ho.2 with ⟨e, _⟩ | ⟨g', cap, cur, e, _, h3, _⟩
    · rw [e] at hg; cases hg
    · rw [e] at hg; cases hg; exact hk _ _ _ _ h3
  · rcases h.qrw with ⟨e, _⟩ | ⟨g', off, cap, cur, e, _, h3, _⟩
    · rw [e] at hg; cases hg
    · rw [e] at hg; cases hg; exact hk _ _ _ _ h3
theorem Ck.start {K : Nat → Prop} {a : Adr} {n R : Nat} {sg rd ms op : List Int} {cm : List Bool} {H : List (List Int)} {vs : List Value} {w w' : World}
    (hb : Below w.heap.size w w') (hc : Nc w.heap.size a.kb a.mr a.fr a.oo a.ub n R ms op H vs w')
    (h1 : Fx a.cb 31 [.slice (some ⟨a.cr, 0, none⟩) n n] w) (h2 : Fx a.cr 4 (bools cm) w) (h3 : Fx a.qb 26 [.slice none 0 0] w) (h4 : Fx a.sb 48 [.slice (some ⟨a.sr, 0, none⟩) n n, .slice (some ⟨a.rr, 0, none⟩) n n] w)
    (h5 : Fx a.sr 44 (ints sg) w) (h6 : Fx a.rr 3 (ints rd) w) (h7 : Fx a.pb 54 [.func (.func 41) #[] #[ptr a.cb, ptr a.qb]] w)
    (hK : ∀ k, K k → k < w.heap.size ∧ k ≠ a.cr ∧ k ≠ a.qb ∧ k ≠ a.sr ∧ k ≠ a.rr) :
    Ck K a n R ⟨sg, rd, cm, [], ms, List.replicate R false, op⟩ H vs (.slice none 0 0) w' := by
  have fx : ∀ {g T : Nat} {xs : List Value}, Fx g T xs w → Fx g T xs w' := fun hf => hf.keep (hb.block _ hf.lt)
  have l2 := h2.lt
  have l3 := h3.lt
  have l6 := h6.lt
  obtain ⟨q1, q2, q3, q4, q5⟩ := hc.lo
  refine ⟨fx h1, fx h2, fx h3, fx h4, fx h5, fx h6, fx h7, hc.kbx, hc.mrw, hc.frw, hc.orw, hc.us, .inl ⟨rfl, rfl⟩, by omega, by omega, by omega, hc.n4, by omega, ⟨by simp [Value.ownBlock], by simp [Value.ownBlock], by simp [Value.ownBlock]⟩, fun i v g hv hg => ?_, fun k hk => ?_⟩
  · have := hc.nu i v g hv hg
    exact ⟨by omega, this.1, this.2.1, by simp [Value.ownBlock]⟩
  · obtain ⟨e1, e2, e3, e4, e5⟩ := hK k hk
    have := hb.size
    exact ⟨by omega, e2, e3, e4, e5, by omega, by omega, by omega, by simp [Value.ownBlock]⟩
/-- How much there is to do yet. -/
def toDo (wb g : Nat) (w : World) : Nat := (match w.cell? ⟨wb, 0, none⟩ with | some (.slice _ k _) => k | _ => 0) + (match w.heap[g]? with | some (.cells cs _ _) => (cs.toList.filter fun v => match v with | .bool b => !b | _ => false).length | _ => 0)
theorem Ck.toDo {K : Nat → Prop} {a : Adr} {n R : Nat} {s : Cs} {H : List (List Int)} {vs : List Value} {qv : Value} {w : World} (h : Ck K a n R s H vs qv w) : toDo a.qb a.cr w = s.qu.length + lackN s.cm := by
  obtain ⟨q, c, rfl⟩ := h.qrw.form
  unfold Go.Proofs.Ytdholifacnnjcaa.toDo
  rw [h.qbx.get (i := 0) rfl, h.crw]
  simp only
  congr 1
  unfold bools lackN
  rw [List.filter_map, List.length_map]
  congr 1
theorem infoSg : (Try.prog.info? 44).map (fun i => (i.zero, i.size, i.bytes)) = some (some (.int .i64 0), 1, 8) := by kernel_rfl
/-- What is said, in memory, at its start. -/
structure Sd (N n sb sr rr : Nat) (w : World) : Prop where
  bx : Fx sb 48 [.slice (some ⟨sr, 0, none⟩) n n, .slice (some ⟨rr, 0, none⟩) n n] w
  ss : Fx sr 44 (ints (List.replicate n 0)) w
  rs : Fx rr 3 (ints (List.replicate n 0)) w
  lo : N ≤ sb ∧ N ≤ sr ∧ N ≤ rr
theorem St.ms_le {T : Th} {F : List Int} {n : Nat} {D : Nat → Int → Bool} {s : Cs} (h : St T F n D s) {r : Nat} {R : RuleM} (hr : T.rules[r]? = some R) (hk : R.kind = 1) : 0 ≤ s.ms.getD r 0 ∧ s.ms.getD r 0 ≤ R.body.length := by
  rw [h.ms r R hr hk]
  have := List.countP_le_length (p := fun y => !(D r y && decide (gi s.sg y = 1))) (l := R.body)
  omega
theorem St.op_le {T : Th} {F : List Int} {n : Nat} {D : Nat → Int → Bool} {s : Cs} (h : St T F n D s) {q : Nat} (hq : q < n) : 0 ≤ s.op.getD q 0 ∧ s.op.getD q 0 ≤ T.rules.length := by
  rw [h.op q hq]
  have := List.countP_le_length (p := fun r => openB T s.rf (q : Int) r) (l := List.range T.rules.length)
  simp only [List.length_range] at this
  omega
/-- What the loop keeps: in memory s', of which s is so. -/
structure Lp (K : Nat → Prop) (T : Th) (F : List Int) (a : Adr) (n : Nat) (H : List (List Int)) (vs : List Value) (w0 : World) (s s' : Cs) (W : World) : Prop where
  ck : ∃ qv, Ck K a n T.rules.length s' H vs qv W
  bt : Betw T F n s
  su : lackN s.cm + s.qu.length ≤ n
  fr : Fr (fun k => ¬ K k) w0 W
  kl : ∀ k, K k → k < w0.heap.size
theorem Lp.alloc {K : Nat → Prop} {T : Th} {F : List Int} {a : Adr} {n : Nat} {H : List (List Int)} {vs : List Value} {w0 : World} {s s' : Cs} {W : World} (h : Lp K T F a n H vs w0 s s' W) (o : Obj) : Lp K T F a n H vs w0 s s' (W.alloc o) := by
  obtain ⟨qv, hc⟩ := h.ck
  exact ⟨⟨qv, hc.go (below_new W o)⟩, h.bt, h.su, h.fr.trans (Fr.of_below (below_new W o)), h.kl⟩
theorem Lp.put {K : Nat → Prop} {T : Th} {F : List Int} {a : Adr} {n : Nat} {H : List (List Int)} {vs : List Value} {w0 : World} {s s' : Cs} {W : World} (h : Lp K T F a n H vs w0 s s' W) {l : Nat} {o : Obj} (o' : Obj) (hl : w0.heap.size ≤ l) (ho : W.heap[l]? = some o) (hn : o.isCells = false) : Lp K T F a n H vs w0 s s' (W.putObj l o') := by
  obtain ⟨qv, hc⟩ := h.ck
  refine ⟨⟨qv, hc.cells (fun k cs t fr hk => World.putObj_heap_other ?_) (by simp)⟩, h.bt, h.su, h.fr.trans ⟨rfl, rfl, rfl, by simp, fun k _ hz => World.putObj_heap_other ?_⟩, h.kl⟩
  · rintro rfl
    rw [ho] at hk
    cases hk
    cases hn
  · have := h.kl k (Classical.not_not.1 hz)
    omega
theorem alloc3 (w : World) (o0 o1 o2 : Obj) : Below w.heap.size w (((w.alloc o0).alloc o1).alloc o2).drew ∧ (((w.alloc o0).alloc o1).alloc o2).drew.heap[w.heap.size]? = some o0 ∧ (((w.alloc o0).alloc o1).alloc o2).drew.heap[w.heap.size + 1]? = some o1 ∧ (((w.alloc o0).alloc o1).alloc o2).drew.heap[w.heap.size + 1 + 1]? = some o2 := by
  obtain ⟨h1, h2, h3⟩ := two_boxes w o0 o1
  have s2 : ((w.alloc o0).alloc o1).heap.size = w.heap.size + 1 + 1 := by simp
  have e2 := heap_alloc_new ((w.alloc o0).alloc o1) o2
  rw [s2] at e2
  have k2 : ∀ g, g < ((w.alloc o0).alloc o1).heap.size → (((w.alloc o0).alloc o1).alloc o2).heap[g]? = ((w.alloc o0).alloc o1).heap[g]? := fun g hg => Below.heap_alloc _ _ _ hg
  exact ⟨(h1.alloc (by omega) _).drew, (k2 _ (by omega)).trans h2, (k2 _ (by omega)).trans h3, e2⟩
theorem Sd.start {N n sb sr rr : Nat} {w : World} (h1 : w.heap[sb]? = some (.cells #[.slice (some ⟨sr, 0, none⟩) n n, .slice (some ⟨rr, 0, none⟩) n n] 48 (0, 0))) (h2 : w.heap[sr]? = some (.cells (Array.replicate n (.int .i64 0)) 44 (0, 0))) (h3 : w.heap[rr]? = some (.cells (Array.replicate n (.int .i64 0)) 3 (0, 0))) (lo : N ≤ sb ∧ N ≤ sr ∧ N ≤ rr) : Sd N n sb sr rr w :=
  ⟨h1, by unfold Fx; rw [h2, ints_rep], by unfold Fx; rw [h3, ints_rep], lo⟩
set_option maxRecDepth 100000 in
set_option maxHeartbeats 12800000 in
theorem conclude_any {w : World} {T : Th} {F : List Int} {n : Nat} {fa ra ba ea : Option Addr} {fc rc bc ec : Nat} (h : TA w.heap.size w T fa fc ra rc ba bc) (hF : Ints w.heap.size w F (.slice ea F.length ec)) (hw : Nm T F n) (hn : T.lits = (n : Int)) (hn4 : n ≤ 4096) (hrl : T.rules.length ≤ 4096) (hbl : ∀ r ∈ T.rules, r.body.length ≤ 16) :
    Calls Try.prog 19 #[tv T fa fc ra rc ba bc, .slice ea F.length ec] w fun e w' => ∃ sg rd sr rr, e = .returned (.agg #[.slice (some ⟨sr, 0, none⟩) n n, .slice (some ⟨rr, 0, none⟩) n n]) ∧ Fin T F n sg rd ∧ Fx sr 44 (ints sg) w' ∧ Fx rr 3 (ints rd) w' ∧ w.heap.size ≤ sr ∧ w.heap.size ≤ rr ∧ Below w.heap.size w w' := by
  obtain ⟨iI, hiI, zI0, zI1, zI2⟩ := info_parts infoI
  obtain ⟨iS, hiS, zS0, zS1, zS2⟩ := info_parts infoSg
  have hm1 := fun W => run_make_fix (P := Try.prog) Try.underlying26 hiI zI0 zI1 rfl n (by rw [zI2]; omega) (by unfold maxLen; omega) W
  have hm2 := fun W => run_make_fix (P := Try.prog) Try.underlying46 hiS zS0 zS1 rfl n (by rw [zS2]; omega) (by unfold maxLen; omega) W
  have hB := below_new w (.cells #[.int .i64 T.lits, .slice fa T.foes.length fc, .slice ra T.rules.length rc, .slice ba T.beats.length bc] 25)
  have hX := heap_alloc_new w (.cells #[.int .i64 T.lits, .slice fa T.foes.length fc, .slice ra T.rules.length rc, .slice ba T.beats.length bc] 25)
  have HL := hide (TR.go hB h)
  have HFI := hide (Ints.go hB hF)
  have HB := hide hB
  have HX := hide hX
  have HN0 := hide hn
  have HW := hide hw
  have HBL := hide hbl
  have HL0 := hide h
  have HF0 := hide hF
  clear h hB hw hbl hF hn hX
  refine callsIn_wide.1 (callsIn_of_wp_marks (n := 3) Try.func19 rfl trivial (wpIn_wide.2 ?_))
  simp only [Try.ntmps19, List.size_toArray, List.length_cons, List.length_nil, Nat.reduceAdd, Nat.reduceSub, Array.replicate_succ, Array.replicate_zero, List.push_toArray, List.append_toArray, List.nil_append, List.cons_append]
  go_upto_region 1 with fail
  have hB2 := below_new (w.alloc (.cells #[.int .i64 T.lits, .slice fa T.foes.length fc, .slice ra T.rules.length rc, .slice ba T.beats.length bc] 25)) (.cells #[.slice none 0 0, .slice none 0 0] 48)
  have hX2 := heap_alloc_new (w.alloc (.cells #[.int .i64 T.lits, .slice fa T.foes.length fc, .slice ra T.rules.length rc, .slice ba T.beats.length bc] 25)) (.cells #[.slice none 0 0, .slice none 0 0] 48)
  have hsz : (w.alloc (.cells #[.int .i64 T.lits, .slice fa T.foes.length fc, .slice ra T.rules.length rc, .slice ba T.beats.length bc] 25)).heap.size = w.heap.size + 1 := by simp
  rw [hsz] at hX2
  have hX1 := (hB2.block w.heap.size (by omega)).trans HX.out
  have HX1 := hide hX1
  have HR1 : Hid (Fx (w.heap.size + 1) 48 [.slice none 0 0, .slice none 0 0] _) := hide hX2
  have HL1 := hide (TR.go hB2 HL.out)
  have HF1 := hide (Ints.go hB2 HFI.out)
  have HB1 := hide (HB.out.trans (hB2.mono HB.out.size))
  have hWlt := loc_lt hX2
  generalize (w.alloc (.cells #[.int .i64 T.lits, .slice fa T.foes.length fc, .slice ra T.rules.length rc, .slice ba T.beats.length bc] 25)).alloc (.cells #[.slice none 0 0, .slice none 0 0] 48) = W at *
  clear hB2 hX2 hsz HX HL HFI HB
  obtain ⟨-, c0, c1, c2, c3⟩ := Bt.of hX1
  clear hX1
  rw [HN0.out] at c0
  have up : ∀ (X : World) (o : Obj) (i : Nat) (v : Value), w.heap.size < X.heap.size → X.cell? ⟨w.heap.size, i, none⟩ = some v → (X.alloc o).cell? ⟨w.heap.size, i, none⟩ = some v := fun X o i v hx hv => (World.cell?_of_block ((below_new X o).block _ hx)).trans hv
  have q1 := fun o1 => up W o1 0 _ (by omega) c0
  have r1 := fun o1 o2 => up (W.alloc o1) o2 0 _ (by simp; omega) (q1 o1)
  clear up
  go_cut [5] from 16 to 22 (fun s wc => ∃ sb sr rr, s = ptr sb ∧ Hid (Sd W.heap.size n sb sr rr wc) ∧ Hid (Below W.heap.size W wc))
  case first =>
    go_region
    all_goals (go_wp2_with fail; go_meet)
    · exact ⟨_, _, _, rfl, hide (Sd.start (alloc3 W _ _ _).2.2.2 (alloc3 W _ _ _).2.1 (alloc3 W _ _ _).2.2.1 (by omega)), hide (alloc3 W _ _ _).1⟩
    · exact ⟨_, _, _, rfl, hide (Sd.start (alloc3 W _ _ _).2.2.1 (alloc3 W _ _ _).2.1 (alloc3 W _ _ _).2.2.2 (by omega)), hide (alloc3 W _ _ _).1⟩
    · exact ⟨_, _, _, rfl, hide (Sd.start (alloc3 W _ _ _).2.2.2 (alloc3 W _ _ _).2.2.1 (alloc3 W _ _ _).2.1 (by omega)), hide (alloc3 W _ _ _).1⟩
    · exact ⟨_, _, _, rfl, hide (Sd.start (alloc3 W _ _ _).2.2.1 (alloc3 W _ _ _).2.2.2 (alloc3 W _ _ _).2.1 (by omega)), hide (alloc3 W _ _ _).1⟩
    · exact ⟨_, _, _, rfl, hide (Sd.start (alloc3 W _ _ _).2.1 (alloc3 W _ _ _).2.2.1 (alloc3 W _ _ _).2.2.2 (by omega)), hide (alloc3 W _ _ _).1⟩
    · exact ⟨_, _, _, rfl, hide (Sd.start (alloc3 W _ _ _).2.1 (alloc3 W _ _ _).2.2.2 (alloc3 W _ _ _).2.2.1 (by omega)), hide (alloc3 W _ _ _).1⟩
  case rest =>
    obtain ⟨sb, sr, rr, rfl, HSD, HB2⟩ := hcut
    clear hm1 hm2 q1 r1 c0 c1 c2 c3
    have HX2 := hide ((HB2.out.block _ (by omega)).trans HX1.out)
    have HR2 := hide (HR1.out.keep (HB2.out.block _ HR1.out.lt))
    have HL2 := hide (TR.go HB2.out HL1.out)
    have HF2 := hide (Ints.go HB2.out HF1.out)
    have HBw := hide (HB1.out.trans (HB2.out.mono HB1.out.size))
    have HWW := hide HB2.out.size
    clear HX1 HR1 HL1 HF1 HB1 HB2
    obtain ⟨-, c0, c1, c2, c3⟩ := Bt.of HX2.out
    rw [HN0.out] at c0
    have CW := hide (worklist_any (w := wc) hn4)
    go_upto_region 3 with (go_at_call 24; refine CW.out.mono ?_; rintro _ w3 ⟨cr, cb, qb, rfl, hcr, hcb, hqb, hlo3, hw3⟩; have HCR := hide hcr; have HCB := hide hcb; have HQB := hide hqb; have HLO3 := hide hlo3; have HW3 := hide hw3; clear hcr hcb hqb hlo3 hw3)
    clear c0 c1 c2 c3 CW
    go_upto_region 4 with fail
    obtain ⟨hbb, hpb, hyb⟩ := two_boxes w3 (.cells #[.func (.func 41) #[] #[ptr cb, ptr qb]] 54) (.cells #[.func (.func 25) #[] #[.pointer (some ⟨w3.heap.size, 0, none⟩), ptr sb]] 59)
    have HPB : Hid (Fx w3.heap.size 54 [.func (.func 41) #[] #[ptr cb, ptr qb]] _) := hide hpb
    have HYB : Hid (Fx (w3.heap.size + 1) 59 [.func (.func 25) #[] #[ptr w3.heap.size, ptr sb]] _) := hide hyb
    have HBB := hide hbb
    clear hbb hpb hyb
    generalize (w3.alloc (.cells #[.func (.func 41) #[] #[ptr cb, ptr qb]] 54)).alloc (.cells #[.func (.func 25) #[] #[.pointer (some ⟨w3.heap.size, 0, none⟩), ptr sb]] 59) = wy at *
    have HB3 : Hid (Below wc.heap.size wc wy) := hide (HW3.out.trans (HBB.out.mono HW3.out.size))
    have h3y := HBB.out.size
    have hcy := HB3.out.size
    have HX3 := hide ((HB3.out.block _ (loc_lt HX2.out)).trans HX2.out)
    have HR3 := hide (HR2.out.keep (HB3.out.block _ HR2.out.lt))
    have HL3 := hide (TR.go HB3.out HL2.out)
    have HF3 := hide (Ints.go HB3.out HF2.out)
    have HBw3 := hide (HBw.out.trans (HB3.out.mono HBw.out.size))
    have HS1 := hide (HSD.out.bx.keep (HB3.out.block _ HSD.out.bx.lt))
    have HS2 := hide (HSD.out.ss.keep (HB3.out.block _ HSD.out.ss.lt))
    have HS3 := hide (HSD.out.rs.keep (HB3.out.block _ HSD.out.rs.lt))
    have HCR3 := hide (HCR.out.keep (HBB.out.block _ HCR.out.lt))
    have HCB3 := hide (HCB.out.keep (HBB.out.block _ HCB.out.lt))
    have HQB3 := hide (HQB.out.keep (HBB.out.block _ HQB.out.lt))
    have HLOS := hide HSD.out.lo
    clear HX2 HR2 HL2 HF2 HBw HCR HCB HQB HW3 HBB HB3 HSD
    obtain ⟨pb, hpb⟩ : ∃ k, w3.heap.size = k := ⟨_, rfl⟩
    rw [hpb] at HPB HYB ⊢
    clear hpb
    obtain ⟨-, c0, c1, c2, c3⟩ := Bt.of HX3.out
    have CN := hide (newCounters_any (F := F) HL3.out HW.out HN0.out hn4 hrl HBL.out)
    go_upto_region 5 with (go_at_call 26; refine CN.out.mono ?_; rintro _ w4 ⟨kb, mr, fr, oo, ub, ms, op, H, vs, rfl, hnc, hcnt, husr, hw4⟩; have HNC := hide hnc; have HCNT := hide hcnt; have HUSR := hide husr; have HW4 := hide hw4; clear hnc hcnt husr hw4)
    clear c0 c1 c2 c3 CN
    have hne := fun {g t : Nat} {xs : List Value} (hg : Fx g t xs wy) (ht : 59 ≠ t) => fx_ne HYB.out hg ht
    have hck0 := Ck.start (K := fun k => k < w.heap.size + 2 ∨ k = pb + 1) (a := ⟨cb, cr, qb, sb, sr, rr, pb, kb, mr, fr, oo, ub⟩) HW4.out HNC.out HCB3.out HCR3.out HQB3.out HS1.out HS2.out HS3.out HPB.out (by
      rintro k (hk | rfl)
      · have h1 := HLOS.out
        have h2 := HLO3.out
        have h3 := HWW.out
        simp only
        omega
      · exact ⟨HYB.out.lt, hne HCR3.out (by decide), hne HQB3.out (by decide), hne HS2.out (by decide), hne HS3.out (by decide)⟩)
    have hck1 := hck0.more (.cells #[ptr kb] 60)
    have hB5 := below_new w4 (.cells #[ptr kb] 60)
    have HZ5 : Hid (Fx w4.heap.size 60 [ptr kb] _) := hide (heap_alloc_new w4 (.cells #[ptr kb] 60))
    have HCK := hide hck1
    have HB5 : Hid (Below wy.heap.size wy (w4.alloc (.cells #[ptr kb] 60))) := hide (HW4.out.trans (hB5.mono HW4.out.size))
    clear hck0 hck1 hB5 hne HCB3 HCR3 HQB3 HS1 HS2 HS3 HPB HNC HW4 HL3 HF3
    generalize w4.alloc (.cells #[ptr kb] 60) = w5 at *
    obtain ⟨zb, hzb⟩ : ∃ k, w4.heap.size = k := ⟨_, rfl⟩
    rw [hzb] at HZ5 HCK ⊢
    clear hzb
    have HX5 := hide ((HB5.out.block _ (loc_lt HX3.out)).trans HX3.out)
    have HR5 := hide (HR3.out.keep (HB5.out.block _ HR3.out.lt))
    have HY5 := hide (HYB.out.keep (HB5.out.block _ HYB.out.lt))
    have HBw5 := hide (HBw3.out.trans (HB5.out.mono HBw3.out.size))
    clear HX3 HR3 HYB HBw3 HB5
    obtain ⟨-, c0, c1, c2, c3⟩ := Bt.of HX5.out
    have y0 := HY5.out.get (i := 0) rfl
    have z0 := HZ5.out.get (i := 0) rfl
    have CBG := hide (begin_any (K := fun k => (k < w.heap.size + 2 ∨ k = pb + 1) ∨ k = zb) (a := ⟨cb, cr, qb, sb, sr, rr, pb, kb, mr, fr, oo, ub⟩) (HL0.out.keep HBw5.out.block) (HF0.out.keep HBw5.out.block) (fun k hk => .inl (.inl (by omega))) HBw5.out.size HW.out hn4 HCNT.out ⟨_, HCK.out⟩)
    go_upto_region 6 with (go_at_call 27; refine CBG.out.mono ?_; rintro _ w6 ⟨rfl, s, hck6, hbt6, hfr6, hsu6⟩; have HCK6 := hide hck6; have HBT6 := hide hbt6; have HFR6 := hide hfr6; have HSU6 := hide hsu6; clear hck6 hbt6 hfr6 hsu6)
    clear c0 c1 c2 c3 y0 z0 CBG HCK
    go_wp2_with fail
    refine (wpIn_wide (n := 3)).1 ?_
    have hkl : ∀ k, ((k < w.heap.size + 2 ∨ k = pb + 1) ∨ k = zb) → k < w6.heap.size := by
      obtain ⟨qv, hc⟩ := HCK6.out
      exact fun k hk => (hc.kp k hk).1
    have HI0 : Hid (Lp (fun k => (k < w.heap.size + 2 ∨ k = pb + 1) ∨ k = zb) T F ⟨cb, cr, qb, sb, sr, rr, pb, kb, mr, fr, oo, ub⟩ n H vs w6 s s w6) := hide ⟨HCK6.out, HBT6.out, by rw [HSU6.out]; exact Nat.le_refl _, Fr.refl _ _, hkl⟩
    refine range_any (qb := qb) (p := 38) 3 (by omega) rfl (enters_of Try.func42 (by kernel_rfl) rfl) (toDo qb cr) (fun s => s.qu.length + lackN s.cm)
      (fun s W => Lp (fun k => (k < w.heap.size + 2 ∨ k = pb + 1) ∨ k = zb) T F ⟨cb, cr, qb, sb, sr, rr, pb, kb, mr, fr, oo, ub⟩ n H vs w6 s s W)
      (fun s x q W => Lp (fun k => (k < w.heap.size + 2 ∨ k = pb + 1) ∨ k = zb) T F ⟨cb, cr, qb, sb, sr, rr, pb, kb, mr, fr, oo, ub⟩ n H vs w6 s { s with qu := q } W)
      (fun s W o h => h.alloc o) (fun s W l o o' h h1 h2 h3 => h.put o' h1 h2 h3) (fun s x q W l o o' h h1 h2 h3 => h.put o' h1 h2 h3)
      (fun s W h => by obtain ⟨qv, hc⟩ := h.ck; exact hc.toDo) (fun s W h => by obtain ⟨qv, hc⟩ := h.ck; exact ⟨qv, hc.qbx.get (i := 0) rfl, hc.qbx.frz 0, hc.qrw, by have := h.su; omega⟩)
      (fun s W x q g off c off2 c2 h h1 h2 h3 => by
        obtain ⟨qv, hc⟩ := h.ck
        have he : qv = .slice (some ⟨g, off, none⟩) (q.length + 1) c := by
          have := hc.qbx.get (i := 0) rfl
          rw [h2] at this
          exact (Option.some.inj this).symm
        have := hc.pop2 he h3
        exact ⟨⟨_, this.1⟩, h.bt, h.su, h.fr.trans this.2, h.kl⟩)
      HI0.out ?a1 ?assign ?body ?done
    case assign =>
      intro l x W K hK
      gi_wp2
      exact hK
    case body =>
      intro l s x q W hlp hsq
      have HLP := hide hlp
      have hmid := hlp.bt.pop hsq
      have hx0 : 0 ≤ x ∧ x < (n : Int) := by obtain ⟨D, -, -, -, h, -⟩ := hmid; exact h
      obtain ⟨xm, rfl⟩ := Int.eq_ofNat_of_zero_le hx0.1
      have hxn : xm < n := by omega
      have HSQ := hide hsq
      obtain ⟨qv, hck⟩ := hlp.ck
      have hlen : s.sg.length = n ∧ s.rd.length = n := by obtain ⟨D, ha, -⟩ := hmid; exact ⟨ha.st.lsg, ha.st.lrd⟩
      have s0 := hck.sbx.get (i := 0) rfl
      have s1 := hck.sbx.get (i := 1) rfl
      have e0 := hck.srw.get (int_at (l := s.sg) (k := xm) (by omega))
      have e1 := hck.rrw.get (int_at (l := s.rd) (k := xm) (by omega))
      have hrd : 0 ≤ s.rd.getD xm 0 ∧ s.rd.getD xm 0 ≤ n := by obtain ⟨D, ha, -⟩ := hmid; exact ⟨(ha.st.rs xm hxn).2.1, ha.st.rd_le hxn⟩
      have hzW : W.cell? ⟨zb, 0, none⟩ = some (ptr kb) := by
        have h1 := hlp.fr.block zb (hlp.kl zb (.inr rfl)) (fun h => h (.inr rfl))
        have h2 := HFR6.out.block zb HZ5.out.lt (fun h => h (.inr rfl))
        exact ((HZ5.out.keep h2).keep h1).get (i := 0) rfl
      have k3 := hck.kbx.get (i := 3) rfl
      obtain ⟨us, ma, mc, hm1, hvm, cm, om⟩ := hck.us.at hxn
      have HUS : Hid (us = usr T T.rules.length (xm : Int)) := hide (by
        have := HUSR.out.at_ xm hxn
        rw [List.getD_eq_getElem?_getD, hm1] at this
        simpa using this)
      have HMID : Hid (Mid T F n (xm : Int) (s.sg.getD xm 0) (s.rd.getD xm 0 + 1) 0 { s with qu := q }) := hide (by rw [gi_nat, gi_nat] at hmid; exact hmid)
      have HCK0 := hide hck.others
      have HVM := hide hvm
      have HM1 := hide hm1
      have HSU : Hid (lackN s.cm + q.length + 1 ≤ n) := hide (by have := hlp.su; rw [hsq] at this; simp at this; omega)
      have HKP : Hid (∀ k, k < w.heap.size + 2 ∨ k = pb + 1 ∨ k = zb → k < w5.heap.size → k < w6.heap.size ∧ W.heap[k]? = w5.heap[k]?) := hide fun k hk hk5 => by
        have hK : (k < w.heap.size + 2 ∨ k = pb + 1) ∨ k = zb := by omega
        have h1 := hlp.kl k hK
        exact ⟨h1, (hlp.fr.block k h1 (fun h => h hK)).trans (HFR6.out.block k hk5 (fun h => h hK))⟩
      clear hlp hsq hmid hck hx0 hlen om hvm hm1
      generalize s.sg.getD xm 0 = i at *
      generalize s.rd.getD xm 0 = m at *
      simp only [Nat.reduceSub]
      have hfol : Try.prog.follows .mixedOrders = true := by kernel_rfl
      gi_wp2
      refine region_quiet_round (by assumption) (by kernel_rfl) (by kernel_rfl) ?_
      repeat (gi_big_quiet_step (fail))
      refine wpQuietIn_nil ?_
      intro _ hw'
      obtain ⟨nq, hw''⟩ := hw'
      subst hw''
      have HBq := below_drewN W nq
      have HCK := hide (HCK0.out.go HBq)
      have HFRW : Hid (Fr (fun k => ¬ (((k < w.heap.size + 2 ∨ k = pb + 1) ∨ k = zb) ∨ ∃ o : Obj, W.heap[k]? = some o ∧ ∀ cs t fr, o ≠ .cells cs t fr)) W (W.drewN nq)) := hide (Fr.of_below HBq)
      have hzW' : (W.drewN nq).cell? ⟨zb, 0, none⟩ = some (ptr kb) := hzW
      have k3' : (W.drewN nq).cell? ⟨kb, 3, none⟩ = some (.slice (some ⟨ub, 0, none⟩) n n) := k3
      have cm' : (W.drewN nq).cell? ⟨ub, xm, none⟩ = some (.slice ma us.length mc) := cm
      clear HBq hzW k3 cm s0 s1 e0 e1 HCK0
      generalize W.drewN nq = W2 at *
      have husl : us.length ≤ 4096 := by rw [HUS.out]; exact Nat.le_trans usr_len hrl
      gi_wp2
      clear hzW' k3' cm'
      gi_loopw [58] (fun x wr => ∃ (j : Nat) (s' : Cs), j ≤ us.length ∧ x = .int .i64 j ∧ Hid (Mid T F n (xm : Int) i (m + 1) j s') ∧ Hid (∃ qv, Ck (fun k => ((k < w.heap.size + 2 ∨ k = pb + 1) ∨ k = zb) ∨ ∃ o : Obj, W.heap[k]? = some o ∧ ∀ cs t fr, o ≠ .cells cs t fr) ⟨cb, cr, qb, sb, sr, rr, pb, kb, mr, fr, oo, ub⟩ n T.rules.length s' H vs qv wr) ∧ Hid (Fr (fun k => ¬ (((k < w.heap.size + 2 ∨ k = pb + 1) ∨ k = zb) ∨ ∃ o : Obj, W.heap[k]? = some o ∧ ∀ cs t fr, o ≠ .cells cs t fr)) W wr) ∧ Hid (lackN s'.cm + s'.qu.length = lackN s.cm + q.length)) (fun x _ => us.length - (intOf x).toNat)
      case atStart => exact ⟨0, _, by omega, rfl, HMID, hide ⟨_, HCK.out⟩, HFRW, hide rfl⟩
      case round =>
        clear HMID HCK HFRW
        obtain ⟨j, s', hj, rfl, HMI, HCK, HFW, HSM⟩ := hrel
        by_cases hlt : j < us.length
        · obtain ⟨r0, hr0⟩ := get_at hlt
          have HLT := hide hlt
          obtain ⟨c, R, rfl, hr, hk1, hxb⟩ := usr_at (by rw [← HUS.out]; exact hr0)
          obtain ⟨qv, hck⟩ := HCK.out
          obtain ⟨g, gc, ge, cx, -, -⟩ := owns_at (owns_down (hck.us.own xm us _ HM1.out HVM.out) (Nat.zero_le _)) (i := j) (x := .int .i64 (c : Int)) (by unfold ints; rw [List.getElem?_map, hr0]; rfl)
          cases ge
          have hmem := List.mem_of_getElem? hr
          have hcR : c < T.rules.length := (List.getElem?_eq_some_iff.1 hr).1
          have hh := HW.out.head R hmem
          obtain ⟨hm, hhm⟩ := Int.eq_ofNat_of_zero_le hh.1
          have hmn : hm < n := by omega
          have hW5 := HBw5.out.size
          have hKW : ∀ k, k < w.heap.size + 2 ∨ k = pb + 1 ∨ k = zb → k < w5.heap.size → wr.heap[k]? = w5.heap[k]? := fun k hk hk5 => by
            have h1 := (HKP.out k hk hk5).2
            exact (HFW.out.block k (by rw [Array.getElem?_eq_getElem hk5] at h1; exact loc_lt h1) (fun h => h (.inl (by omega)))).trans h1
          have HRU := Rules.keep (fun g hg => (hKW g (.inl (by omega)) (by omega)).trans (HBw5.out.block g hg)) HL0.out.rules
          obtain ⟨gr, go, bd, bp, rfl, hgr, -, x1, -, -, -, -⟩ := at_R HRU hr
          obtain ⟨-, -, -, t2, -⟩ := Bt.of ((hKW w.heap.size (.inl (by omega)) (loc_lt HX5.out)).trans HX5.out)
          have z1 := (HZ5.out.keep (hKW zb (.inr (.inr rfl)) HZ5.out.lt)).get (i := 0) rfl
          have hY5 := HY5.out.keep (hKW (pb + 1) (.inr (.inl rfl)) HY5.out.lt)
          obtain ⟨D, hal, -, hcx, -, -, -, hi12, -⟩ := HMI.out
          have hst := hal.st
          have hml := hst.ms_le hr hk1
          have hol := hst.op_le hmn
          have hbl16 := HBL.out R hmem
          rw [hhm] at x1
          obtain ⟨b, hb⟩ : ∃ b, folM s' i c (hm : Int) = b := ⟨_, rfl⟩
          have CF := hide (follows_any (b := b) HCK.out hi12 hcR hst.lms ⟨hml.1, by omega⟩ hst.lrf (h := (hm : Int)) (by omega) hst.lop (by rw [gi_nat]; omega) hb)
          have HNX : Hid (Mid T F n (xm : Int) i (m + 1) (j + 1) (tellM s' i (m + 1) c (hm : Int))) := hide (by
            have := HMI.out.next HW.out (by rw [← HUS.out]; exact hr0) hr
            rw [hhm] at this
            exact this)
          have HSM2 : Hid (lackN (tellM s' i (m + 1) c (hm : Int)).cm + (tellM s' i (m + 1) c (hm : Int)).qu.length = lackN s.cm + q.length) := hide (by rw [tell_sum (by rw [hst.lcm]; omega)]; exact HSM.out)
          have HLS : Hid (s'.cm.length = n ∧ s'.sg.length = n ∧ s'.rd.length = n ∧ s'.qu.length ≤ 4096) := hide ⟨hst.lcm, hst.lsg, hst.lrd, by have := HSM.out; have := HSU.out; omega⟩
          have HYB := hide hY5
          have HPBK : Hid (pb + 1 < wr.heap.size) := hide hY5.lt
          clear hr0 hr hck hmem hh hhm hKW HRU hY5 hal hst hml hol hbl16 hcx hxb hk1 hi12 HCK HMI HSM hW5
          cases b with
          | true =>
            have HT : Hid (tellM s' i (m + 1) c (hm : Int) = sayM (stepM s' i c (hm : Int)) (hm : Int) i (m + 1)) := hide (by unfold tellM; rw [hb, if_pos rfl])
            clear hb
            gi_wp2_with (first | (refine ⟨trivial, ?_⟩; gi_at_call 28; refine (CallsIn.inRound l (callsIn_wide.2 CF.out)).mono ?_; rintro _ w8 ⟨rfl, hco, hf⟩; have HC8 := hide hco; have HF8 := hide hf; have y8 := (HYB.out.keep (hf.block _ HPBK.out (fun h => h (.inl (.inl (.inr rfl)))))).get (i := 0) rfl; have CS := hide (say_any (l := (hm : Int)) (i := i) (m := m + 1) hco (by omega) (by rw [step_same.2.2.1]; exact HLS.out.1) (by rw [step_same.1]; exact HLS.out.2.1) (by rw [step_same.2.1]; exact HLS.out.2.2.1) (by rw [step_same.2.2.2]; exact HLS.out.2.2.2)); clear hco hf) | (refine ⟨trivial, ?_⟩; gi_at_call 25; refine (CallsIn.inRound l (callsIn_wide.2 CS.out)).mono ?_; rintro _ w9 ⟨rfl, hco, hf⟩; have HC9 := hide hco; have HF9 := hide hf; clear hco hf))
            go_roundw
            case rel => exact ⟨j + 1, _, by have := HLT.out; omega, by go_num, HNX, hide (by rw [HT.out]; exact HC9.out), hide (HFW.out.trans (HF8.out.trans HF9.out)), HSM2⟩
            case measure => have := HLT.out; simp [intOf]; omega
          | false =>
            have HT : Hid (tellM s' i (m + 1) c (hm : Int) = stepM s' i c (hm : Int)) := hide (by unfold tellM; rw [hb, if_neg (by decide)])
            clear hb
            gi_wp2_with (refine ⟨trivial, ?_⟩; gi_at_call 28; refine (CallsIn.inRound l (callsIn_wide.2 CF.out)).mono ?_; rintro _ w8 ⟨rfl, hco, hf⟩; have HC8 := hide hco; have HF8 := hide hf; clear hco hf)
            go_roundw
            case rel => exact ⟨j + 1, _, by have := HLT.out; omega, by go_num, HNX, hide (by rw [HT.out]; exact HC8.out), hide (HFW.out.trans HF8.out), HSM2⟩
            case measure => have := HLT.out; simp [intOf]; omega
        · have hjl : us.length ≤ j := by omega
          have HBT : Hid (Betw T F n s') := hide (HMI.out.done (by rw [← HUS.out]; exact hjl))
          clear hjl
          gi_wp2
          obtain ⟨qv, hck⟩ := HCK.out
          have hsq := HSQ.out
          refine ⟨⟨HFW.out.size, fun k o _ hk ho => (HFW.out.block k (loc_lt hk) (fun h => h (.inr ⟨o, hk, fun cs t fr e => by rw [e] at ho; cases ho⟩))).trans hk⟩, s', ⟨⟨qv, hck.less fun k hk => .inl hk⟩, HBT.out, by have := HSM.out; have := HSU.out; omega, HLP.out.fr.trans (HFW.out.mono fun k _ hz hk => hz (.inl hk)), HLP.out.kl⟩, ?_⟩
          have := HSM.out
          simp only [hsq, List.length_cons]
          omega
    case done =>
      intro D s2 W hD hq2 hlp hdef
      have HFIN := hide (hlp.bt.fin HW.out hq2)
      obtain ⟨qv, hck⟩ := hlp.ck
      have b0 := hck.sbx.get (i := 0) rfl
      have b1 := hck.sbx.get (i := 1) rfl
      have hKW : ∀ k, k < w.heap.size + 2 → k < w5.heap.size → W.heap[k]? = w5.heap[k]? := fun k hk hk5 => (hlp.fr.block k (hlp.kl k (.inl (.inl hk))) (fun h => h (.inl (.inl hk)))).trans (HFR6.out.block k hk5 (fun h => h (.inl (.inl hk))))
      have HRW := HR5.out.keep (hKW _ (by omega) HR5.out.lt)
      have r0 := HRW.get (i := 0) rfl
      have r1 := HRW.get (i := 1) rfl
      have rf := HRW.frz 0
      have rf1 := HRW.frz 1
      have HRWW := hide HRW
      clear HRW hKW
      have HCKW := hide hck
      have HLPW := hide hlp
      have HD := hide hD
      have HDEF := hide hdef
      clear hck hlp hD hdef hq2
      go_wp2_with fail
      have hD2 : ((W.setCell ⟨w.heap.size + 1, 0, none⟩ (.slice (some ⟨sr, 0, none⟩) n n)).setCell ⟨w.heap.size + 1, 1, none⟩ (.slice (some ⟨rr, 0, none⟩) n n)).heap[D]? = some (.deferred (some [])) := (KeepsOthers.setCell _ _ _).same _ _ ((KeepsOthers.setCell _ _ _).same _ _ HDEF.out rfl) rfl
      have g1 := HRWW.out.set 0 (.slice (some ⟨sr, 0, none⟩) n n)
      have g2 := g1.set 1 (.slice (some ⟨rr, 0, none⟩) n n)
      have hDn : ∀ {g t : Nat} {xs : List Value}, Fx g t xs ((W.setCell ⟨w.heap.size + 1, 0, none⟩ (.slice (some ⟨sr, 0, none⟩) n n)).setCell ⟨w.heap.size + 1, 1, none⟩ (.slice (some ⟨rr, 0, none⟩) n n)) → g ≠ D := by
        intro g t xs hf e
        subst e
        unfold Fx at hf
        rw [hD2] at hf
        cases hf
      have g3 : Fx sr 44 (ints s2.sg) ((W.setCell ⟨w.heap.size + 1, 0, none⟩ (.slice (some ⟨sr, 0, none⟩) n n)).setCell ⟨w.heap.size + 1, 1, none⟩ (.slice (some ⟨rr, 0, none⟩) n n)) := by
        have hne := fx_ne HCKW.out.srw HRWW.out (by decide)
        exact (HCKW.out.srw.keep (other_set hne)).keep (other_set hne)
      have g4 : Fx rr 3 (ints s2.rd) ((W.setCell ⟨w.heap.size + 1, 0, none⟩ (.slice (some ⟨sr, 0, none⟩) n n)).setCell ⟨w.heap.size + 1, 1, none⟩ (.slice (some ⟨rr, 0, none⟩) n n)) := by
        have hne := fx_ne HCKW.out.rrw HRWW.out (by decide)
        exact (HCKW.out.rrw.keep (other_set hne)).keep (other_set hne)
      have hb : Below w.heap.size w ((W.setCell ⟨w.heap.size + 1, 0, none⟩ (.slice (some ⟨sr, 0, none⟩) n n)).setCell ⟨w.heap.size + 1, 1, none⟩ (.slice (some ⟨rr, 0, none⟩) n n)) := by
        have h1 := HBw5.out
        have h2 : Below w.heap.size w5 w6 := HFR6.out.below fun k hk => ⟨by have := h1.size; omega, fun h => h (.inl (.inl (by omega)))⟩
        have h3 : Below w.heap.size w6 W := HLPW.out.fr.below fun k hk => ⟨by have := h1.size; have := h2.size; omega, fun h => h (.inl (.inl (by omega)))⟩
        exact (((h1.trans h2).trans h3).setCell (p := ⟨w.heap.size + 1, 0, none⟩) (by show w.heap.size ≤ w.heap.size + 1; omega) _).setCell (p := ⟨w.heap.size + 1, 1, none⟩) (by show w.heap.size ≤ w.heap.size + 1; omega) _
      have hlo := HLOS.out
      refine ⟨by simp, .inl ⟨_, _, rfl, run_takeDeferred hD2, ?_⟩⟩
      clear r0 r1 rf rf1 b0 b1
      generalize (W.setCell ⟨w.heap.size + 1, 0, none⟩ (.slice (some ⟨sr, 0, none⟩) n n)).setCell ⟨w.heap.size + 1, 1, none⟩ (.slice (some ⟨rr, 0, none⟩) n n) = X at *
      have f1 := (g2.keep (World.putObj_heap_other (o := .deferred none) (hDn g2))).get (i := 0) rfl
      have f2 := (g2.keep (World.putObj_heap_other (o := .deferred none) (hDn g2))).get (i := 1) rfl
      have f3 := g3.keep (World.putObj_heap_other (o := .deferred none) (hDn g3))
      have f4 := g4.keep (World.putObj_heap_other (o := .deferred none) (hDn g4))
      have hsw := HBw5.out.size
      have h6 : w.heap.size ≤ D := by
        have h1 := HD.out
        have h2 := HLPW.out.kl w.heap.size (.inl (.inl (by omega)))
        omega
      have f5 : Below w.heap.size w (X.putObj D (.deferred none)) := hb.trans (belowK_b (w := w) (Nat.le_refl _) X D _ _ h6 hD2 rfl rfl)
      clear g1 g2 g3 g4 hb hD2 hDn
      generalize X.putObj D (.deferred none) = Y at *
      refine ⟨.agg #[.slice (some ⟨sr, 0, none⟩) n n, .slice (some ⟨rr, 0, none⟩) n n], ?_, s2.sg, s2.rd, sr, rr, rfl, HFIN.out, f3, f4, by omega, by omega, f5⟩
      simp [results, go_sem, f1, f2]
end Go.Proofs.Ytdholifacnnjcaa
