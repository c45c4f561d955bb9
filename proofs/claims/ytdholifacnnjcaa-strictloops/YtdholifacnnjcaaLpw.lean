/- loopFrom, Loop. -/
import Derived.Test.YtdholifacnnjcaaLpm
namespace Go.Proofs.Ytdholifacnnjcaa
open Go.RowKit

/-- What loopFrom keeps. -/
structure Ly (S sr n Tb Rb N ub se : Nat) (rv : Value) (sg : List Int) (T : Th) (fa : Option Addr) (fc : Nat) (ra : Option Addr) (rc : Nat) (ba : Option Addr) (bc : Nat) (H : List (List Int)) (vs : List Value) (L : List Int) (v : Value) (seen : List Bool) (w : World) : Prop where
  sn : Sn S sr n Tb Rb N rv sg T fa fc ra rc ba bc w
  hv : Hv ub n H vs w
  sx : Fx se 4 (bools seen) w
  ro : w.ownsRow N 3 1 v L.length (ints L)
  ap : ∀ (i : Nat) u g, vs[i]? = some u → u.ownBlock = some g → v.ownBlock ≠ some g
  lo : N ≤ se
section
variable {S sr n Tb Rb N ub se : Nat} {rv : Value} {sg : List Int} {T : Th} {fa ra ba : Option Addr} {fc rc bc : Nat} {H : List (List Int)} {vs : List Value} {L : List Int} {v : Value} {seen : List Bool} {w w' : World}
theorem bt_ne {g t : Nat} {xs : List Value} {cs : Array Value} (ht : w.heap[Tb]? = some (.cells cs 25 (0, 0))) (hf : Fx g t xs w) (hne : 25 ≠ t) : Tb ≠ g := by
  intro e
  subst e
  unfold Fx at hf
  rw [ht] at hf
  cases hf
  exact hne rfl
theorem Ly.mark (h : Ly S sr n Tb Rb N ub se rv sg T fa fc ra rc ba bc H vs L v seen w) (i : Nat) : Ly S sr n Tb Rb N ub se rv sg T fa fc ra rc ba bc H vs L v (seen.set i true) (w.setCell ⟨se, i, none⟩ (.bool true)) := by
  refine ⟨⟨h.sn.sb.keep (other_set (fx_ne h.sn.sb.bx h.sx (by decide))) (other_set (fx_ne h.sn.sb.rw h.sx (by decide))), (other_set (bt_ne h.sn.tb h.sx (by decide))).trans h.sn.tb, h.sn.rb.keep (other_set (fx_ne h.sn.rb h.sx (by decide))), Rules.keep (fun g hg => other_set (by have := h.lo; omega)) h.sn.ru, h.sn.bi⟩, h.hv.rep (other_set (fx_ne h.hv.fx h.sx (by decide))) (fun i u g hu hg => other_set fun e => by obtain ⟨_, ho⟩ := h.hv.own_at hu; exact own_fx ho h.sx (by decide) (e ▸ hg)), by rw [← bools_set]; exact h.sx.set i _, owns_keep h.ro fun g hg => other_set fun e => own_fx h.ro h.sx (by decide) (e ▸ hg), h.ap, h.lo⟩
theorem Ly.go (h : Ly S sr n Tb Rb N ub se rv sg T fa fc ra rc ba bc H vs L v seen w) (hb : Below w.heap.size w w') (hN : N ≤ w.heap.size) : Ly S sr n Tb Rb N ub se rv sg T fa fc ra rc ba bc H vs L v seen w' :=
  ⟨⟨h.sn.sb.keep (hb.block _ h.sn.sb.bx.lt) (hb.block _ h.sn.sb.rw.lt), (hb.block _ (loc_lt h.sn.tb)).trans h.sn.tb, h.sn.rb.keep (hb.block _ h.sn.rb.lt), Rules.keep (fun g hg => hb.block g (by omega)) h.sn.ru, h.sn.bi⟩, h.hv.go hb, h.sx.keep (hb.block _ h.sx.lt), owns_keep h.ro fun g hg => hb.block g (owns_lt h.ro hg), h.ap, h.lo⟩
theorem Ly.more (h : Ly S sr n Tb Rb N ub se rv sg T fa fc ra rc ba bc H vs L v seen w) {x : Int} {g4 cap4 : Nat} {ob : Obj} (hN : N ≤ w.heap.size) (hown : w'.ownsRow N 3 1 (.slice (some ⟨g4, 0, none⟩) (L.length + 1) cap4) (L.length + 1) (ints L ++ [.int .i64 x]))
    (hg : (v.ownBlock = some g4 ∧ (w.alloc ob).grownBy w' (some g4)) ∨ (g4 = w.heap.size + 1 ∧ (w.alloc ob).grownBy w' none)) :
    Ly S sr n Tb Rb N ub se rv sg T fa fc ra rc ba bc H vs (L ++ [x]) (.slice (some ⟨g4, 0, none⟩) (L.length + 1) cap4) seen w' ∧ Below N w w' := by
  have ho : ∀ k, k < w.heap.size → v.ownBlock ≠ some k → w'.heap[k]? = w.heap[k]? := fun k hk hn => grown_old rfl hg hk hn
  have hr : ∀ k, k < N → v.ownBlock ≠ some k := fun k hk e => by have := (h.ro.lt k e).1; omega
  refine ⟨⟨⟨h.sn.sb.keep (ho _ h.sn.sb.bx.lt (own_fx h.ro h.sn.sb.bx (by decide))) (ho _ h.sn.sb.rw.lt (own_fx h.ro h.sn.sb.rw (by decide))), (ho _ (loc_lt h.sn.tb) (fun e => by
    rcases h.ro.2 with ⟨e1, _⟩ | ⟨g', cap, cur, e1, _, h3, _⟩
    · rw [e1] at e; cases e
    · rw [e1] at e; cases e; rw [h.sn.tb] at h3; cases h3)).trans h.sn.tb, h.sn.rb.keep (ho _ h.sn.rb.lt (own_fx h.ro h.sn.rb (by decide))), Rules.keep (fun g hg => ho g (by omega) (hr g hg)) h.sn.ru, h.sn.bi⟩, h.hv.rep (ho _ h.hv.fx.lt (own_fx h.ro h.hv.fx (by decide))) (fun i u g hu hgu => by obtain ⟨_, ho2⟩ := h.hv.own_at hu; exact ho g (owns_lt ho2 hgu) (h.ap i u g hu hgu)), h.sx.keep (ho _ h.sx.lt (own_fx h.ro h.sx (by decide))), ?_, fun i u g hu hgu e => ?_, h.lo⟩, ?_⟩
  · rw [List.length_append, ints_snoc]; exact hown
  · have e : g4 = g := by cases e; rfl
    subst e
    rcases hg with ⟨h1, _⟩ | ⟨h1, _⟩
    · exact h.ap i u _ hu hgu h1
    · obtain ⟨_, ho2⟩ := h.hv.own_at hu
      have := owns_lt ho2 hgu
      omega
  · exact (grown_fr (Z := fun k => N ≤ k) rfl hg fun g e => (h.ro.lt g e).1).below fun k hk => ⟨by omega, by omega⟩
end
set_option maxRecDepth 100000 in
set_option maxHeartbeats 12800000 in
theorem loopFrom_any {w : World} {T : Th} {F : List Int} {n : Nat} {fa ra ba : Option Addr} {fc rc bc sr : Nat} {sg rd : List Int} {rva : Option Addr} {rn rcp : Nat} {lit : Int} (h : TA w.heap.size w T fa fc ra rc ba bc) (hw : Nm T F n) (hn : T.lits = (n : Int)) (hn4 : n ≤ 4096) (hrl : T.rules.length ≤ 4096) (hbl : ∀ r ∈ T.rules, r.body.length ≤ 16) (hfin : Fin T F n sg rd) (hsr : Fx sr 44 (ints sg) w) (hl : 0 ≤ lit ∧ lit < (n : Int)) (h0 : gi sg lit = 0) :
    Calls Try.prog 21 #[tv T fa fc ra rc ba bc, .agg #[.slice (some ⟨sr, 0, none⟩) n n, .slice rva rn rcp], .int .i64 lit] w fun e w' => ∃ P q seen xa xc, e = .returned (.slice xa (P ++ [q]).length xc) ∧ Lq sg T n lit P q seen ∧ q ∈ P ∧ w'.ownsRow w.heap.size 3 1 (.slice xa (P ++ [q]).length xc) (P ++ [q]).length (ints (P ++ [q])) ∧ Below w.heap.size w w' := by
  obtain ⟨iI, hiI, zI0, zI1, zI2⟩ := info_parts infoI
  obtain ⟨iB, hiB, zB0, zB1, zB2⟩ := info_parts infoBo
  have hmk := fun W => run_make_fix (P := Try.prog) Try.underlying31 hiB zB0 zB1 rfl n (by rw [zB2]; omega) (by unfold maxLen; omega) W
  have HW := hide hw
  have HBL := hide hbl
  have HFN := hide hfin
  have HN0 := hide hn
  have HL0 := hide h
  obtain ⟨hb2, hx1, hx2⟩ := two_boxes w (.cells #[.int .i64 T.lits, .slice fa T.foes.length fc, .slice ra T.rules.length rc, .slice ba T.beats.length bc] 25) (.cells #[.slice (some ⟨sr, 0, none⟩) n n, .slice rva rn rcp] 48)
  have HB := hide hb2
  have HX := hide hx1
  have HSB : Hid (Sb (w.heap.size + 1) sr n (.slice rva rn rcp) sg _) := hide ⟨hx2, hsr.keep (hb2.block _ hsr.lt), hfin.ls⟩
  have HL := hide (TR.go hb2 h)
  have HLQ := hide (Lq.start (T := T) hl h0)
  have HRUw := hide h.rules
  clear h hw hbl hfin hn hb2 hx2 hsr hl h0
  go_enter Try.func21, Try.ntmps21
  go_upto_region 1 with fail
  generalize (w.alloc (.cells #[.int .i64 T.lits, .slice fa T.foes.length fc, .slice ra T.rules.length rc, .slice ba T.beats.length bc] 25)).alloc (.cells #[.slice (some ⟨sr, 0, none⟩) n n, .slice rva rn rcp] 48) = W at *
  obtain ⟨-, c0, c1, c2, c3⟩ := Bt.of hx1
  clear hx1
  have CS := hide (strictFor_any HL.out HW.out HN0.out hn4 hrl)
  go_upto_region 2 with (go_at_call 29; refine CS.out.mono ?_; rintro _ w1 ⟨ub, H, vs, rfl, hv, hst, hlo, hw1⟩; have HV := hide hv; have HST := hide hst; have HLO := hide hlo; have HW1 := hide hw1; clear hv hst hlo hw1)
  clear c0 c1 c2 c3 CS
  have hWw := HB.out.size
  have HX1 := hide ((HW1.out.block _ (loc_lt HX.out)).trans HX.out)
  have HSB1 := hide (HSB.out.keep (HW1.out.block _ HSB.out.bx.lt) (HW1.out.block _ HSB.out.rw.lt))
  have HB1 := hide (HB.out.trans (HW1.out.mono HB.out.size))
  clear HX HSB HB HL
  obtain ⟨-, c0, c1, c2, c3⟩ := Bt.of HX1.out
  rw [HN0.out] at c0
  have up : ∀ (X : World) (o : Obj) (v : Value), w.heap.size < X.heap.size → X.cell? ⟨w.heap.size, 0, none⟩ = some v → (X.alloc o).cell? ⟨w.heap.size, 0, none⟩ = some v := fun X o v hx hv => (World.cell?_of_block ((below_new X o).block _ hx)).trans hv
  have q1 := fun o => up w1 o _ (loc_lt HX1.out) c0
  clear up
  go_upto_region 7 with fail
  clear c0 c1 c2 c3 q1 hmk
  obtain ⟨hb3, e0, e1, e2⟩ := alloc3 w1 (.cells #[.func (.func 30) #[] #[ptr (w.heap.size + 1)]] 54) (.cells (Array.replicate n (.bool false)) 4) (.cells #[.int .i64 lit] 3)
  have HB3 : Hid (Below w1.heap.size w1 (((w1.alloc (.cells #[.func (.func 30) #[] #[ptr (w.heap.size + 1)]] 54)).alloc (.cells (Array.replicate n (.bool false)) 4)).alloc (.cells #[.int .i64 lit] 3))) := hide ⟨hb3.os, hb3.tape, hb3.output, hb3.size, hb3.block⟩
  have HLY : Hid (Ly (w.heap.size + 1) sr n w.heap.size w1.heap.size w.heap.size ub (w1.heap.size + 1) (.slice rva rn rcp) sg T fa fc ra rc ba bc H vs [lit] (.slice (some ⟨w1.heap.size + 1 + 1, 0, none⟩) 1 1) (List.replicate n false) (((w1.alloc (.cells #[.func (.func 30) #[] #[ptr (w.heap.size + 1)]] 54)).alloc (.cells (Array.replicate n (.bool false)) 4)).alloc (.cells #[.int .i64 lit] 3))) := hide (by
    have hb := HB3.out
    have hs1 := HB1.out.size
    refine ⟨⟨HSB1.out.keep (hb.block _ HSB1.out.bx.lt) (hb.block _ HSB1.out.rw.lt), (hb.block _ (loc_lt HX1.out)).trans HX1.out, e0, Rules.keep (fun g hg => (hb.block g (by omega)).trans (HB1.out.block g hg)) HRUw.out, HW.out.body⟩, HV.out.go hb, ?_, ⟨rfl, .inr ⟨_, 1, _, rfl, by omega, e2, Nat.le_refl _, by unfold maxLen; omega, by simp, rfl⟩⟩, fun i u g hu hgu e => ?_, by omega⟩
    · unfold Fx
      rw [← bools_rep]
      exact e1
    · obtain ⟨_, ho⟩ := HV.out.own_at hu
      have h1 := owns_lt ho hgu
      have : w1.heap.size + 1 + 1 = g := by cases e; rfl
      omega)
  have HBw := hide (HB1.out.trans (HB3.out.mono HB1.out.size))
  have hs1 := HB1.out.size
  generalize ((w1.alloc (.cells #[.func (.func 30) #[] #[ptr (w.heap.size + 1)]] 54)).alloc (.cells (Array.replicate n (.bool false)) 4)).alloc (.cells #[.int .i64 lit] 3) = w3 at *
  clear hb3 e0 e1 e2 HB3 HX1 HSB1 HV HB1
  generalize w1.heap.size + 1 + 1 = lr at *
  obtain ⟨se, hse⟩ : ∃ k, w1.heap.size + 1 = k := ⟨_, rfl⟩
  rw [hse] at HLY ⊢
  clear hse
  go_loopw [2, 12] (fun x v wr => ∃ (P : List Int) (q : Int) (seen : List Bool) (va : Option Addr) (vc : Nat), x = .int .i64 q ∧ v = .slice va (P.length + 1) vc ∧ Hid (Ly (w.heap.size + 1) sr n w.heap.size w1.heap.size w.heap.size ub se (.slice rva rn rcp) sg T fa fc ra rc ba bc H vs (P ++ [q]) (.slice va (P.length + 1) vc) seen wr) ∧ Hid (Lq sg T n lit P q seen) ∧ Hid (Below w.heap.size w wr)) (fun _ _ wr => match wr.heap[se]? with | some (.cells cs _ _) => (cs.toList.filter fun v => match v with | .bool b => !b | _ => false).length | _ => 0)
  case atStart => exact ⟨[], lit, List.replicate n false, _, _, rfl, rfl, HLY, HLQ, HBw⟩
  case round =>
    clear HLY HLQ HBw
    obtain ⟨P, q, seen, va, vc, rfl, rfl, HLY, HLQ, HBw⟩ := hrel
    have HMS : Hid (∀ (seen : List Bool) (X : World), Fx se 4 (bools seen) X → (match X.heap[se]? with | some (.cells cs _ _) => (cs.toList.filter fun v => match v with | .bool b => !b | _ => false).length | _ => 0) = lackN seen) := hide (by
      intro seen X hX
      rw [hX]
      simp only
      unfold bools lackN
      rw [List.filter_map, List.length_map]
      congr 1)
    have hq := (HLQ.out.al q (by simp)).1
    have hq0 := (HLQ.out.al q (by simp)).2
    obtain ⟨xm, rfl⟩ := Int.eq_ofNat_of_zero_le hq.1
    have hxn : xm < n := by omega
    have cse := HLY.out.sx.get (bool_at (R := seen) (k := xm) (by rw [HLQ.out.ls]; exact hxn))
    have fse := HLY.out.sx.frz xm
    cases hsn : seen.getD xm false with
    | true =>
      rw [hsn] at cse
      have HIN : Hid ((xm : Int) ∈ P) := hide ((HLQ.out.sn xm hxn).1 hsn)
      clear hsn hq hq0 fse
      generalize hPl : P.length + 1 = pl at *
      have HPl := hide hPl
      clear hPl
      go_wp2_with fail
      go_ret
      refine ⟨P, (xm : Int), seen, va, vc, ?_, HLQ.out, HIN.out, ?_, HBw.out⟩
      · rw [List.length_append, List.length_cons, List.length_nil, HPl.out]; rfl
      · have := HLY.out.ro
        rw [List.length_append, List.length_cons, List.length_nil] at this ⊢
        rw [HPl.out] at this ⊢
        exact this
    | false =>
      rw [hsn] at cse
      obtain ⟨k, r, j, R, x, hnx⟩ := HFN.out.next HW.out hq hq0
      have HLQ2 : Hid (Lq sg T n lit (P ++ [(xm : Int)]) x (seen.set xm true)) := hide (HLQ.out.next (by simpa using hsn) hnx.x0 hnx.xs hnx.nx)
      have hPn := HLQ.out.len
      have HLK : Hid (lackN (seen.set xm true) + 1 = lackN seen) := hide (lack_set (by rw [HLQ.out.ls]; exact hxn) hsn)
      have HM := hide (HLY.out.mark xm)
      have HBm := hide (HBw.out.setCell (p := ⟨se, xm, none⟩) HLY.out.lo (.bool true))
      have HSE0 := hide (HMS.out _ _ HLY.out.sx)
      have HNX := hide hnx
      clear hsn hq hq0 hnx HLY HBw
      go_upto_region 9 with fail
      generalize wr.setCell ⟨se, xm, none⟩ (.bool true) = w2 at *
      clear cse fse
      obtain ⟨m, ma, mc, hm1, hvm, cm, om⟩ := HM.out.hv.at hxn
      have HMm : m = strL T T.rules.length (xm : Int) := by
        have := HST.out.at_ xm hxn
        rw [List.getD_eq_getElem?_getD, hm1] at this
        simpa using this
      have hmem := List.mem_of_getElem? HNX.out.rr
      have hrR : r < T.rules.length := (List.getElem?_eq_some_iff.1 HNX.out.rr).1
      obtain ⟨gr, go, bd, bp, rfl, hgr, -, -, x2, -, hbl2, hbody⟩ := at_R HM.out.sn.ru HNX.out.rr
      obtain ⟨-, -, -, t2, -⟩ := Bt.of HM.out.sn.tb
      have CALL : Hid (∀ (qd : Nat) (args : Array Value) (v : Value), (args = #[.slice ma m.length mc, .func (.func 31) #[] #[ptr w.heap.size, ptr w1.heap.size]] ∧ v = .int .i64 r) ∨ (args = #[.slice bd R.body.length bp, .func (.func 33) #[] #[ptr (w.heap.size + 1)]] ∧ v = .int .i64 x) → Calls Try.prog 34 args (w2.drewN qd) fun e w'' => e = .returned v ∧ ∃ n, w'' = w2.drewN n) := hide (by
        rintro qd args v (⟨rfl, rfl⟩ | ⟨rfl, rfl⟩)
        · refine (standFirst_any (k := k) (x := (r : Int)) (HM.out.sn.drewN qd) (l := m) (show At1 (w2.drewN qd) ma (ints m) from owns_at1 om) ?_ ?_ ?_ ?_).mono ?_
          · rw [HMm]; exact Nat.le_trans strL_len (by omega)
          · rw [HMm]
            intro y hy
            obtain ⟨i, hi⟩ := List.mem_iff_getElem?.1 hy
            obtain ⟨a, R', rfl, ha, -⟩ := strL_at hi
            omega
          · rw [HMm]; exact HNX.out.ki
          · rw [HMm]; exact HNX.out.kr
          · rintro e w'' ⟨h1, q2, rfl⟩
            exact ⟨h1, _, drew_two _ _ _⟩
        · refine (misFirst_any (k := j) (HM.out.sn.drewN qd).sb (show At1 (w2.drewN qd) bd (ints R.body) from hbody.at1) hbl2 (HW.out.body R hmem) HNX.out.ji HNX.out.jx).mono ?_
          rintro e w'' ⟨h1, rfl⟩
          exact ⟨h1, _, rfl⟩)
      clear hm1 hvm om hmem hbody
      clear HMm
      go_quiet ((go_at_call 34; exact CALL.out _ _ _ (by first | exact .inl ⟨rfl, rfl⟩ | exact .inr ⟨rfl, rfl⟩)))
      have hNw : w.heap.size ≤ w2.heap.size := HBm.out.size
      have HM4 := hide (HM.out.go (below_drewN w2 nq) hNw)
      have HB4 := hide (HBm.out.trans ((below_drewN w2 nq).mono hNw))
      have hN4 : w.heap.size ≤ (w2.drewN nq).heap.size := hNw
      clear HM HBm cm x2 t2 CALL
      generalize w2.drewN nq = w4 at *
      obtain ⟨pl, hpl⟩ : ∃ k, P.length + 1 = k := ⟨_, rfl⟩
      have HPl := hide hpl
      have HPL : Hid ((P ++ [(xm : Int)]).length = pl) := hide (by rw [← hpl]; simp)
      have hpl2 : pl ≤ 4097 := by omega
      rw [hpl] at HM4 ⊢
      clear hpl hPn
      have HROW : Hid ((w4.alloc (.cells #[.int .i64 x] 3)).ownsRow w.heap.size 3 1 (.slice va pl vc) pl (ints (P ++ [(xm : Int)]))) := hide (by
        have := owns_keep HM4.out.ro fun g hg => (below_new w4 (.cells #[.int .i64 x] 3)).block g (owns_lt HM4.out.ro hg)
        rw [HPL.out] at this
        exact this)
      go_wp2_with (at_builtin; go_must (refine wpList_append_two _ rfl _ _ 26 rfl w.heap.size 3 iI _ 1 8 Try.underlying26 hiI zI0 zI1 zI2 rfl (by decide) _ _ (ints (P ++ [(xm : Int)])) rfl HROW.out ⟨w4.heap.size, 0, none⟩ 1 [.int .i64 x] rfl rfl (cell_one_new _ _ _) (by intro u hu; simp at hu; subst hu; rfl) (by unfold maxLen; omega) (by omega) (by simp; omega) ?_); intro g4 cap4 w5 hown4 hg4; have HO4 := hide hown4; have HG4 := hide hg4; clear hown4 hg4)
      have HFI := hide (HM4.out.more (w' := w5) (x := x) (g4 := g4) (cap4 := cap4) hN4 (by rw [HPL.out]; exact HO4.out) (by rcases HG4.out with h | ⟨h1, h2⟩; exact .inl h; exact .inr ⟨by simpa using h1, h2⟩))
      go_roundw
      case rel =>
        have h1 := HFI.out.1
        rw [HPL.out] at h1
        have e1 : (P ++ [(xm : Int)]).length + 1 = pl + 1 := by rw [HPL.out]
        exact ⟨P ++ [(xm : Int)], x, _, _, _, rfl, by rw [e1], hide (by rw [e1]; exact h1), HLQ2, hide (HB4.out.trans HFI.out.2)⟩
      case measure =>
        have h1 := HMS.out _ _ HFI.out.1.sx
        have h2 := HSE0.out
        have h3 := HLK.out
        simp only [h1, h2]
        omega
/-- How Loop ends. -/
def Lpd (T : Th) (F : List Int) (lit : Int) (w : World) (e : Ending) (w' : World) : Prop :=
  (faultM T F ≠ 0 ∧ e = .returned (.tuple #[.slice none 0 0, .int .i64 (faultM T F)])) ∨
  (faultM T F = 0 ∧ ¬ (0 ≤ lit ∧ lit < T.lits) ∧ e = .returned (.tuple #[.slice none 0 0, .int .i64 91])) ∨
  (faultM T F = 0 ∧ (0 ≤ lit ∧ lit < T.lits) ∧ gi (sgM T F) lit ≠ 0 ∧ e = .returned (.tuple #[.slice none 0 0, .int .i64 203])) ∨
  (faultM T F = 0 ∧ (0 ≤ lit ∧ lit < T.lits) ∧ gi (sgM T F) lit = 0 ∧ ∃ P q seen xa xc, e = .returned (.tuple #[.slice xa (P ++ [q]).length xc, .int .i64 0]) ∧ Lq (sgM T F) T T.lits.toNat lit P q seen ∧ q ∈ P ∧ w'.ownsRow w.heap.size 3 1 (.slice xa (P ++ [q]).length xc) (P ++ [q]).length (ints (P ++ [q])))
def litM (T : Th) (F : List Int) (lit : Int) : Int := if faultM T F ≠ 0 then faultM T F else if lit < 0 ∨ T.lits ≤ lit then 91 else 0
section
variable {w : World} {T : Th} {F : List Int} {fa ra ba ea : Option Addr} {fc rc bc ec : Nat} {lit : Int}
set_option maxRecDepth 100000 in
set_option maxHeartbeats 3200000 in
theorem litFault_any (h : TA w.heap.size w T fa fc ra rc ba bc) (hF : Ints w.heap.size w F (.slice ea F.length ec)) :
    Calls Try.prog 20 #[tv T fa fc ra rc ba bc, .slice ea F.length ec, .int .i64 lit] w fun e w' => e = .returned (.int .i64 (litM T F lit)) ∧ Below w.heap.size w w' := by
  have hB := below_new w (.cells #[.int .i64 T.lits, .slice fa T.foes.length fc, .slice ra T.rules.length rc, .slice ba T.beats.length bc] 25)
  have hX := heap_alloc_new w (.cells #[.int .i64 T.lits, .slice fa T.foes.length fc, .slice ra T.rules.length rc, .slice ba T.beats.length bc] 25)
  have CC := hide (fault_any (TR.go hB h) (Ints.go hB hF))
  have HB := hide hB
  have HX := hide hX
  obtain ⟨e0, he⟩ : ∃ a, faultM T F = a := ⟨_, rfl⟩
  rw [he] at CC
  have HE := hide he
  clear h hB hF he
  go_enter Try.func20, Try.ntmps20
  go_upto_region 1 with fail
  generalize w.alloc (.cells #[.int .i64 T.lits, .slice fa T.foes.length fc, .slice ra T.rules.length rc, .slice ba T.beats.length bc] 25) = W at *
  obtain ⟨-, c0, c1, c2, c3⟩ := Bt.of hX
  clear hX
  by_cases ha : e0 = 0
  · subst ha
    go_upto_region 4 with (go_at_call 18; refine CC.out.mono ?_; rintro _ w1 ⟨rfl, hw1⟩; have HB1 := hide (HB.out.trans (hw1.mono HB.out.size)); have HX1 := hide ((hw1.block _ (loc_lt HX.out)).trans HX.out); clear hw1)
    clear c0 c1 c2 c3 CC HB HX
    obtain ⟨-, c0, c1, c2, c3⟩ := Bt.of HX1.out
    generalize hTl : T.lits = tl at *
    have HTl := hide hTl
    clear hTl
    by_cases hl : lit < 0
    · have HM : Hid (litM T F lit = 91) := hide (by unfold litM; rw [HE.out, if_neg (by decide), if_pos (.inl hl)])
      go_wp2_with fail
      go_ret
      exact ⟨by rw [HM.out]; rfl, HB1.out⟩
    · by_cases hl2 : tl ≤ lit
      · have HM : Hid (litM T F lit = 91) := hide (by unfold litM; rw [HE.out, if_neg (by decide), if_pos (.inr (by rw [HTl.out]; exact hl2))])
        go_wp2_with fail
        go_ret
        exact ⟨by rw [HM.out]; rfl, HB1.out⟩
      · have HM : Hid (litM T F lit = 0) := hide (by unfold litM; rw [HE.out, if_neg (by decide), if_neg (by rw [HTl.out]; omega)])
        go_wp2_with fail
        go_ret
        exact ⟨by rw [HM.out]; rfl, HB1.out⟩
  · have hab2 : (e0 != 0) = true := by simpa using ha
    have HM : Hid (litM T F lit = e0) := hide (by unfold litM; rw [HE.out, if_pos ha])
    go_wp2_with (go_at_call 18; refine CC.out.mono ?_; rintro _ w1 ⟨rfl, hw1⟩; have HB1 := hide (HB.out.trans (hw1.mono HB.out.size)); clear hw1)
    go_ret
    exact ⟨by rw [HM.out]; rfl, HB1.out⟩
set_option maxRecDepth 100000 in
set_option maxHeartbeats 6400000 in
theorem loop_any (h : TA w.heap.size w T fa fc ra rc ba bc) (hF : Ints w.heap.size w F (.slice ea F.length ec)) :
    Calls Try.prog 13 #[tv T fa fc ra rc ba bc, .slice ea F.length ec, .int .i64 lit] w fun e w' => Lpd T F lit w e w' ∧ Below w.heap.size w w' := by
  have hB := below_new w (.cells #[.int .i64 T.lits, .slice fa T.foes.length fc, .slice ra T.rules.length rc, .slice ba T.beats.length bc] 25)
  have hX := heap_alloc_new w (.cells #[.int .i64 T.lits, .slice fa T.foes.length fc, .slice ra T.rules.length rc, .slice ba T.beats.length bc] 25)
  have HF := hide (Ints.go hB hF)
  have HL := hide (TR.go hB h)
  have CC := hide (litFault_any (lit := lit) HL.out HF.out)
  have HB := hide hB
  have HX := hide hX
  obtain ⟨e0, he⟩ : ∃ a, litM T F lit = a := ⟨_, rfl⟩
  rw [he] at CC
  have HE := hide he
  clear h hB hF he
  go_enter Try.func13, Try.ntmps13
  go_upto_region 1 with fail
  generalize w.alloc (.cells #[.int .i64 T.lits, .slice fa T.foes.length fc, .slice ra T.rules.length rc, .slice ba T.beats.length bc] 25) = W at *
  obtain ⟨-, c0, c1, c2, c3⟩ := Bt.of hX
  clear hX
  by_cases ha : e0 = 0
  · subst ha
    have hfl : faultM T F = 0 ∧ 0 ≤ lit ∧ lit < T.lits := by
      have := HE.out
      unfold litM at this
      by_cases h1 : faultM T F ≠ 0
      · rw [if_pos h1] at this; exact absurd this h1
      · rw [if_neg h1] at this
        by_cases h2 : lit < 0 ∨ T.lits ≤ lit
        · rw [if_pos h2] at this; cases this
        · exact ⟨Classical.not_not.1 h1, by omega, by omega⟩
    have HFL := hide hfl
    obtain ⟨-, hnm, hn, hn4, hrl, hbl, -⟩ := fault_ok hfl.1
    obtain ⟨n, hnn⟩ : ∃ n, T.lits.toNat = n := ⟨_, rfl⟩
    rw [hnn] at hnm hn hn4
    have HN := hide hnn
    have HN2 := hide hn
    have HNM := hide hnm
    have HBL := hide hbl
    have hln : 0 ≤ lit ∧ lit < (n : Int) := by have := hfl.2; omega
    obtain ⟨xm, hxm⟩ := Int.eq_ofNat_of_zero_le hln.1
    have hxn : xm < n := by omega
    have HXM := hide hxm
    clear hnm hn hbl hnn hfl hln
    subst hxm
    go_upto_region 4 with (go_at_call 20; refine CC.out.mono ?_; rintro _ w1 ⟨rfl, hw1⟩; have HB1 := hide (HB.out.trans (hw1.mono HB.out.size)); have HI1 := hide (Ints.go hw1 HF.out); have HL1 := hide (TR.go hw1 HL.out); have HX1 := hide ((hw1.block _ (loc_lt HX.out)).trans HX.out); clear hw1)
    clear c0 c1 c2 c3 CC HB HX HF HL
    obtain ⟨-, c0, c1, c2, c3⟩ := Bt.of HX1.out
    have CF := hide (conclude_any HL1.out HI1.out HNM.out HN2.out hn4 hrl HBL.out)
    go_upto_region 5 with (go_at_call 19; refine CF.out.mono ?_; rintro _ w2 ⟨sg, rd, sr, rr, rfl, hfin, hsr, -, -, -, hw2⟩; have HFN := hide hfin; have HSR := hide hsr; have HW2 := hide hw2; clear hfin hsr hw2)
    clear c0 c1 c2 c3 CF
    have hA := below_new w2 (.cells #[.slice (some ⟨sr, 0, none⟩) n n, .slice (some ⟨rr, 0, none⟩) n n] 48)
    have HBX : Hid (Fx w2.heap.size 48 [.slice (some ⟨sr, 0, none⟩) n n, .slice (some ⟨rr, 0, none⟩) n n] _) := hide (heap_alloc_new w2 (.cells #[.slice (some ⟨sr, 0, none⟩) n n, .slice (some ⟨rr, 0, none⟩) n n] 48))
    have HW3 : Hid (Below w1.heap.size w1 (w2.alloc (.cells #[.slice (some ⟨sr, 0, none⟩) n n, .slice (some ⟨rr, 0, none⟩) n n] 48))) := hide (HW2.out.trans (hA.mono HW2.out.size))
    have HSR3 := hide (HSR.out.keep (hA.block _ HSR.out.lt))
    clear hA HSR HW2
    generalize w2.alloc (.cells #[.slice (some ⟨sr, 0, none⟩) n n, .slice (some ⟨rr, 0, none⟩) n n] 48) = w3 at *
    have HX3 := hide ((HW3.out.block _ (loc_lt HX1.out)).trans HX1.out)
    have HL3 := hide (TR.go HW3.out HL1.out)
    have HB3 := hide (HB1.out.trans (HW3.out.mono HB1.out.size))
    have b0 := HBX.out.get (i := 0) rfl
    have b1 := HBX.out.get (i := 1) rfl
    have cs := HSR3.out.get (int_at (l := sg) (k := xm) (by rw [HFN.out.ls]; exact hxn))
    have HSG : Hid (sg = sgM T F) := hide (HFN.out.sg HN2.out)
    obtain ⟨-, c0, c1, c2, c3⟩ := Bt.of HX3.out
    by_cases hs : sg.getD xm 0 = 0
    · have CL := hide (loopFrom_any (lit := (xm : Int)) (rva := some ⟨rr, 0, none⟩) (rn := n) (rcp := n) HL3.out HNM.out HN2.out hn4 hrl HBL.out HFN.out HSR3.out (by omega) (by rw [gi_nat]; exact hs))
      have HS0 := hide hs
      rw [hs] at cs
      clear hs
      go_wp2_with (go_at_call 21; refine CL.out.mono ?_; rintro _ w4 ⟨P, q, seen, xa, xc, rfl, hlq, hin, hro, hw4⟩; have HLQ := hide hlq; have HIN := hide hin; have HRO := hide hro; have HW4 := hide hw4; clear hlq hin hro hw4)
      go_ret2
      have hlq := HLQ.out
      rw [HSG.out, ← HN.out] at hlq
      refine ⟨.inr (.inr (.inr ⟨HFL.out.1, HFL.out.2, ?_, P, q, seen, xa, xc, by rw [List.length_append]; rfl, hlq, HIN.out, owns_down HRO.out HB3.out.size⟩)), HB3.out.trans (HW4.out.mono HB3.out.size)⟩
      rw [gi_nat, ← HSG.out]
      exact HS0.out
    · have hs2 : (sg.getD xm 0 != 0) = true := by simpa using hs
      have HS0 := hide hs
      clear hs
      obtain ⟨sv, hsv⟩ : ∃ v, sg.getD xm 0 = v := ⟨_, rfl⟩
      rw [hsv] at cs hs2
      clear hsv
      go_wp2_with fail
      go_ret2
      refine ⟨.inr (.inr (.inl ⟨HFL.out.1, HFL.out.2, ?_, rfl⟩)), HB3.out⟩
      rw [gi_nat, ← HSG.out]
      exact HS0.out
  · have hab2 : (e0 != 0) = true := by simpa using ha
    go_wp2_with (go_at_call 20; refine CC.out.mono ?_; rintro _ w1 ⟨rfl, hw1⟩; have HB1 := hide (HB.out.trans (hw1.mono HB.out.size)); clear hw1)
    go_ret2
    refine ⟨?_, HB1.out⟩
    have hE := HE.out
    unfold litM at hE
    by_cases h1 : faultM T F ≠ 0
    · rw [if_pos h1] at hE
      exact .inl ⟨h1, by rw [hE]; rfl⟩
    · rw [if_neg h1] at hE
      by_cases h2 : lit < 0 ∨ T.lits ≤ lit
      · rw [if_pos h2] at hE
        exact .inr (.inl ⟨Classical.not_not.1 h1, by omega, by rw [hE]; rfl⟩)
      · rw [if_neg h2] at hE
        exact absurd hE.symm ha
end
end Go.Proofs.Ytdholifacnnjcaa
