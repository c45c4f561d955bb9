/- newClashes. -/
import Derived.Test.YtcobmbclhhimjaaGreatNob
namespace Go.Proofs.YtcobmbclhhimjaaGreat.Fa
open Go.RowKit Rg

set_option maxRecDepth 100000 in
set_option maxHeartbeats 6400000 in
theorem placeOf_gen {w : World} {N n K rv s k : Nat} {S : Nat → Prop} {T : Th} {F : List Int} {fa ra ba : Option Addr} {fc rc bc : Nat} {p : Int} (hpf : Pf T F n) (hta : TA N w T fa fc ra rc ba bc) (hlv : LL S (rivalsL T) n rv w) (k2 : w.cell? ⟨K, 2, none⟩ = some (.slice ra T.rules.length rc)) (k6 : w.cell? ⟨K, 6, none⟩ = some (sl rv n)) (hs : s < T.rules.length) (hp : (rivalsL T (headOf T s))[k]? = some p) :
    Calls Tryz.prog 95 #[ptr K, .int .i64 p, .int .i64 s] w fun o w' => o = .returned (.int .i64 k) ∧ ∃ m, w' = w.drewN m := by
  obtain ⟨x, hx, hhx, hx0, hx1⟩ := head_in hpf hs
  obtain ⟨gr, go, bd, bp, er, -, -, x1, -, -, -, -⟩ := at_R hta.rules hx
  rw [er] at k2
  obtain ⟨hm, hhm⟩ := Int.eq_ofNat_of_zero_le hx0
  have hmn : hm < n := by omega
  rw [hhx, hhm] at hp
  rw [hhm] at x1
  obtain ⟨la, lc, cl, hA⟩ := hlv.at hmn
  have CF := hide fun d : Nat => find_any (w := w.drewN d) (c := lc) (show At1 (w.drewN d) la _ from hA) (by have := rival_len hpf hmn; omega) (rival_pw hpf hmn) p hp
  have hrl : T.rules.length ≤ 4096 := hpf.ok.rl
  clear hpf hta hlv hx hhx hhm hA er hx0 hx1 hp
  obtain ⟨ln, hln⟩ : ∃ ln, (rivalsL T (hm : Int)).length = ln := ⟨_, rfl⟩
  rw [hln] at cl CF
  clear hln
  go_enter Tryz.func95, Tryz.ntmps95
  go_upto_region 1 with fail
  go_quiet ((go_at_call 116; exact Calls.quiet_of_same (CF.out _)))
  go_wp2_with fail
  go_ret
  exact ⟨rfl, _, rfl⟩
theorem made_cls {l : List Int} : madeCells #[.int .i64 0, .bool false] (l.length * 2) = (clsL l (fun _ => 0) fun _ => false).toArray := by
  apply Array.ext'
  show (madeCells _ _).toList = _
  apply List.ext_getElem?
  intro i
  have hl : (clsL l (fun _ => (0 : Int)) fun _ => false).length = l.length * 2 := clsL_len
  by_cases hi : i < l.length * 2
  · obtain ⟨p, hp⟩ := get_at (l := l) (i := i / 2) (by omega)
    have h2 := clsL_at (d := fun _ => (0 : Int)) (b := fun _ => false) hp
    have h1 : (madeCells #[Value.int .i64 0, .bool false] (l.length * 2)).toList[i]? = some ((#[Value.int .i64 0, .bool false])[i % 2]!) := by
      unfold madeCells
      simp [hi]
    rw [h1]
    rcases Nat.mod_two_eq_zero_or_one i with e | e
    · have : i = i / 2 * 2 := by omega
      rw [e]
      conv => rhs; rw [this]
      exact h2.1.symm
    · have : i = i / 2 * 2 + 1 := by omega
      rw [e]
      conv => rhs; rw [this]
      exact h2.2.symm
  · rw [List.getElem?_eq_none (by simp [madeCells]; omega), List.getElem?_eq_none (by simp [hl]; omega)]
theorem infoCl : (Tryz.prog.info? 124).map (fun i => (i.zero, i.size, i.bytes)) = some (some (.agg #[.int .i64 0, .bool false]), 2, 16) := by kernel_rfl
theorem infoCs : (Tryz.prog.info? 122).map (fun i => (i.zero, i.size, i.bytes)) = some (some (.slice none 0 0), 1, 24) := by kernel_rfl
/-- The clashes of the first rules. -/
structure Cz (base cl : Nat) (cr : Nat → Nat) (T : Th) (k : Nat) (d : Int → Int → Int) (w : World) : Prop where
  fx : Fx cl 122 ((List.range T.rules.length).map fun s : Nat => if s < k then sl (cr s) (rivalsL T (headOf T s)).length else .slice none 0 0) w
  cs : ∀ s, s < k → Fx (cr s) 124 (clsL (rivalsL T (headOf T s)) (d s) fun _ => false) w
  lo : base ≤ cl ∧ ∀ s, s < k → base ≤ cr s
  inj : ∀ s t, s < k → t < k → cr s = cr t → s = t
section
variable {base cl k : Nat} {cr : Nat → Nat} {T : Th} {d : Int → Int → Int} {w w' : World}
theorem Cz.go (h : Cz base cl cr T k d w) (hb : Below w.heap.size w w') : Cz base cl cr T k d w' := ⟨h.fx.keep (hb.block _ h.fx.lt), fun s hs => (h.cs s hs).keep (hb.block _ (h.cs s hs).lt), h.lo, h.inj⟩
theorem Cz.add (h : Cz base cl cr T k (fun _ _ => 0) w) (hk : k < T.rules.length) (hb : base ≤ w.heap.size) : Cz base cl (fun s => if s = k then w.heap.size else cr s) T (k + 1) (fun _ _ => 0) ((w.alloc (.cells (clsL (rivalsL T (headOf T k)) (fun _ => 0) fun _ => false).toArray 124)).setCell ⟨cl, k, none⟩ (sl w.heap.size (rivalsL T (headOf T k)).length)) := by
  have hg := h.go (below_new w (.cells (clsL (rivalsL T (headOf T k)) (fun _ => 0) fun _ => false).toArray 124))
  have hnew : Fx w.heap.size 124 (clsL (rivalsL T (headOf T k)) (fun _ => 0) fun _ => false) (w.alloc (.cells (clsL (rivalsL T (headOf T k)) (fun _ => 0) fun _ => false).toArray 124)) := heap_alloc_new _ _
  refine ⟨?_, fun s hs => ?_, ⟨h.lo.1, fun s hs => ?_⟩, fun s t hs ht => ?_⟩
  · have h2 := hg.fx.set k (sl w.heap.size (rivalsL T (headOf T k)).length)
    have e : ((List.range T.rules.length).map fun s : Nat => if s < k then sl (cr s) (rivalsL T (headOf T s)).length else .slice none 0 0).set k (sl w.heap.size (rivalsL T (headOf T k)).length) = (List.range T.rules.length).map fun s : Nat => if s < k + 1 then sl (if s = k then w.heap.size else cr s) (rivalsL T (headOf T s)).length else .slice none 0 0 := by
      apply List.ext_getElem?
      intro s
      rw [List.getElem?_set, List.getElem?_map, List.getElem?_map, List.length_map, List.length_range]
      by_cases e : k = s
      · subst e
        rw [if_pos rfl, if_pos hk, List.getElem?_range hk]
        simp
      · rw [if_neg e]
        by_cases hs : s < T.rules.length
        · rw [List.getElem?_range hs]
          simp only [Option.map_some]
          rw [if_neg (show ¬ s = k from fun x => e x.symm)]
          by_cases h3 : s < k
          · rw [if_pos h3, if_pos (by omega)]
          · rw [if_neg h3, if_neg (by omega)]
        · rw [List.getElem?_eq_none (by simpa using hs)]; rfl
    rw [e] at h2
    exact h2
  · by_cases e : s = k
    · subst e
      simp only [if_true]
      exact hnew.keep (other_set (fx_ne hnew hg.fx (by decide)))
    · simp only [if_neg e]
      have := hg.cs s (by omega)
      exact this.keep (other_set (fx_ne this hg.fx (by decide)))
  · by_cases e : s = k
    · simp only [if_pos e]; exact hb
    · simp only [if_neg e]; exact h.lo.2 s (by omega)
  · have hl : ∀ s, s < k → cr s < w.heap.size := fun s hs => (h.cs s hs).lt
    by_cases es : s = k
    · by_cases et : t = k
      · intro _; omega
      · simp only [if_pos es, if_neg et]; intro e; have := hl t (by omega); omega
    · by_cases et : t = k
      · simp only [if_neg es, if_pos et]; intro e; have := hl s (by omega); omega
      · simp only [if_neg es, if_neg et]; exact h.inj s t (by omega) (by omega)
def cd1 (h : Int) (d : Int → Int → Int) (s : Int) : Int → Int → Int := upd d s (upd (d s) h (inc (d s h)))
def cdK (T : Th) (k : Nat) : Int → Int → Int := (List.range k).foldl (fun d (r : Nat) => if teamB T r then (row T.beats r).foldl (cd1 (headOf T r)) d else d) fun _ _ => 0
theorem cdK_succ {k : Nat} : cdK T (k + 1) = if teamB T k then (row T.beats k).foldl (cd1 (headOf T k)) (cdK T k) else cdK T k := by
  unfold cdK
  rw [List.range_succ, List.foldl_append]
  rfl
theorem Cz.setD {R : Nat} (h : Cz base cl cr T R d w) {s p : Nat} (hs : s < R) {x : Int} (hp : (rivalsL T (headOf T s))[p]? = some x) (hn : (rivalsL T (headOf T s)).Nodup) (v : Int) : Cz base cl cr T R (upd d s (upd (d s) x v)) (w.setCell ⟨cr s, p * 2, none⟩ (.int .i64 v)) := by
  refine ⟨h.fx.keep (other_set (fx_ne h.fx (h.cs s hs) (by decide))), fun t ht => ?_, h.lo, h.inj⟩
  by_cases e : t = s
  · subst e
    have := (h.cs t ht).set (p * 2) (.int .i64 v)
    rw [clsL_setd hp hn] at this
    rw [upd_at]
    exact this
  · rw [upd_off (by omega)]
    exact (h.cs t ht).keep (other_set fun e2 => e (h.inj t s ht hs e2))
end
section
variable {T : Th} {F : List Int} {n : Nat}
theorem beats_len (h : Pf T F n) {r : Nat} (hr : r < T.rules.length) {l : List Int} (e : row T.beats (r : Int) = l) : l.length ≤ 4096 := by
  have hbl := h.ok.bl
  obtain ⟨l2, hl⟩ := get_at (l := T.beats) (i := r) (by omega)
  have er : row T.beats (r : Int) = l2 := row_at (by rw [Int.toNat_natCast]; exact hl)
  obtain ⟨hb1, hb2⟩ := h.ok.beat r l2 hl
  obtain ⟨hin, hpw⟩ := risesF_in2 (by omega) hb1
  have hrl := h.ok.rl
  have hlen : l2.length ≤ T.rules.length := by
    have h2 : (l2.map Int.toNat).Nodup := nodup_map (pw_nodup hpw) fun x hx y hy hxy => by have := (hin x hx).1; have := (hin y hy).1; omega
    have := nodup_len (N := T.rules.length) h2 fun k hk => by
      obtain ⟨x, hx, rfl⟩ := List.mem_map.1 hk
      have := hin x hx
      omega
    simpa using this
  rw [← e, er]
  omega
end
set_option maxRecDepth 100000 in
set_option maxHeartbeats 12800000 in
theorem newClashes_any {w : World} {T : Th} {F : List Int} {n rl tm rv fm : Nat} {fa ra ba : Option Addr} {fc rc bc : Nat} (h : Ix w T F n rl tm rv fm fa ra ba fc rc bc) (hp : Pf T F n) :
    Calls Tryz.prog 69 #[.agg (ixL T fa ra ba fc rc bc rl tm rv fm n).toArray] w fun o w' => ∃ cl cr, o = .returned (sl cl T.rules.length) ∧ Cz w.heap.size cl cr T T.rules.length (cdK T T.rules.length) w' ∧ Below w.heap.size w w' := by
  obtain ⟨iC, hiC, zC0, zC1, zC2⟩ := info_parts infoCl
  obtain ⟨iS, hiS, zS0, zS1, zS2⟩ := info_parts infoCs
  have hn4 := hp.n4
  have hrl : T.rules.length ≤ 4096 := hp.ok.rl
  have hmS : ∀ W, (Instr.makeSlice 72 (.int .i64 T.rules.length) (.int .i64 T.rules.length)).run Tryz.prog W = .ok (sl W.heap.size T.rules.length) (W.alloc (.cells (Array.replicate T.rules.length (.slice none 0 0)) 122)) := fun W => run_make_fix (P := Tryz.prog) Tryz.underlying72 hiS zS0 zS1 rfl T.rules.length (by rw [zS2]; omega) (by unfold maxLen; omega) W
  have hmC : ∀ (l : List Int) W, l.length ≤ 64 → (Instr.makeSlice 122 (.int .i64 l.length) (.int .i64 l.length)).run Tryz.prog W = .ok (sl W.heap.size l.length) (W.alloc (.cells (clsL l (fun _ => 0) fun _ => false).toArray 124)) := fun l W hl => by
    have := run_make (P := Tryz.prog) W 122 124 iC _ Tryz.underlying122 hiC zC0 .i64 .i64 l.length l.length (by omega) (Int.le_refl _) (by rw [zC2]; omega) (by omega)
    rw [zC1, Int.toNat_natCast] at this
    rw [this, show (Value.agg #[.int .i64 0, .bool false]).cells = #[.int .i64 0, .bool false] from rfl, made_cls]
  have HMC := hide hmC
  have hB1 := below_new w (.cells (ixL T fa ra ba fc rc bc rl tm rv fm n).toArray 69)
  have hX1 : Fx w.heap.size 69 (ixL T fa ra ba fc rc bc rl tm rv fm n) (w.alloc (.cells (ixL T fa ra ba fc rc bc rl tm rv fm n).toArray 69)) := by unfold Fx; rw [heap_alloc_new]
  have HP := hide hp
  have HI := hide h
  have HB := hide hB1
  have HX := hide hX1
  have c2 := hX1.get (i := 2) rfl
  clear h hp hB1 hX1 hiC zC0 zC1 zC2 hiS zS0 zS1 zS2 hmC
  have hfol : Tryz.prog.follows .mixedOrders = true := by kernel_rfl
  go_enter Tryz.func69, Tryz.ntmps69
  go_upto_region 1 with fail
  obtain ⟨W, hW⟩ : ∃ W, w.alloc (.cells (ixL T fa ra ba fc rc bc rl tm rv fm n).toArray 69) = W := ⟨_, rfl⟩
  obtain ⟨bq, hbq⟩ : ∃ bq, w.heap.size = bq := ⟨_, rfl⟩
  have HBQ := hide hbq
  rw [hW] at HB HX c2 ⊢
  rw [hbq] at HX c2 ⊢
  clear hW hbq
  have hB2 := below_new W (.cells (Array.replicate T.rules.length (.slice none 0 0)) 122)
  have hC2 : Cz W.heap.size W.heap.size (fun _ => 0) T 0 (fun _ _ => 0) (W.alloc (.cells (Array.replicate T.rules.length (.slice none 0 0)) 122)) := by
    refine ⟨?_, fun s hs => by omega, ⟨Nat.le_refl _, fun s hs => by omega⟩, fun s t hs => by omega⟩
    unfold Fx
    rw [heap_alloc_new]
    simp only [Nat.not_lt_zero, if_false]
    rw [List.map_const', List.length_range, List.toArray_replicate]
  have HC2 := hide hC2
  have c2' := (HX.out.keep (hB2.block _ HX.out.lt)).get (i := 2) rfl
  have HB2 := hide hB2
  clear hC2 hB2
  have hmW := hmS W
  clear hmS
  go_upto_region 2 with fail
  obtain ⟨W2, hW2⟩ : ∃ W2, W.alloc (.cells (Array.replicate T.rules.length (.slice none 0 0)) 122) = W2 := ⟨_, rfl⟩
  obtain ⟨g, hg⟩ : ∃ g, W.heap.size = g := ⟨_, rfl⟩
  have HG := hide hg
  rw [hW2] at HB2 HC2 c2' ⊢
  rw [hg] at HC2 ⊢
  have HBG : Hid (Below g W W2) := hide (by rw [← HG.out]; exact HB2.out)
  have HWW : Hid (∀ X, Below g W X → Below bq w X) := hide fun X hX => by
    have e : bq ≤ g := by have := HB.out.size; rw [HBQ.out, HG.out] at this; exact this
    rw [← HBQ.out]
    exact HB.out.trans (hX.mono (by rw [HBQ.out]; exact e))
  have HXX : Hid (∀ X, Below g W X → Fx bq 69 (ixL T fa ra ba fc rc bc rl tm rv fm n) X) := hide fun X hX => HX.out.keep (hX.block _ (by rw [← HG.out]; exact HX.out.lt))
  have HTT : Hid (∀ X, Below g W X → TA bq X T fa fc ra rc ba bc) := hide fun X hX => by
    have := TR.keep (HWW.out X hX).block (by rw [← HBQ.out]; exact HI.out.ta)
    exact this
  have HLV : Hid (∀ X, Below g W X → LL (fun k => k < bq) (rivalsL T) n rv X) := hide fun X hX => by
    have := HI.out.v.keep (w' := X) fun j hj => (HWW.out X hX).block j (by rw [← HBQ.out]; exact hj)
    rw [HBQ.out] at this
    exact this
  clear hW2 hg hmW HB2
  go_wp2_with fail
  clear c2 c2'
  go_loopw [19] (fun x wr => ∃ (k : Nat) (cr : Nat → Nat), k ≤ T.rules.length ∧ x = .int .i64 k ∧ Hid (Cz g g cr T k (fun _ _ => 0) wr) ∧ Hid (Below g W wr)) (fun x _ => T.rules.length - (intOf x).toNat)
  case atStart => exact ⟨0, _, by omega, rfl, HC2, HBG⟩
  case round =>
    clear HC2 HBG
    obtain ⟨k, cr, hk, rfl, HC, HBr⟩ := hrel
    by_cases hlt : k < T.rules.length
    · obtain ⟨r, hr⟩ := get_at hlt
      obtain ⟨h0, h1⟩ := HP.out.head r (List.mem_of_getElem? hr)
      obtain ⟨hm, hhm⟩ := Int.eq_ofNat_of_zero_le h0
      have hidx : hm < n := by omega
      have hhd : headOf T k = (hm : Int) := by unfold headOf; rw [Int.toNat_natCast, hr]; exact hhm
      obtain ⟨gr, go, bd, bp, rfl, hgr, x0, x1, x2, -, hbl, hbody⟩ := at_R (HTT.out wr HBr.out).rules hr
      rw [hhm] at x1
      have hBq := below_new wr (.cells #[.int .i64 r.kind, .int .i64 hm, .slice bd r.body.length bp] 81)
      have HQ : Hid (Fx wr.heap.size 81 [.int .i64 r.kind, .int .i64 hm, .slice bd r.body.length bp] (wr.alloc (.cells #[.int .i64 r.kind, .int .i64 hm, .slice bd r.body.length bp] 81))) := hide (heap_alloc_new wr _)
      have HCq := hide (HC.out.go hBq)
      have hgw : g ≤ wr.heap.size := by have := HBr.out.size; rw [HG.out] at this; exact this
      have HBq := hide (HBr.out.trans (hBq.mono hgw))
      have hgq : g ≤ (wr.alloc (.cells #[.int .i64 r.kind, .int .i64 hm, .slice bd r.body.length bp] 81)).heap.size := by simp; omega
      have HHD := hide hhd
      have HL := hide hlt
      clear hr h0 h1 hhm hBq hbody HC HBr hgr hhd hgw
      go_upto_region 5 with fail
      clear x0 x1 x2
      generalize wr.alloc (.cells #[.int .i64 r.kind, .int .i64 hm, .slice bd r.body.length bp] 81) = wq at *
      obtain ⟨qr, hqr⟩ : ∃ qr, wr.heap.size = qr := ⟨_, rfl⟩
      rw [hqr] at HQ ⊢
      clear hqr
      have q1 := HQ.out.get (i := 1) rfl
      have c6 := (HXX.out wq HBq.out).get (i := 6) rfl
      obtain ⟨la, lc, cl, -⟩ := (HLV.out wq HBq.out).at hidx
      have hm1 := HMC.out (rivalsL T hm) wq (rival_len HP.out hidx)
      have hll := rival_len HP.out hidx
      have hadd := HCq.out.add HL.out hgq
      rw [HHD.out] at hadd
      have hBn := below_new wq (.cells (clsL (rivalsL T hm) (fun _ => 0) fun _ => false).toArray 124)
      have hCn := HCq.out.go hBn
      have co := hCn.fx.get (i := k) (by rw [List.getElem?_map, List.getElem?_range HL.out]; rfl)
      have zo := hCn.fx.frz k
      have HA := hide hadd
      have HBn : Hid (Below g W ((wq.alloc (.cells (clsL (rivalsL T hm) (fun _ => 0) fun _ => false).toArray 124)).setCell ⟨g, k, none⟩ (sl wq.heap.size (rivalsL T hm).length))) := hide ((HBq.out.trans (hBn.mono hgq)).setCell (p := ⟨g, k, none⟩) (Nat.le_refl _) _)
      obtain ⟨ln, hln⟩ : ∃ ln, (rivalsL T hm).length = ln := ⟨_, rfl⟩
      rw [hln] at cl hm1 hll HA HBn
      clear hadd hCn hBn hln hlt HCq HBq
      go_wp2_with fail
      go_roundw
      case rel => exact ⟨k + 1, _, by have := HL.out; omega, by go_num, HA, HBn⟩
      case measure => have := HL.out; simp [intOf]; omega
    · have hkn : k = T.rules.length := by omega
      have HC0 : Hid (Cz g g cr T T.rules.length (cdK T 0) wr) := hide (by rw [← hkn]; exact HC.out)
      have c2 := (HXX.out wr HBr.out).get (i := 2) rfl
      have HBs := hide HBr.out
      clear HC HBr hkn
      go_wp2_with fail
      clear c2
      go_loopw [40] (fun x wr => ∃ k : Nat, k ≤ T.rules.length ∧ x = .int .i64 k ∧ Hid (Cz g g cr T T.rules.length (cdK T k) wr) ∧ Hid (Below g W wr)) (fun x _ => T.rules.length - (intOf x).toNat)
      case atStart => exact ⟨0, by omega, rfl, HC0, HBs⟩
      case round =>
        clear HC0 HBs
        rename World => wr2
        obtain ⟨k, hk, rfl, HC, HBr⟩ := hrel
        by_cases hlt : k < T.rules.length
        · obtain ⟨r, hr⟩ := get_at hlt
          obtain ⟨h0, h1⟩ := HP.out.head r (List.mem_of_getElem? hr)
          obtain ⟨hm, hhm⟩ := Int.eq_ofNat_of_zero_le h0
          have hidx : hm < n := by omega
          have hhd : headOf T k = (hm : Int) := by unfold headOf; rw [Int.toNat_natCast, hr]; exact hhm
          have htm : teamB T k = !decide (r.kind = 3) := by unfold teamB; rw [Int.toNat_natCast, hr]; rfl
          obtain ⟨gr, go, bd, bp, rfl, hgr, x0, x1, x2, -, hbl, hbody⟩ := at_R (HTT.out wr2 HBr.out).rules hr
          rw [hhm] at x1
          have hBq := below_new wr2 (.cells #[.int .i64 r.kind, .int .i64 hm, .slice bd r.body.length bp] 81)
          have HQ : Hid (Fx wr2.heap.size 81 [.int .i64 r.kind, .int .i64 hm, .slice bd r.body.length bp] (wr2.alloc (.cells #[.int .i64 r.kind, .int .i64 hm, .slice bd r.body.length bp] 81))) := hide (heap_alloc_new wr2 _)
          have HCq := hide (HC.out.go hBq)
          have hgw : g ≤ wr2.heap.size := by have := HBr.out.size; rw [HG.out] at this; exact this
          have HBq := hide (HBr.out.trans (hBq.mono hgw))
          have hgq : g ≤ (wr2.alloc (.cells #[.int .i64 r.kind, .int .i64 hm, .slice bd r.body.length bp] 81)).heap.size := by simp; omega
          have HGQ := hide hgq
          have HHD := hide hhd
          have HTM := hide htm
          have HL := hide hlt
          clear hr h0 h1 hhm hBq hbody HC HBr hgr hhd hgw hgq htm
          go_upto_region 10 with fail
          clear x0 x1 x2
          generalize wr2.alloc (.cells #[.int .i64 r.kind, .int .i64 hm, .slice bd r.body.length bp] 81) = wq at *
          obtain ⟨qr, hqr⟩ : ∃ qr, wr2.heap.size = qr := ⟨_, rfl⟩
          rw [hqr] at HQ ⊢
          clear hqr
          have q0 := HQ.out.get (i := 0) rfl
          have q1 := HQ.out.get (i := 1) rfl
          have q2 := HQ.out.get (i := 2) rfl
          have CT := hide (isTeam_any (w := wq) (k := r.kind) (h := (hm : Int)) (v := .slice bd r.body.length bp))
          cases htk : decide (r.kind = 3) with
          | true =>
            have HT : Hid (cdK T (k + 1) = cdK T k) := hide (by rw [cdK_succ, HTM.out, htk]; rfl)
            rw [htk] at CT
            clear htk
            go_wp2_with (go_at_call 68; refine CT.out.mono ?_; rintro _ w3 ⟨rfl, hb⟩; have HB3 := hide hb; clear hb)
            go_roundw
            case rel => exact ⟨k + 1, by have := HL.out; omega, by go_num, hide (by rw [HT.out]; exact HCq.out.go HB3.out), hide (HBq.out.trans (HB3.out.mono HGQ.out))⟩
            case measure => have := HL.out; simp [intOf]; omega
          | false =>
            have hbl2 := HP.out.ok.bl
            obtain ⟨l, hl⟩ := get_at (l := T.beats) (i := k) (by have := HL.out; omega)
            have er : row T.beats (k : Int) = l := row_at (by rw [Int.toNat_natCast]; exact hl)
            have HT : Hid (cdK T (k + 1) = l.foldl (cd1 hm) (cdK T k)) := hide (by rw [cdK_succ, HTM.out, htk, er, HHD.out]; rfl)
            have HTB : Hid (teamB T k = true) := hide (by rw [HTM.out, htk]; rfl)
            rw [htk] at CT
            have HBT : Hid (∀ X, Below g W X → ∃ g2 o2 a2 c2, ba = some ⟨g2, o2, none⟩ ∧ g2 < bq ∧ X.cell? ⟨g2, o2 + k, none⟩ = some (.slice a2 l.length c2) ∧ At1 X a2 (ints l)) := hide fun X hX => by
              obtain ⟨g2, o2, a2, c2, e1, hg2, hc, -, -, hI⟩ := at_L (HTT.out X hX).beats hl
              exact ⟨g2, o2, a2, c2, e1, hg2, hc, hI.at1⟩
            have HIN : Hid (∀ x ∈ l, ∃ s : Nat, x = (s : Int) ∧ s < T.rules.length ∧ (hm : Int) ∈ rivalsL T (headOf T s)) := hide fun x hx => by
              obtain ⟨hb1, hb2⟩ := HP.out.ok.beat k l hl
              obtain ⟨hin, -⟩ := risesF_in2 (by omega) hb1
              obtain ⟨s0, s1⟩ := hin x hx
              obtain ⟨s, rfl⟩ := Int.eq_ofNat_of_zero_le (show 0 ≤ x by omega)
              refine ⟨s, rfl, by omega, ?_⟩
              rw [← HHD.out]
              exact beaten_rival HP.out HL.out HTB.out (hb2 _ hx)
            have hll : l.length ≤ 4096 := beats_len HP.out HL.out er
            obtain ⟨g2, o2, a2, bc2, rfl, hg2, cb, hA2⟩ := HBT.out wq HBq.out
            have hXq := HXX.out wq HBq.out
            have hbl3 : k < T.beats.length := by have := HL.out; omega
            clear htk hl er hA2
            go_upto_region 11 with (go_at_call 68; refine CT.out.mono ?_; rintro _ w3 ⟨rfl, hb⟩; have HB3 := hide hb; clear hb)
            have HB4 := hide (HBq.out.trans (HB3.out.mono HGQ.out))
            have HC4 := hide (HCq.out.go HB3.out)
            have HQ4 := hide (HQ.out.keep (HB3.out.block _ HQ.out.lt))
            have cb4 : w3.cell? ⟨g2, o2 + k, none⟩ = some (.slice a2 l.length bc2) := (World.cell?_of_block (HB3.out.block _ (World.block_lt_of_cell? wq _ cb))).trans cb
            have c3 := (HXX.out w3 HB4.out).get (i := 3) rfl
            have HAT : Hid (∀ X, Below g W X → At1 X a2 (ints l)) := hide fun X hX => by
              obtain ⟨g3, o3, a3, bc3, e3, hg3, cb3, hA3⟩ := HBT.out X hX
              cases e3
              have e4 : w3.cell? ⟨g2, o2 + k, none⟩ = X.cell? ⟨g2, o2 + k, none⟩ := (World.cell?_of_block ((HWW.out w3 HB4.out).block g2 hg3)).trans (World.cell?_of_block ((HWW.out X hX).block g2 hg3)).symm
              rw [cb4, cb3] at e4
              cases e4
              exact hA3
            clear HBq HCq HB3 HQ CT cb hXq q0 q1 q2 HBT
            go_wp2_with fail
            clear c3 cb4
            go_loopw [55] (fun x wr => ∃ j : Nat, j ≤ l.length ∧ x = .int .i64 j ∧ Hid (Cz g g cr T T.rules.length ((l.take j).foldl (cd1 hm) (cdK T k)) wr) ∧ Hid (Below g W wr) ∧ Hid (Fx qr 81 [.int .i64 r.kind, .int .i64 hm, .slice bd r.body.length bp] wr)) (fun x _ => l.length - (intOf x).toNat)
            case atStart => exact ⟨0, by omega, rfl, HC4, HB4, HQ4⟩
            case round =>
              clear HC4 HB4 HQ4
              rename World => wr3
              obtain ⟨j, hj, rfl, HC, HBr, HQ⟩ := hrel
              by_cases hjl : j < l.length
              · obtain ⟨s0, hs⟩ := get_at hjl
                obtain ⟨s, rfl, hsR, hrv⟩ := HIN.out s0 (List.mem_of_getElem? hs)
                obtain ⟨gx, ox, rfl, cx⟩ := (HAT.out wr3 HBr.out).get hs
                have HS : Hid ((l.take (j + 1)).foldl (cd1 hm) (cdK T k) = cd1 hm ((l.take j).foldl (cd1 hm) (cdK T k)) s) := hide (by rw [take_snoc hs, List.foldl_append]; rfl)
                generalize (l.take j).foldl (cd1 hm) (cdK T k) = d at HC HS
                obtain ⟨p, hp⟩ := List.mem_iff_getElem?.1 hrv
                have hpl := (List.getElem?_eq_some_iff.1 hp).1
                have hnd := rivals_nd HP.out hsR
                have c1 := HC.out.fx.get (i := s) (v := sl (cr s) (rivalsL T (headOf T s)).length) (by rw [List.getElem?_map, List.getElem?_range hsR]; simp only [Option.map_some]; rw [if_pos hsR])
                have hpm : (rivalsL T (headOf T s)).length ≤ 64 := by
                  obtain ⟨x, -, hhx, hx0, hx1⟩ := head_in HP.out hsR
                  obtain ⟨hm2, hhm2⟩ := Int.eq_ofNat_of_zero_le hx0
                  rw [hhx, hhm2]
                  exact rival_len HP.out (by omega)
                have q1 := HQ.out.get (i := 1) rfl
                have hXq := HXX.out wr3 HBr.out
                have CP := hide fun d : Nat => placeOf_gen (w := wr3.drewN d) HP.out (HTT.out _ (HBr.out.trans ((below_drewN wr3 d).mono (Nat.le_trans (by rw [HG.out]; exact Nat.le_refl _) HBr.out.size)))) (HLV.out _ (HBr.out.trans ((below_drewN wr3 d).mono (Nat.le_trans (by rw [HG.out]; exact Nat.le_refl _) HBr.out.size)))) (show (wr3.drewN d).cell? ⟨bq, 2, none⟩ = _ from hXq.get (i := 2) rfl) (show (wr3.drewN d).cell? ⟨bq, 6, none⟩ = _ from hXq.get (i := 6) rfl) hsR hp
                have cv := (HC.out.cs s hsR).get (clsL_at hp).1
                obtain ⟨v1, hv1⟩ : ∃ v1, IntKind.i64.wrap (d s hm + 1) = v1 := ⟨_, rfl⟩
                have HV : Hid (inc (d s hm) = v1) := hide hv1
                have HPp := hide hp
                have HND := hide hnd
                have hsl : ∀ z, z = s → s < T.rules.length := fun _ _ => hsR
                obtain ⟨ln, hln⟩ : ∃ ln, (rivalsL T (headOf T s)).length = ln := ⟨_, rfl⟩
                rw [hln] at c1 hpl hpm
                clear hs hrv hXq hp hnd hln hsl
                go_upto_region 14 with fail
                refine region_last (by assumption) (by kernel_rfl) (by kernel_rfl) (by kernel_rfl) (by kernel_rfl) ?_
                dsimp only [List.dropLast, List.getLast, List.cons_append, List.nil_append]
                repeat (go_big_quiet_step ((go_at_call 95; exact Calls.quiet_of (CP.out _))))
                refine wpQuiet_nil ?_
                rintro _ ⟨nq, rfl⟩
                have hd := below_drewN wr3 nq
                have hgw : g ≤ wr3.heap.size := by have := HBr.out.size; rw [HG.out] at this; exact this
                have hC1 := HC.out.go hd
                have hC2 := hC1.setD hsR HPp.out HND.out v1
                have cv := (hC1.cs s hsR).get (clsL_at HPp.out).1
                have zv := (hC1.cs s hsR).frz (p * 2)
                have HC2 : Hid (Cz g g cr T T.rules.length (cd1 hm d s) ((wr3.drewN nq).setCell ⟨cr s, p * 2, none⟩ (.int .i64 v1))) := hide (by unfold cd1; rw [HV.out]; exact hC2)
                have HB2 := hide ((HBr.out.trans (hd.mono hgw)).setCell (p := ⟨cr s, p * 2, none⟩) (HC.out.lo.2 s hsR) (.int .i64 v1))
                have HQ2 := hide ((HQ.out.keep (hd.block _ HQ.out.lt)).keep (w' := (wr3.drewN nq).setCell ⟨cr s, p * 2, none⟩ (.int .i64 v1)) (other_set (fx_ne (HQ.out.keep (hd.block _ HQ.out.lt)) (hC1.cs s hsR) (by decide))))
                clear hC1 hC2 hd HC HBr HQ cx c1 q1 CP hgw
                go_wp2_with fail
                go_roundw
                case rel => exact ⟨j + 1, by omega, by go_num, hide (by rw [HS.out]; exact HC2.out), HB2, HQ2⟩
                case measure => simp [intOf]; omega
              · have hjn : l.take j = l := List.take_of_length_le (by omega)
                rw [hjn] at HC
                go_wp2_with fail
                go_roundw
                case rel => exact ⟨k + 1, by have := HL.out; omega, by go_num, hide (by rw [HT.out]; exact HC.out), HBr⟩
                case measure => have := HL.out; simp [intOf]; omega
        · have hkn : k = T.rules.length := by omega
          subst hkn
          go_wp2_with fail
          go_ret
          refine ⟨g, cr, rfl, ?_, by rw [HBQ.out]; exact HWW.out _ HBr.out⟩
          have e : w.heap.size ≤ g := by rw [← HG.out]; exact HB.out.size
          exact ⟨HC.out.fx, HC.out.cs, ⟨e, fun s hs => Nat.le_trans e (HC.out.lo.2 s hs)⟩, HC.out.inj⟩
end Go.Proofs.YtcobmbclhhimjaaGreat.Fa
