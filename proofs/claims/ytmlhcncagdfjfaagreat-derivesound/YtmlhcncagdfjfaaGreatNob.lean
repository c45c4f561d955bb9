import Derived.Test.YtmlhcncagdfjfaaGreatNix
import Derived.Test.YtmlhcncagdfjfaaGreatFs9
set_option maxRecDepth 100000
set_option maxHeartbeats 12800000
namespace Go.Proofs.YtmlhcncagdfjfaaGreat.Fa
open Go.RowKit Rg
def nQ (x y : Int) : Int := IntKind.i64.wrap (x + y)
def gi (T : Th) (F : List Int) (q : Int) (f : Int → Int) (p : Int) : Int → Int := aA f p (if bI T F q then aE (nQ (f p) ((ag T kA q).length : Nat)) else nQ (f p) ((ag T kA q).length : Nat))
def obK (T : Th) (F : List Int) (k : Nat) : Int → Int := (List.range k).foldl (fun f (q : Nat) => (ao T q).foldl (gi T F q) f) fun _ => 0
structure Ix (w : World) (T : Th) (F : List Int) (n rl tm rv fm : Nat) (fa ra ba : Option Addr) (fc rc bc : Nat) : Prop where
 ta : TA w.heap.size w T fa fc ra rc ba bc
 a : LL (fun k => k < w.heap.size) (ag T kA) n rl w
 t : LL (fun k => k < w.heap.size) (ag T kT) n tm w
 v : LL (fun k => k < w.heap.size) (ao T) n rv w
 f : Fx fm 4 (cq n (bI T F)) w
theorem tE {T : Th} {F : List Int} {n q : Nat} (hp : Pf T F n) (hq : q < n) {x : Int} (hx : x ∈ ao T q) : 0 ≤ x ∧ x < (n : Int) := hp.foe q hq x (List.mem_filter.1 hx).1
theorem upd_twice {α : Type} {f : Int → α} {x : Int} {a b : α} : aA (aA f x a) x b = aA f x b := by
 funext z
 by_cases e : z = x
 ·rw [e, aL, aL]
 rw [aS e, aS e, aS e]
theorem pS {T : Th} {F : List Int} {k : Nat} : obK T F (k + 1) = (ao T k).foldl (gi T F k) (obK T F k) := by
 unfold obK
 rw [List.range_succ, List.foldl_append]
 rfl
theorem lW {n : Nat} : Array.replicate n (Value.int .i64 0) = (bO n fun _ => 0).toArray := by
 unfold bO
 rw [List.map_const', List.length_range, List.toArray_replicate]
theorem mN {w : World} {T : Th} {F : List Int} {n rl tm rv fm : Nat} {fa ra ba : Option Addr} {fc rc bc : Nat} (h : Ix w T F n rl tm rv fm fa ra ba fc rc bc) (hp : Pf T F n) :
    Calls Tryz.prog 178 #[.agg (cW T fa ra ba fc rc bc rl tm rv fm n).toArray] w fun o w' => ∃ g, o = .returned (sl g n) ∧ Fx g 3 (bO n (obK T F n)) w' ∧ w.heap.size ≤ g ∧ Below w.heap.size w w' := by
 obtain ⟨iI, Aw, Av, As, Ap⟩ := info_parts gB
 have AO := hp.n4
 have Ax : ∀ W, (Instr.makeSlice 26 (.int .i64 T.lits) (.int .i64 T.lits)).run Tryz.prog W = .ok (sl W.heap.size n) (W.alloc (.cells (Array.replicate n (.int .i64 0)) 3)) := fun W => by rw [hp.ln]; exact aH (P := Tryz.prog) Tryz.underlying26 Aw Av As rfl n (by rw [Ap]; omega) (by unfold maxLen; omega) W
 have Ac := ae w (.cells (cW T fa ra ba fc rc bc rl tm rv fm n).toArray 176)
 have Aj : Fx w.heap.size 176 (cW T fa ra ba fc rc bc rl tm rv fm n) (w.alloc (.cells (cW T fa ra ba fc rc bc rl tm rv fm n).toArray 176)) := by unfold Fx; rw [heap_alloc_new]
 have HP := hide hp
 have HI := hide h
 have HB := hide Ac
 have HX := hide Aj
 have c0 := Aj.get (i := 0) rfl
 have c6 := Aj.get (i := 6) rfl
 clear h hp Ac Aj Aw Av As Ap
 have AL : Tryz.prog.follows .mixedOrders = true := by kernel_rfl
 go_enter Tryz.func178, Tryz.ntmps178
 go_upto_region 1 with fail
 obtain ⟨W, hW⟩ : ∃ W, w.alloc (.cells (cW T fa ra ba fc rc bc rl tm rv fm n).toArray 176) = W := ⟨_, rfl⟩
 obtain ⟨bq, Am⟩ : ∃ bq, w.heap.size = bq := ⟨_, rfl⟩
 have Aa := hide Am
 rw [hW] at HB HX c0 c6 ⊢
 rw [Am] at HX c0 c6 ⊢
 clear hW Am
 have Af := ae W (.cells (Array.replicate n (.int .i64 0)) 3)
 have Ao : Fx W.heap.size 3 (bO n fun _ => 0) (W.alloc (.cells (Array.replicate n (.int .i64 0)) 3)) := by unfold Fx; rw [heap_alloc_new, lW]
 have Ai := hide Ao
 have c6' := (HX.out.keep (Af.block _ HX.out.lt)).get (i := 6) rfl
 have Ag := hide Af
 clear Ao Af
 have AA := Ax W
 clear Ax
 go_upto_region 2 with fail
 obtain ⟨W2, Au⟩ : ∃ W2, W.alloc (.cells (Array.replicate n (.int .i64 0)) 3) = W2 := ⟨_, rfl⟩
 obtain ⟨g, hg⟩ : ∃ g, W.heap.size = g := ⟨_, rfl⟩
 have HG := hide hg
 rw [Au] at Ag Ai c6' ⊢
 rw [hg] at Ai ⊢
 have Aq : Hid (Below g W W2) := hide (by rw [← HG.out]; exact Ag.out)
 clear Au hg AA Ag
 go_wp2_with fail
 clear c0 c6 c6'
 go_loopw [15] (fun x wr => ∃ k : Nat, k ≤ n ∧ x = .int .i64 k ∧ Hid (Fx g 3 (bO n (obK T F k)) wr) ∧ Hid (Below g W wr)) (fun x _ => n - (intOf x).toNat)
 case atStart => exact ⟨0, by omega, rfl, Ai, Aq⟩
 clear Ai Aq
 obtain ⟨k, hk, rfl, HO, HBr⟩ := hrel
 have HBw : Hid (Below bq w wr) := hide (by
  have e : bq ≤ g := by have := HB.out.size; rw [Aa.out, HG.out] at this; exact this
  rw [← Aa.out]
  exact HB.out.trans (HBr.out.mono (by rw [Aa.out]; exact e)))
 by_cases Ab : k < n
 ·have AD := cU HP.out Ab
  obtain ⟨la, lc, cl, -⟩ := (HI.out.v.keep fun j hj => HBw.out.block j (by rw [← Aa.out]; exact hj)).at Ab
  have Ak : Hid (∀ X, Below bq w X → At1 X la (aq (ao T k))) := hide fun X hX => by
   obtain ⟨a2, c2, d2, i2⟩ := (HI.out.v.keep fun j hj => hX.block j (by rw [← Aa.out]; exact hj)).at Ab
   have e4 : wr.cell? ⟨rv, k, none⟩ = X.cell? ⟨rv, k, none⟩ := (World.cell?_of_block (HBw.out.block rv (by rw [← Aa.out]; exact HI.out.v.1))).trans (World.cell?_of_block (hX.block rv (by rw [← Aa.out]; exact HI.out.v.1))).symm
   rw [cl, d2] at e4
   cases e4
   exact i2
  have Ay : Hid (∀ x ∈ ao T k, 0 ≤ x ∧ x < (n : Int)) := hide fun x hx => tE HP.out Ab hx
  have Al : Hid (obK T F (k + 1) = (ao T k).foldl (gi T F k) (obK T F k)) := hide pS
  generalize obK T F k = f0 at HO Al
  obtain ⟨l, hl⟩ : ∃ l, ao T k = l := ⟨_, rfl⟩
  rw [hl] at AD cl Ak Ay Al
  clear hl
  go_wp2_with fail
  clear cl
  have HL := hide Ab
  have HOs := hide HO.out
  have HBs := hide HBr.out
  clear HO HBr HBw
  go_loopw [22] (fun x wr => ∃ j : Nat, j ≤ l.length ∧ x = .int .i64 j ∧ Hid (Fx g 3 (bO n ((l.take j).foldl (gi T F k) f0)) wr) ∧ Hid (Below g W wr)) (fun x _ => l.length - (intOf x).toNat)
  case atStart => exact ⟨0, by omega, rfl, HOs, HBs⟩
  clear HOs HBs
  rename World => wr2
  obtain ⟨j, hj, rfl, HO, HBr⟩ := hrel
  have HBw : Hid (Below bq w wr2) := hide (by
   have e : bq ≤ g := by have := HB.out.size; rw [Aa.out, HG.out] at this; exact this
   rw [← Aa.out]
   exact HB.out.trans (HBr.out.mono (by rw [Aa.out]; exact e)))
  by_cases hjl : j < l.length
  ·obtain ⟨x0, hx⟩ := am hjl
   obtain ⟨x1, x2⟩ := Ay.out x0 (List.mem_of_getElem? hx)
   obtain ⟨x, rfl⟩ := Int.eq_ofNat_of_zero_le x1
   have Ah : x < n := by omega
   obtain ⟨gx, ox, rfl, cx⟩ := (Ak.out wr2 HBw.out).get hx
   have HS : Hid ((l.take (j + 1)).foldl (gi T F k) f0 = gi T F k ((l.take j).foldl (gi T F k) f0) x) := hide (by rw [bD hx, List.foldl_append]; rfl)
   generalize (l.take j).foldl (gi T F k) f0 = f at HO HS
   have co := HO.out.get (aY Ah)
   have zo := HO.out.frz x
   have Ae := HX.out.keep (HBr.out.block _ (by rw [← HG.out]; exact HX.out.lt))
   have c4 := Ae.get (i := 4) rfl
   have c7 := Ae.get (i := 7) rfl
   have Ab := HL.out
   obtain ⟨AP, AN, cr, -⟩ := (HI.out.a.keep fun j hj => HBw.out.block j (by rw [← Aa.out]; exact hj)).at Ab
   have cf := (HI.out.f.keep (HBw.out.block _ (by rw [← Aa.out]; exact HI.out.f.lt))).get (dy Ab)
   have AM : (ag T kA k).length ≤ 4096 := Nat.le_trans bg HP.out.ok.rl
   obtain ⟨v1, Ar⟩ : ∃ v1, IntKind.i64.wrap (f x + ((ag T kA k).length : Nat)) = v1 := ⟨_, rfl⟩
   have HV : Hid (nQ (f x) ((ag T kA k).length : Nat) = v1) := hide Ar
   clear Ae hx x1 x2 Ab
   go_upto_region 8 with fail
   refine aK (by assumption) (by kernel_rfl) (by kernel_rfl) (by kernel_rfl) (by kernel_rfl) ?_
   dsimp only [List.dropLast, List.getLast, List.cons_append, List.nil_append]
   repeat (go_big_quiet_step (fail))
   refine wpQuiet_nil ?_
   rintro _ ⟨nq, rfl⟩
   have hd := ah wr2 nq
   have hO := HO.out.keep (hd.block _ HO.out.lt)
   have co := hO.get (aY Ah)
   have zo := hO.frz x
   have Ad := hO.set x (.int .i64 v1)
   rw [fC Ah] at Ad
   have Az : bq < g := by rw [← HG.out]; exact HX.out.lt
   have AF : bq ≤ g := by omega
   have Ac : Below g W ((wr2.drewN nq).setCell ⟨g, x, none⟩ (.int .i64 v1)) := (HBr.out.trans (hd.mono (by have := HO.out.lt; omega))).setCell (p := ⟨g, x, none⟩) (Nat.le_refl _) _
   have At : Below bq w ((wr2.drewN nq).setCell ⟨g, x, none⟩ (.int .i64 v1)) := by rw [← Aa.out]; exact HB.out.trans (Ac.mono (by rw [Aa.out]; exact AF))
   have Ae := HX.out.keep (Ac.block _ Az)
   have c7 := Ae.get (i := 7) rfl
   have cf := (HI.out.f.keep (At.block _ (by rw [← Aa.out]; exact HI.out.f.lt))).get (dy HL.out)
   have AH := Ad.get (aY Ah)
   have AQ := Ad.frz x
   rw [aL] at AH
   obtain ⟨v2, AG⟩ : ∃ v2, IntKind.i64.wrap (v1 + 1) = v2 := ⟨_, rfl⟩
   have AK : Hid (aE v1 = v2) := hide AG
   have An := Ad.set x (.int .i64 v2)
   rw [fC Ah] at An
   have Af := Ac.setCell (p := ⟨g, x, none⟩) (Nat.le_refl _) (.int .i64 v2)
   have AI := hide Ad
   have AC := hide An
   have AB := hide Ac
   have Ag := hide Af
   clear hd hO Ad An Ac Af At Ae HO HBr HBw cx c4 cr Ak Ar
   cases hfm : bI T F k with
   | true =>
    rw [hfm] at cf
    have HT : Hid (gi T F k f x = aA (aA f x v1) x v2) := hide (by unfold gi; rw [hfm, HV.out, if_pos rfl, AK.out]; exact upd_twice.symm)
    clear hfm
    go_wp2_with fail
    go_roundw
    case rel => exact ⟨j + 1, by omega, by go_num, hide (by rw [HS.out, HT.out]; exact AC.out), Ag⟩
    case measure => simp [intOf]; omega
   | false =>
    rw [hfm] at cf
    have HT : Hid (gi T F k f x = aA f x v1) := hide (by unfold gi; rw [hfm, HV.out]; rfl)
    clear hfm
    go_wp2_with fail
    go_roundw
    case rel => exact ⟨j + 1, by omega, by go_num, hide (by rw [HS.out, HT.out]; exact AI.out), AB⟩
    case measure => simp [intOf]; omega
  have AE : l.take j = l := List.take_of_length_le (by omega)
  rw [AE] at HO
  go_wp2_with fail
  go_roundw
  case rel => exact ⟨k + 1, by have := HL.out; omega, by go_num, hide (by rw [Al.out]; exact HO.out), HBr⟩
  case measure => have := HL.out; simp [intOf]; omega
 have AJ : k = n := by omega
 subst AJ
 go_wp2_with fail
 go_ret
 exact ⟨g, rfl, HO.out, by rw [← HG.out]; exact HB.out.size, by rw [Aa.out]; exact HBw.out⟩
set_option maxRecDepth 100000
set_option maxHeartbeats 12800000
theorem rg {w : World} {N n K rv s k : Nat} {S : Nat → Prop} {T : Th} {F : List Int} {fa ra ba : Option Addr} {fc rc bc : Nat} {p : Int} (hpf : Pf T F n) (hta : TA N w T fa fc ra rc ba bc) (hlv : LL S (ao T) n rv w) (k2 : w.cell? ⟨K, 2, none⟩ = some (.slice ra T.rules.length rc)) (k6 : w.cell? ⟨K, 6, none⟩ = some (sl rv n)) (hs : s < T.rules.length) (hp : (ao T (aj T s))[k]? = some p) :
    Calls Tryz.prog 209 #[aa K, .int .i64 p, .int .i64 s] w fun o w' => o = .returned (.int .i64 k) ∧ ∃ m, w' = w.drewN m := by
 obtain ⟨x, hx, Ac, Ae, Af⟩ := fd hpf hs
 obtain ⟨gr, go, bd, bp, er, -, -, x1, -, -, -, -⟩ := dG hta.rules hx
 rw [er] at k2
 obtain ⟨hm, Ab⟩ := Int.eq_ofNat_of_zero_le Ae
 have Aa : hm < n := by omega
 rw [Ac, Ab] at hp
 rw [Ab] at x1
 obtain ⟨la, lc, cl, hA⟩ := hlv.at Aa
 have CF := hide fun d : Nat => qC (w := w.drewN d) (c := lc) (show At1 (w.drewN d) la _ from hA) (by have := cU hpf Aa; omega) (j4 hpf Aa) p hp
 have Ag : T.rules.length ≤ 4096 := hpf.ok.rl
 clear hpf hta hlv hx Ac Ab hA er Ae Af hp
 obtain ⟨ln, Ad⟩ : ∃ ln, (ao T (hm : Int)).length = ln := ⟨_, rfl⟩
 rw [Ad] at cl CF
 clear Ad
 go_enter Tryz.func209, Tryz.ntmps209
 go_upto_region 1 with fail
 go_quiet ((go_at_call 140; exact Calls.quiet_of_same (CF.out _)))
 go_wp2_with fail
 go_ret
 exact ⟨rfl, _, rfl⟩
theorem vL {l : List Int} : madeCells #[.int .i64 0, .bool false] (l.length * 2) = (bR l (fun _ => 0) fun _ => false).toArray := by
 apply Array.ext'
 show (madeCells _ _).toList = _
 apply List.ext_getElem?
 intro i
 have hl : (bR l (fun _ => (0 : Int)) fun _ => false).length = l.length * 2 := wh
 by_cases hi : i < l.length * 2
 ·obtain ⟨p, hp⟩ := am (l := l) (i := i / 2) (by omega)
  have h2 := fI (d := fun _ => (0 : Int)) (b := fun _ => false) hp
  have h1 : (madeCells #[Value.int .i64 0, .bool false] (l.length * 2)).toList[i]? = some ((#[Value.int .i64 0, .bool false])[i % 2]!) := by
   unfold madeCells
   simp [hi]
  rw [h1]
  rcases Nat.mod_two_eq_zero_or_one i with e | e
  ·have : i = i / 2 * 2 := by omega
   rw [e]
   conv => rhs; rw [this]
   exact h2.1.symm
  have : i = i / 2 * 2 + 1 := by omega
  rw [e]
  conv => rhs; rw [this]
  exact h2.2.symm
 rw [List.getElem?_eq_none (by simp [madeCells]; omega), List.getElem?_eq_none (by simp [hl]; omega)]
theorem yL : (Tryz.prog.info? 231).map (fun i => (i.zero, i.size, i.bytes)) = some (some (.agg #[.int .i64 0, .bool false]), 2, 16) := by kernel_rfl
theorem yH : (Tryz.prog.info? 229).map (fun i => (i.zero, i.size, i.bytes)) = some (some (.slice none 0 0), 1, 24) := by kernel_rfl
structure Cz (base cl : Nat) (cr : Nat → Nat) (T : Th) (k : Nat) (d : Int → Int → Int) (w : World) : Prop where
 fx : Fx cl 229 ((List.range T.rules.length).map fun s : Nat => if s < k then sl (cr s) (ao T (aj T s)).length else .slice none 0 0) w
 cs : ∀ s, s < k → Fx (cr s) 231 (bR (ao T (aj T s)) (d s) fun _ => false) w
 lo : base ≤ cl ∧ ∀ s, s < k → base ≤ cr s
 inj : ∀ s t, s < k → t < k → cr s = cr t → s = t
section
variable {base cl k : Nat} {cr : Nat → Nat} {T : Th} {d : Int → Int → Int} {w w' : World}
theorem Cz.go (h : Cz base cl cr T k d w) (hb : Below w.heap.size w w') : Cz base cl cr T k d w' := ⟨h.fx.keep (hb.block _ h.fx.lt), fun s hs => (h.cs s hs).keep (hb.block _ (h.cs s hs).lt), h.lo, h.inj⟩
theorem Cz.add (h : Cz base cl cr T k (fun _ _ => 0) w) (hk : k < T.rules.length) (hb : base ≤ w.heap.size) : Cz base cl (fun s => if s = k then w.heap.size else cr s) T (k + 1) (fun _ _ => 0) ((w.alloc (.cells (bR (ao T (aj T k)) (fun _ => 0) fun _ => false).toArray 231)).setCell ⟨cl, k, none⟩ (sl w.heap.size (ao T (aj T k)).length)) := by
 have hg := h.go (ae w (.cells (bR (ao T (aj T k)) (fun _ => 0) fun _ => false).toArray 231))
 have Aa : Fx w.heap.size 231 (bR (ao T (aj T k)) (fun _ => 0) fun _ => false) (w.alloc (.cells (bR (ao T (aj T k)) (fun _ => 0) fun _ => false).toArray 231)) := heap_alloc_new _ _
 refine ⟨?_, fun s hs => ?_, ⟨h.lo.1, fun s hs => ?_⟩, fun s t hs ht => ?_⟩
 ·have h2 := hg.fx.set k (sl w.heap.size (ao T (aj T k)).length)
  have e : ((List.range T.rules.length).map fun s : Nat => if s < k then sl (cr s) (ao T (aj T s)).length else .slice none 0 0).set k (sl w.heap.size (ao T (aj T k)).length) = (List.range T.rules.length).map fun s : Nat => if s < k + 1 then sl (if s = k then w.heap.size else cr s) (ao T (aj T s)).length else .slice none 0 0 := by
   apply List.ext_getElem?
   intro s
   rw [List.getElem?_set, List.getElem?_map, List.getElem?_map, List.length_map, List.length_range]
   by_cases e : k = s
   ·subst e
    rw [if_pos rfl, if_pos hk, List.getElem?_range hk]
    simp
   rw [if_neg e]
   by_cases hs : s < T.rules.length
   ·rw [List.getElem?_range hs]
    simp only [Option.map_some]
    rw [if_neg (show ¬ s = k from fun x => e x.symm)]
    by_cases h3 : s < k
    ·rw [if_pos h3, if_pos (by omega)]
    rw [if_neg h3, if_neg (by omega)]
   rw [List.getElem?_eq_none (by simpa using hs)]; rfl
  rw [e] at h2
  exact h2
 ·by_cases e : s = k
  ·subst e
   simp only [if_true]
   exact Aa.keep (other_set (an Aa hg.fx (by decide)))
  simp only [if_neg e]
  have := hg.cs s (by omega)
  exact this.keep (other_set (an this hg.fx (by decide)))
 ·by_cases e : s = k
  ·simp only [if_pos e]; exact hb
  simp only [if_neg e]; exact h.lo.2 s (by omega)
 have hl : ∀ s, s < k → cr s < w.heap.size := fun s hs => (h.cs s hs).lt
 by_cases es : s = k
 ·by_cases et : t = k
  ·intro _; omega
  simp only [if_pos es, if_neg et]; intro e; have := hl t (by omega); omega
 by_cases et : t = k
 ·simp only [if_neg es, if_pos et]; intro e; have := hl s (by omega); omega
 simp only [if_neg es, if_neg et]; exact h.inj s t (by omega) (by omega)
def jA (h : Int) (d : Int → Int → Int) (s : Int) : Int → Int → Int := aA d s (aA (d s) h (aE (d s h)))
def fK (T : Th) (k : Nat) : Int → Int → Int := (List.range k).foldl (fun d (r : Nat) => if bT T r then (row T.beats r).foldl (jA (aj T r)) d else d) fun _ _ => 0
theorem mP {k : Nat} : fK T (k + 1) = if bT T k then (row T.beats k).foldl (jA (aj T k)) (fK T k) else fK T k := by
 unfold fK
 rw [List.range_succ, List.foldl_append]
 rfl
theorem Cz.setD {R : Nat} (h : Cz base cl cr T R d w) {s p : Nat} (hs : s < R) {x : Int} (hp : (ao T (aj T s))[p]? = some x) (hn : (ao T (aj T s)).Nodup) (v : Int) : Cz base cl cr T R (aA d s (aA (d s) x v)) (w.setCell ⟨cr s, p * 2, none⟩ (.int .i64 v)) := by
 refine ⟨h.fx.keep (other_set (an h.fx (h.cs s hs) (by decide))), fun t ht => ?_, h.lo, h.inj⟩
 by_cases e : t = s
 ·subst e
  have := (h.cs t ht).set (p * 2) (.int .i64 v)
  rw [pa hp hn] at this
  rw [aL]
  exact this
 rw [aS (by omega)]
 exact (h.cs t ht).keep (other_set fun e2 => e (h.inj t s ht hs e2))
end
section
variable {T : Th} {F : List Int} {n : Nat}
theorem uE (h : Pf T F n) {r : Nat} (hr : r < T.rules.length) {l : List Int} (e : row T.beats (r : Int) = l) : l.length ≤ 4096 := by
 have Ag := h.ok.bl
 obtain ⟨l2, hl⟩ := am (l := T.beats) (i := r) (by omega)
 have er : row T.beats (r : Int) = l2 := bn (by rw [Int.toNat_natCast]; exact hl)
 obtain ⟨Ab, Af⟩ := h.ok.beat r l2 hl
 obtain ⟨Aa, Ac⟩ := bS (by omega) Ab
 have Ae := h.ok.rl
 have Ad : l2.length ≤ T.rules.length := by
  have h2 : (l2.map Int.toNat).Nodup := i6 (eJ Ac) fun x hx y hy hxy => by have := (Aa x hx).1; have := (Aa y hy).1; omega
  have := gM (N := T.rules.length) h2 fun k hk => by
   obtain ⟨x, hx, rfl⟩ := List.mem_map.1 hk
   have := Aa x hx
   omega
  simpa using this
 rw [← e, er]
 omega
end
theorem oI {w : World} {T : Th} {F : List Int} {n rl tm rv fm : Nat} {fa ra ba : Option Addr} {fc rc bc : Nat} (h : Ix w T F n rl tm rv fm fa ra ba fc rc bc) (hp : Pf T F n) :
    Calls Tryz.prog 177 #[.agg (cW T fa ra ba fc rc bc rl tm rv fm n).toArray] w fun o w' => ∃ cl cr, o = .returned (sl cl T.rules.length) ∧ Cz w.heap.size cl cr T T.rules.length (fK T T.rules.length) w' ∧ Below w.heap.size w w' := by
 obtain ⟨iC, AH, AV, AW, AZ⟩ := info_parts yL
 obtain ⟨iS, AK, Be, AI, AY⟩ := info_parts yH
 have BH := hp.n4
 have BK : T.rules.length ≤ 4096 := hp.ok.rl
 have Bb : ∀ W, (Instr.makeSlice 179 (.int .i64 T.rules.length) (.int .i64 T.rules.length)).run Tryz.prog W = .ok (sl W.heap.size T.rules.length) (W.alloc (.cells (Array.replicate T.rules.length (.slice none 0 0)) 229)) := fun W => aH (P := Tryz.prog) Tryz.underlying179 AK Be AI rfl T.rules.length (by rw [AY]; omega) (by unfold maxLen; omega) W
 have AL : ∀ (l : List Int) W, l.length ≤ 64 → (Instr.makeSlice 229 (.int .i64 l.length) (.int .i64 l.length)).run Tryz.prog W = .ok (sl W.heap.size l.length) (W.alloc (.cells (bR l (fun _ => 0) fun _ => false).toArray 231)) := fun l W hl => by
  have := run_make (P := Tryz.prog) W 229 231 iC _ Tryz.underlying229 AH AV .i64 .i64 l.length l.length (by omega) (Int.le_refl _) (by rw [AZ]; omega) (by omega)
  rw [AW, Int.toNat_natCast] at this
  rw [this, show (Value.agg #[.int .i64 0, .bool false]).cells = #[.int .i64 0, .bool false] from rfl, vL]
 have Bw := hide AL
 have AG := ae w (.cells (cW T fa ra ba fc rc bc rl tm rv fm n).toArray 176)
 have AE : Fx w.heap.size 176 (cW T fa ra ba fc rc bc rl tm rv fm n) (w.alloc (.cells (cW T fa ra ba fc rc bc rl tm rv fm n).toArray 176)) := by unfold Fx; rw [heap_alloc_new]
 have HP := hide hp
 have HI := hide h
 have HB := hide AG
 have HX := hide AE
 have c2 := AE.get (i := 2) rfl
 clear h hp AG AE AH AV AW AZ AK Be AI AY AL
 have BE : Tryz.prog.follows .mixedOrders = true := by kernel_rfl
 go_enter Tryz.func177, Tryz.ntmps177
 go_upto_region 1 with fail
 obtain ⟨W, hW⟩ : ∃ W, w.alloc (.cells (cW T fa ra ba fc rc bc rl tm rv fm n).toArray 176) = W := ⟨_, rfl⟩
 obtain ⟨bq, AC⟩ : ∃ bq, w.heap.size = bq := ⟨_, rfl⟩
 have Ad := hide AC
 rw [hW] at HB HX c2 ⊢
 rw [AC] at HX c2 ⊢
 clear hW AC
 have AB := ae W (.cells (Array.replicate T.rules.length (.slice none 0 0)) 229)
 have Al : Cz W.heap.size W.heap.size (fun _ => 0) T 0 (fun _ _ => 0) (W.alloc (.cells (Array.replicate T.rules.length (.slice none 0 0)) 229)) := by
  refine ⟨?_, fun s hs => by omega, ⟨Nat.le_refl _, fun s hs => by omega⟩, fun s t hs => by omega⟩
  unfold Fx
  rw [heap_alloc_new]
  simp only [Nat.not_lt_zero, if_false]
  rw [List.map_const', List.length_range, List.toArray_replicate]
 have Ag := hide Al
 have c2' := (HX.out.keep (AB.block _ HX.out.lt)).get (i := 2) rfl
 have Am := hide AB
 clear Al AB
 have Bx := Bb W
 clear Bb
 go_upto_region 2 with fail
 obtain ⟨W2, AM⟩ : ∃ W2, W.alloc (.cells (Array.replicate T.rules.length (.slice none 0 0)) 229) = W2 := ⟨_, rfl⟩
 obtain ⟨g, hg⟩ : ∃ g, W.heap.size = g := ⟨_, rfl⟩
 have HG := hide hg
 rw [AM] at Am Ag c2' ⊢
 rw [hg] at Ag ⊢
 have AS : Hid (Below g W W2) := hide (by rw [← HG.out]; exact Am.out)
 have Ap : Hid (∀ X, Below g W X → Below bq w X) := hide fun X hX => by
  have e : bq ≤ g := by have := HB.out.size; rw [Ad.out, HG.out] at this; exact this
  rw [← Ad.out]
  exact HB.out.trans (hX.mono (by rw [Ad.out]; exact e))
 have Ar : Hid (∀ X, Below g W X → Fx bq 176 (cW T fa ra ba fc rc bc rl tm rv fm n) X) := hide fun X hX => HX.out.keep (hX.block _ (by rw [← HG.out]; exact HX.out.lt))
 have Ax : Hid (∀ X, Below g W X → TA bq X T fa fc ra rc ba bc) := hide fun X hX => by
  have := TR.keep (Ap.out X hX).block (by rw [← Ad.out]; exact HI.out.ta)
  exact this
 have Ba : Hid (∀ X, Below g W X → LL (fun k => k < bq) (ao T) n rv X) := hide fun X hX => by
  have := HI.out.v.keep (w' := X) fun j hj => (Ap.out X hX).block j (by rw [← Ad.out]; exact hj)
  rw [Ad.out] at this
  exact this
 clear AM hg Bx Am
 go_wp2_with fail
 clear c2 c2'
 go_loopw [19] (fun x wr => ∃ (k : Nat) (cr : Nat → Nat), k ≤ T.rules.length ∧ x = .int .i64 k ∧ Hid (Cz g g cr T k (fun _ _ => 0) wr) ∧ Hid (Below g W wr)) (fun x _ => T.rules.length - (intOf x).toNat)
 case atStart => exact ⟨0, _, by omega, rfl, Ag, AS⟩
 clear Ag AS
 obtain ⟨k, cr, hk, rfl, HC, HBr⟩ := hrel
 by_cases hlt : k < T.rules.length
 ·obtain ⟨r, hr⟩ := am hlt
  obtain ⟨h0, h1⟩ := HP.out.head r (List.mem_of_getElem? hr)
  obtain ⟨hm, Ae⟩ := Int.eq_ofNat_of_zero_le h0
  have Ai : hm < n := by omega
  have Ak : aj T k = (hm : Int) := by unfold aj; rw [Int.toNat_natCast, hr]; exact Ae
  obtain ⟨gr, go, bd, bp, rfl, Ay, x0, x1, x2, -, Br, Ah⟩ := dG (Ax.out wr HBr.out).rules hr
  rw [Ae] at x1
  have Af := ae wr (.cells #[.int .i64 r.kind, .int .i64 hm, .slice bd r.body.length bp] 114)
  have HQ : Hid (Fx wr.heap.size 114 [.int .i64 r.kind, .int .i64 hm, .slice bd r.body.length bp] (wr.alloc (.cells #[.int .i64 r.kind, .int .i64 hm, .slice bd r.body.length bp] 114))) := hide (heap_alloc_new wr _)
  have HCq := hide (HC.out.go Af)
  have Ab : g ≤ wr.heap.size := by have := HBr.out.size; rw [HG.out] at this; exact this
  have HBq := hide (HBr.out.trans (Af.mono Ab))
  have Aq : g ≤ (wr.alloc (.cells #[.int .i64 r.kind, .int .i64 hm, .slice bd r.body.length bp] 114)).heap.size := by simp; omega
  have Aw := hide Ak
  have HL := hide hlt
  clear hr h0 h1 Ae Af Ah HC HBr Ay Ak Ab
  go_upto_region 5 with fail
  clear x0 x1 x2
  generalize wr.alloc (.cells #[.int .i64 r.kind, .int .i64 hm, .slice bd r.body.length bp] 114) = wq at *
  obtain ⟨qr, Aj⟩ : ∃ qr, wr.heap.size = qr := ⟨_, rfl⟩
  rw [Aj] at HQ ⊢
  clear Aj
  have q1 := HQ.out.get (i := 1) rfl
  have c6 := (Ar.out wq HBq.out).get (i := 6) rfl
  obtain ⟨la, lc, cl, -⟩ := (Ba.out wq HBq.out).at Ai
  have Bo := Bw.out (ao T hm) wq (cU HP.out Ai)
  have AP := cU HP.out Ai
  have At := HCq.out.add HL.out Aq
  rw [Aw.out] at At
  have AA := ae wq (.cells (bR (ao T hm) (fun _ => 0) fun _ => false).toArray 231)
  have Az := HCq.out.go AA
  have co := Az.fx.get (i := k) (by rw [List.getElem?_map, List.getElem?_range HL.out]; rfl)
  have zo := Az.fx.frz k
  have HA := hide At
  have HBn : Hid (Below g W ((wq.alloc (.cells (bR (ao T hm) (fun _ => 0) fun _ => false).toArray 231)).setCell ⟨g, k, none⟩ (sl wq.heap.size (ao T hm).length))) := hide ((HBq.out.trans (AA.mono Aq)).setCell (p := ⟨g, k, none⟩) (Nat.le_refl _) _)
  obtain ⟨ln, As⟩ : ∃ ln, (ao T hm).length = ln := ⟨_, rfl⟩
  rw [As] at cl Bo AP HA HBn
  clear At Az AA As hlt HCq HBq
  go_wp2_with fail
  go_roundw
  case rel => exact ⟨k + 1, _, by have := HL.out; omega, by go_num, HA, HBn⟩
  case measure => have := HL.out; simp [intOf]; omega
 have Av : k = T.rules.length := by omega
 have AO : Hid (Cz g g cr T T.rules.length (fK T 0) wr) := hide (by rw [← Av]; exact HC.out)
 have c2 := (Ar.out wr HBr.out).get (i := 2) rfl
 have HBs := hide HBr.out
 clear HC HBr Av
 go_wp2_with fail
 clear c2
 go_loopw [40] (fun x wr => ∃ k : Nat, k ≤ T.rules.length ∧ x = .int .i64 k ∧ Hid (Cz g g cr T T.rules.length (fK T k) wr) ∧ Hid (Below g W wr)) (fun x _ => T.rules.length - (intOf x).toNat)
 case atStart => exact ⟨0, by omega, rfl, AO, HBs⟩
 clear AO HBs
 rename World => wr2
 obtain ⟨k, hk, rfl, HC, HBr⟩ := hrel
 by_cases hlt : k < T.rules.length
 ·obtain ⟨r, hr⟩ := am hlt
  obtain ⟨h0, h1⟩ := HP.out.head r (List.mem_of_getElem? hr)
  obtain ⟨hm, Ae⟩ := Int.eq_ofNat_of_zero_le h0
  have Ai : hm < n := by omega
  have Ak : aj T k = (hm : Int) := by unfold aj; rw [Int.toNat_natCast, hr]; exact Ae
  have AT : bT T k = !decide (r.kind = 3) := by unfold bT; rw [Int.toNat_natCast, hr]; rfl
  obtain ⟨gr, go, bd, bp, rfl, Ay, x0, x1, x2, -, Br, Ah⟩ := dG (Ax.out wr2 HBr.out).rules hr
  rw [Ae] at x1
  have Af := ae wr2 (.cells #[.int .i64 r.kind, .int .i64 hm, .slice bd r.body.length bp] 114)
  have HQ : Hid (Fx wr2.heap.size 114 [.int .i64 r.kind, .int .i64 hm, .slice bd r.body.length bp] (wr2.alloc (.cells #[.int .i64 r.kind, .int .i64 hm, .slice bd r.body.length bp] 114))) := hide (heap_alloc_new wr2 _)
  have HCq := hide (HC.out.go Af)
  have Ab : g ≤ wr2.heap.size := by have := HBr.out.size; rw [HG.out] at this; exact this
  have HBq := hide (HBr.out.trans (Af.mono Ab))
  have Aq : g ≤ (wr2.alloc (.cells #[.int .i64 r.kind, .int .i64 hm, .slice bd r.body.length bp] 114)).heap.size := by simp; omega
  have AX := hide Aq
  have Aw := hide Ak
  have AF := hide AT
  have HL := hide hlt
  clear hr h0 h1 Ae Af Ah HC HBr Ay Ak Ab Aq AT
  go_upto_region 10 with fail
  clear x0 x1 x2
  generalize wr2.alloc (.cells #[.int .i64 r.kind, .int .i64 hm, .slice bd r.body.length bp] 114) = wq at *
  obtain ⟨qr, Aj⟩ : ∃ qr, wr2.heap.size = qr := ⟨_, rfl⟩
  rw [Aj] at HQ ⊢
  clear Aj
  have q0 := HQ.out.get (i := 0) rfl
  have q1 := HQ.out.get (i := 1) rfl
  have q2 := HQ.out.get (i := 2) rfl
  have CT := hide (fh (w := wq) (k := r.kind) (h := (hm : Int)) (v := .slice bd r.body.length bp))
  cases htk : decide (r.kind = 3) with
  | true =>
   have HT : Hid (fK T (k + 1) = fK T k) := hide (by rw [mP, AF.out, htk]; rfl)
   rw [htk] at CT
   clear htk
   go_wp2_with (go_at_call 176; refine CT.out.mono ?_; rintro _ w3 ⟨rfl, hb⟩; have Ac := hide hb; clear hb)
   go_roundw
   case rel => exact ⟨k + 1, by have := HL.out; omega, by go_num, hide (by rw [HT.out]; exact HCq.out.go Ac.out), hide (HBq.out.trans (Ac.out.mono AX.out))⟩
   case measure => have := HL.out; simp [intOf]; omega
  | false =>
   have BF := HP.out.ok.bl
   obtain ⟨l, hl⟩ := am (l := T.beats) (i := k) (by have := HL.out; omega)
   have er : row T.beats (k : Int) = l := bn (by rw [Int.toNat_natCast]; exact hl)
   have HT : Hid (fK T (k + 1) = l.foldl (jA hm) (fK T k)) := hide (by rw [mP, AF.out, htk, er, Aw.out]; rfl)
   have Bj : Hid (bT T k = true) := hide (by rw [AF.out, htk]; rfl)
   rw [htk] at CT
   have AD : Hid (∀ X, Below g W X → ∃ g2 o2 a2 c2, ba = some ⟨g2, o2, none⟩ ∧ g2 < bq ∧ X.cell? ⟨g2, o2 + k, none⟩ = some (.slice a2 l.length c2) ∧ At1 X a2 (aq l)) := hide fun X hX => by
    obtain ⟨g2, o2, a2, c2, e1, Bd, hc, -, -, hI⟩ := bH (Ax.out X hX).beats hl
    exact ⟨g2, o2, a2, c2, e1, Bd, hc, hI.at1⟩
   have Bq : Hid (∀ x ∈ l, ∃ s : Nat, x = (s : Int) ∧ s < T.rules.length ∧ (hm : Int) ∈ ao T (aj T s)) := hide fun x hx => by
    obtain ⟨Bg, Bh⟩ := HP.out.ok.beat k l hl
    obtain ⟨Bu, -⟩ := bS (by omega) Bg
    obtain ⟨s0, s1⟩ := Bu x hx
    obtain ⟨s, rfl⟩ := Int.eq_ofNat_of_zero_le (show 0 ≤ x by omega)
    refine ⟨s, rfl, by omega, ?_⟩
    rw [← Aw.out]
    exact ip HP.out HL.out Bj.out (Bh _ hx)
   have AP : l.length ≤ 4096 := uE HP.out HL.out er
   obtain ⟨g2, o2, a2, Bz, rfl, Bd, cb, Bv⟩ := AD.out wq HBq.out
   have An := Ar.out wq HBq.out
   have BD : k < T.beats.length := by have := HL.out; omega
   clear htk hl er Bv
   go_upto_region 11 with (go_at_call 176; refine CT.out.mono ?_; rintro _ w3 ⟨rfl, hb⟩; have Ac := hide hb; clear hb)
   have Au := hide (HBq.out.trans (Ac.out.mono AX.out))
   have AJ := hide (HCq.out.go Ac.out)
   have Bc := hide (HQ.out.keep (Ac.out.block _ HQ.out.lt))
   have AR : w3.cell? ⟨g2, o2 + k, none⟩ = some (.slice a2 l.length Bz) := (World.cell?_of_block (Ac.out.block _ (World.block_lt_of_cell? wq _ cb))).trans cb
   have c3 := (Ar.out w3 Au.out).get (i := 3) rfl
   have Bt : Hid (∀ X, Below g W X → At1 X a2 (aq l)) := hide fun X hX => by
    obtain ⟨g3, o3, a3, BI, e3, AU, Bm, Bs⟩ := AD.out X hX
    cases e3
    have e4 : w3.cell? ⟨g2, o2 + k, none⟩ = X.cell? ⟨g2, o2 + k, none⟩ := (World.cell?_of_block ((Ap.out w3 Au.out).block g2 AU)).trans (World.cell?_of_block ((Ap.out X hX).block g2 AU)).symm
    rw [AR, Bm] at e4
    cases e4
    exact Bs
   clear HBq HCq Ac HQ CT cb An q0 q1 q2 AD
   go_wp2_with fail
   clear c3 AR
   go_loopw [55] (fun x wr => ∃ j : Nat, j ≤ l.length ∧ x = .int .i64 j ∧ Hid (Cz g g cr T T.rules.length ((l.take j).foldl (jA hm) (fK T k)) wr) ∧ Hid (Below g W wr) ∧ Hid (Fx qr 114 [.int .i64 r.kind, .int .i64 hm, .slice bd r.body.length bp] wr)) (fun x _ => l.length - (intOf x).toNat)
   case atStart => exact ⟨0, by omega, rfl, AJ, Au, Bc⟩
   clear AJ Au Bc
   rename World => wr3
   obtain ⟨j, hj, rfl, HC, HBr, HQ⟩ := hrel
   by_cases hjl : j < l.length
   ·obtain ⟨s0, hs⟩ := am hjl
    obtain ⟨s, rfl, Aa, AQ⟩ := Bq.out s0 (List.mem_of_getElem? hs)
    obtain ⟨gx, ox, rfl, cx⟩ := (Bt.out wr3 HBr.out).get hs
    have HS : Hid ((l.take (j + 1)).foldl (jA hm) (fK T k) = jA hm ((l.take j).foldl (jA hm) (fK T k)) s) := hide (by rw [bD hs, List.foldl_append]; rfl)
    generalize (l.take j).foldl (jA hm) (fK T k) = d at HC HS
    obtain ⟨p, hp⟩ := List.mem_iff_getElem?.1 AQ
    have BA := (List.getElem?_eq_some_iff.1 hp).1
    have AN := lq HP.out Aa
    have c1 := HC.out.fx.get (i := s) (v := sl (cr s) (ao T (aj T s)).length) (by rw [List.getElem?_map, List.getElem?_range Aa]; simp only [Option.map_some]; rw [if_pos Aa])
    have Bi : (ao T (aj T s)).length ≤ 64 := by
     obtain ⟨x, -, BB, Bn, BJ⟩ := fd HP.out Aa
     obtain ⟨BG, Bf⟩ := Int.eq_ofNat_of_zero_le Bn
     rw [BB, Bf]
     exact cU HP.out (by omega)
    have q1 := HQ.out.get (i := 1) rfl
    have An := Ar.out wr3 HBr.out
    have CP := hide fun d : Nat => rg (w := wr3.drewN d) HP.out (Ax.out _ (HBr.out.trans ((ah wr3 d).mono (Nat.le_trans (by rw [HG.out]; exact Nat.le_refl _) HBr.out.size)))) (Ba.out _ (HBr.out.trans ((ah wr3 d).mono (Nat.le_trans (by rw [HG.out]; exact Nat.le_refl _) HBr.out.size)))) (show (wr3.drewN d).cell? ⟨bq, 2, none⟩ = _ from An.get (i := 2) rfl) (show (wr3.drewN d).cell? ⟨bq, 6, none⟩ = _ from An.get (i := 6) rfl) Aa hp
    have cv := (HC.out.cs s Aa).get (fI hp).1
    obtain ⟨v1, Bp⟩ : ∃ v1, IntKind.i64.wrap (d s hm + 1) = v1 := ⟨_, rfl⟩
    have HV : Hid (aE (d s hm) = v1) := hide Bp
    have HPp := hide hp
    have By := hide AN
    have BC : ∀ z, z = s → s < T.rules.length := fun _ _ => Aa
    obtain ⟨ln, As⟩ : ∃ ln, (ao T (aj T s)).length = ln := ⟨_, rfl⟩
    rw [As] at c1 BA Bi
    clear hs AQ An hp AN As BC
    go_upto_region 14 with fail
    refine aK (by assumption) (by kernel_rfl) (by kernel_rfl) (by kernel_rfl) (by kernel_rfl) ?_
    dsimp only [List.dropLast, List.getLast, List.cons_append, List.nil_append]
    repeat (go_big_quiet_step ((go_at_call 209; exact Calls.quiet_of (CP.out _))))
    refine wpQuiet_nil ?_
    rintro _ ⟨nq, rfl⟩
    have hd := ah wr3 nq
    have Ab : g ≤ wr3.heap.size := by have := HBr.out.size; rw [HG.out] at this; exact this
    have Ao := HC.out.go hd
    have Al := Ao.setD Aa HPp.out By.out v1
    have cv := (Ao.cs s Aa).get (fI HPp.out).1
    have zv := (Ao.cs s Aa).frz (p * 2)
    have Ag : Hid (Cz g g cr T T.rules.length (jA hm d s) ((wr3.drewN nq).setCell ⟨cr s, p * 2, none⟩ (.int .i64 v1))) := hide (by unfold jA; rw [HV.out]; exact Al)
    have Am := hide ((HBr.out.trans (hd.mono Ab)).setCell (p := ⟨cr s, p * 2, none⟩) (HC.out.lo.2 s Aa) (.int .i64 v1))
    have Bl := hide ((HQ.out.keep (hd.block _ HQ.out.lt)).keep (w' := (wr3.drewN nq).setCell ⟨cr s, p * 2, none⟩ (.int .i64 v1)) (other_set (an (HQ.out.keep (hd.block _ HQ.out.lt)) (Ao.cs s Aa) (by decide))))
    clear Ao Al hd HC HBr HQ cx c1 q1 CP Ab
    go_wp2_with fail
    go_roundw
    case rel => exact ⟨j + 1, by omega, by go_num, hide (by rw [HS.out]; exact Ag.out), Am, Bl⟩
    case measure => simp [intOf]; omega
   have Bk : l.take j = l := List.take_of_length_le (by omega)
   rw [Bk] at HC
   go_wp2_with fail
   go_roundw
   case rel => exact ⟨k + 1, by have := HL.out; omega, by go_num, hide (by rw [HT.out]; exact HC.out), HBr⟩
   case measure => have := HL.out; simp [intOf]; omega
 have Av : k = T.rules.length := by omega
 subst Av
 go_wp2_with fail
 go_ret
 refine ⟨g, cr, rfl, ?_, by rw [Ad.out]; exact Ap.out _ HBr.out⟩
 have e : w.heap.size ≤ g := by rw [← HG.out]; exact HB.out.size
 exact ⟨HC.out.fx, HC.out.cs, ⟨e, fun s hs => Nat.le_trans e (HC.out.lo.2 s hs)⟩, HC.out.inj⟩
structure HM (m base : Nat) (sb : Nat → Nat) (n : Nat) (H : Nat → List (List Int)) (vs : Nat → List Value) (w : World) : Prop where
 ln : ∀ c, c < m → (H c).length = n
 vl : ∀ c, c < m → (vs c).length = n
 fx : ∀ c, c < m → Fx (sb c) 26 (vs c) w
 lo : ∀ c, c < m → base ≤ sb c
 ne : ∀ c d, c < m → d < m → c ≠ d → sb c ≠ sb d
 own : ∀ c (i : Nat) l v, c < m → (H c)[i]? = some l → (vs c)[i]? = some v → w.ownsRow base 3 1 v l.length (aq l)
 apart : ∀ c d (i j : Nat) v u g, c < m → d < m → (vs c)[i]? = some v → (vs d)[j]? = some u → v.ownBlock = some g → u.ownBlock = some g → c = d ∧ i = j
section
variable {m base n : Nat} {sb : Nat → Nat} {H : Nat → List (List Int)} {vs : Nat → List Value} {w w' : World}
theorem HM.go (h : HM m base sb n H vs w) (hb : Below w.heap.size w w') : HM m base sb n H vs w' :=
 ⟨h.ln, h.vl, fun c hc => (h.fx c hc).keep (hb.block _ (h.fx c hc).lt), h.lo, h.ne, fun c i l v hc h1 h2 => owns_keep (h.own c i l v hc h1 h2) fun g hg => hb.block g (ax (h.own c i l v hc h1 h2) hg), h.apart⟩
theorem HM.at (h : HM m base sb n H vs w) {c i : Nat} (hc : c < m) (hi : i < n) : ∃ l a k, (H c)[i]? = some l ∧ (vs c)[i]? = some (.slice a l.length k) ∧ w.cell? ⟨sb c, i, none⟩ = some (.slice a l.length k) ∧ w.ownsRow base 3 1 (.slice a l.length k) l.length (aq l) := by
 obtain ⟨l, h1⟩ := am (l := H c) (i := i) (by rw [h.ln c hc]; exact hi)
 obtain ⟨v, h2⟩ := am (l := vs c) (i := i) (by rw [h.vl c hc]; exact hi)
 have ho := h.own c i _ _ hc h1 h2
 obtain ⟨a, k, e⟩ := bf ho
 rw [e] at ho h2
 exact ⟨l, a, k, h1, h2, (h.fx c hc).get h2, ho⟩
theorem HM.add (h : HM m base sb n H vs w) {c i : Nat} (hc : c < m) {l : List Int} {v : Value} (hi : (H c)[i]? = some l) (hv : (vs c)[i]? = some v) {x : Int} {g4 cap4 : Nat} (hnew : w'.ownsRow base 3 1 (.slice (some ⟨g4, 0, none⟩) (l.length + 1) cap4) (l.length + 1) (aq l ++ [.int .i64 x]))
    (hold : ∀ k, k < w.heap.size → v.ownBlock ≠ some k → w'.heap[k]? = w.heap[k]?) (hg : v.ownBlock = some g4 ∨ w.heap.size ≤ g4) :
    HM m base sb n (up H c ((H c).set i (l ++ [x]))) (up vs c ((vs c).set i (.slice (some ⟨g4, 0, none⟩) (l.length + 1) cap4))) (w'.setCell ⟨sb c, i, none⟩ (.slice (some ⟨g4, 0, none⟩) (l.length + 1) cap4)) := by
 have Ae := h.own c i l v hc hi hv
 have Ac : i < n := by rw [← h.ln c hc]; exact (List.getElem?_eq_some_iff.1 hi).1
 have Ad : ∀ d, d < m → Fx (sb d) 26 (vs d) w' := fun d hd => (h.fx d hd).keep (hold _ (h.fx d hd).lt (au Ae (h.fx d hd) (by decide)))
 have key : ∀ (d j : Nat) (u : Value) (q : Nat), d < m → ¬ (d = c ∧ j = i) → (vs d)[j]? = some u → u.ownBlock = some q → q ≠ g4 := by
  intro d j u q hd Ab hu hq e
  subst e
  have hm : j < (H d).length := by rw [h.ln d hd, ← h.vl d hd]; exact (List.getElem?_eq_some_iff.1 hu).1
  have ho := h.own d j _ u hd (List.getElem?_eq_getElem hm) hu
  rcases hg with hg | hg
  ·exact Ab (h.apart d c j i u v _ hd hc hu hv hq hg)
  have := ax ho hq; omega
 refine ⟨fun d hd => ?_, fun d hd => ?_, fun d hd => ?_, h.lo, h.ne, fun d j l2 u hd h1 h2 => ?_, fun d e j k a b g hd he h1 h2 h3 h4 => ?_⟩
 ·by_cases e : d = c
  ·subst e; rw [bZ, List.length_set]; exact h.ln d hd
  rw [bw e]; exact h.ln d hd
 ·by_cases e : d = c
  ·subst e; rw [bZ, List.length_set]; exact h.vl d hd
  rw [bw e]; exact h.vl d hd
 ·by_cases e : d = c
  ·subst e; rw [bZ]; exact (Ad d hd).set i _
  rw [bw e]; exact (Ad d hd).keep (other_set (h.ne d c hd hc e))
 ·have old : ∀ (Ab : ¬ (d = c ∧ j = i)), (H d)[j]? = some l2 → (vs d)[j]? = some u → (w'.setCell ⟨sb c, i, none⟩ (.slice (some ⟨g4, 0, none⟩) (l.length + 1) cap4)).ownsRow base 3 1 u l2.length (aq l2) := fun Ab a b => by
   have ho := h.own d j l2 u hd a b
   refine owns_keep ho fun g hgu => ?_
   rw [other_set fun (e2 : g = sb c) => au ho (h.fx c hc) (by decide) (e2 ▸ hgu)]
   exact hold g (ax ho hgu) fun e2 => Ab (h.apart d c j i u v g hd hc b hv hgu e2)
  by_cases e : d = c
  ·subst e
   rw [bZ] at h1 h2
   by_cases e2 : i = j
   ·subst e2
    rw [List.getElem?_set_self (by rw [h.ln d hd]; exact Ac)] at h1
    rw [List.getElem?_set_self (by rw [h.vl d hd]; exact Ac)] at h2
    cases h1
    cases h2
    rw [List.length_append, cX]
    exact owns_keep hnew fun g e => other_set fun e2 => au hnew (Ad d hd) (by decide) (e2 ▸ e)
   rw [List.getElem?_set_ne e2] at h1 h2
   exact old (fun x => e2 x.2.symm) h1 h2
  rw [bw e] at h1 h2
  exact old (fun x => e x.1) h1 h2
 have Aa : ∀ (d j : Nat) (a : Value), (up vs c ((vs c).set i (.slice (some ⟨g4, 0, none⟩) (l.length + 1) cap4)) d)[j]? = some a → (d = c ∧ j = i ∧ a = .slice (some ⟨g4, 0, none⟩) (l.length + 1) cap4) ∨ (¬ (d = c ∧ j = i) ∧ (vs d)[j]? = some a) := by
  intro d j a ha
  by_cases e1 : d = c
  ·subst e1
   rw [bZ] at ha
   by_cases e2 : i = j
   ·subst e2
    rw [List.getElem?_set_self (by rw [h.vl d hc]; exact Ac)] at ha
    exact .inl ⟨rfl, rfl, by cases ha; rfl⟩
   rw [List.getElem?_set_ne e2] at ha
   exact .inr ⟨fun x => e2 x.2.symm, ha⟩
  rw [bw e1] at ha
  exact .inr ⟨fun x => e1 x.1, ha⟩
 rcases Aa d j a h1 with ⟨a1, a2, a3⟩ | ⟨a1, a2⟩
 ·rcases Aa e k b h2 with ⟨b1, b2, b3⟩ | ⟨b1, b2⟩
  ·exact ⟨a1.trans b1.symm, a2.trans b2.symm⟩
  subst a3
  have : g4 = g := by simpa [Value.ownBlock] using h3
  exact absurd this.symm (key e k b g he b1 b2 h4)
 rcases Aa e k b h2 with ⟨b1, b2, b3⟩ | ⟨b1, b2⟩
 ·subst b3
  have : g4 = g := by simpa [Value.ownBlock] using h4
  exact absurd this.symm (key d j a g hd a1 a2 h3)
 exact h.apart d e j k a b g hd he a2 b2 h3 h4
end
abbrev rR (us ms rr op n R : Nat) : List Value := [sl us n, sl ms R, sl rr R, sl op n]
structure Nw (base q us ms rr op n R : Nat) (fm fo : Int → Int) (H : Nat → List (List Int)) (vs : Nat → List Value) (w : World) : Prop where
 bx : Fx q 178 (rR us ms rr op n R) w
 fm : Fx ms 3 (bO R fm) w
 fr : Fx rr 4 (cq R fun _ => false) w
 fo : Fx op 3 (bO n fo) w
 h3 : HM 1 base (fun _ => us) n H vs w
 lo : base ≤ q ∧ base ≤ ms ∧ base ≤ rr ∧ base ≤ op
 ne : ms ≠ op
 na : ∀ (i : Nat) v, (vs 0)[i]? = some v → v.ownBlock ≠ some ms ∧ v.ownBlock ≠ some op
section
variable {base q us ms rr op n R : Nat} {fm fo : Int → Int} {H : Nat → List (List Int)} {vs : Nat → List Value} {w w' : World}
theorem Nw.go (h : Nw base q us ms rr op n R fm fo H vs w) (hb : Below w.heap.size w w') : Nw base q us ms rr op n R fm fo H vs w' := ⟨h.bx.keep (hb.block _ h.bx.lt), h.fm.keep (hb.block _ h.fm.lt), h.fr.keep (hb.block _ h.fr.lt), h.fo.keep (hb.block _ h.fo.lt), h.h3.go hb, h.lo, h.ne, h.na⟩
theorem HM.setN {m : Nat} {sb : Nat → Nat} (h : HM m base sb n H vs w) {g i t : Nat} {cs : List Value} {v : Value} (hg : Fx g t cs w) (h1 : t ≠ 26) (hn : ∀ (c i : Nat) (u : Value), c < m → (vs c)[i]? = some u → u.ownBlock ≠ some g) : HM m base sb n H vs (w.setCell ⟨g, i, none⟩ v) :=
 ⟨h.ln, h.vl, fun c hc => (h.fx c hc).keep (other_set (an (h.fx c hc) hg (Ne.symm h1))), h.lo, h.ne, fun c i l v hc a b => owns_keep (h.own c i l v hc a b) fun _ hk => other_set fun e => hn c i v hc b (e ▸ hk), h.apart⟩
theorem Nw.setM (h : Nw base q us ms rr op n R fm fo H vs w) {i : Nat} (hi : i < R) (v : Int) : Nw base q us ms rr op n R (aA fm i v) fo H vs (w.setCell ⟨ms, i, none⟩ (.int .i64 v)) :=
 ⟨h.bx.keep (other_set (an h.bx h.fm (by decide))), by have := h.fm.set i (.int .i64 v); rw [fC hi] at this; exact this, h.fr.keep (other_set (an h.fr h.fm (by decide))), h.fo.keep (other_set (Ne.symm h.ne)), h.h3.setN h.fm (by decide) fun c i u hc hu => (h.na i u ((show c = 0 by omega) ▸ hu)).1, h.lo, h.ne, h.na⟩
theorem Nw.setO (h : Nw base q us ms rr op n R fm fo H vs w) {i : Nat} (hi : i < n) (v : Int) : Nw base q us ms rr op n R fm (aA fo i v) H vs (w.setCell ⟨op, i, none⟩ (.int .i64 v)) :=
 ⟨h.bx.keep (other_set (an h.bx h.fo (by decide))), h.fm.keep (other_set h.ne), h.fr.keep (other_set (an h.fr h.fo (by decide))), by have := h.fo.set i (.int .i64 v); rw [fC hi] at this; exact this, h.h3.setN h.fo (by decide) fun c i u hc hu => (h.na i u ((show c = 0 by omega) ▸ hu)).2, h.lo, h.ne, h.na⟩
theorem Nw.add (h : Nw base q us ms rr op n R fm fo H vs w) {c i : Nat} (hc : c < 1) {l : List Int} {v : Value} (hi : (H c)[i]? = some l) (hv : (vs c)[i]? = some v) {x : Int} {g4 cap4 : Nat} (hnew : w'.ownsRow base 3 1 (.slice (some ⟨g4, 0, none⟩) (l.length + 1) cap4) (l.length + 1) (aq l ++ [.int .i64 x]))
    (hold : ∀ k, k < w.heap.size → v.ownBlock ≠ some k → w'.heap[k]? = w.heap[k]?) (hg : v.ownBlock = some g4 ∨ w.heap.size ≤ g4) :
    Nw base q us ms rr op n R fm fo (up H c ((H c).set i (l ++ [x]))) (up vs c ((vs c).set i (.slice (some ⟨g4, 0, none⟩) (l.length + 1) cap4))) (w'.setCell ⟨us, i, none⟩ (.slice (some ⟨g4, 0, none⟩) (l.length + 1) cap4)) := by
 have Ab := h.h3.own c i l v hc hi hv
 have h0 : c = 0 := by omega
 subst h0
 have Aa := h.na i v hv
 have hu := h.h3.fx 0 hc
 refine ⟨(h.bx.keep (hold _ h.bx.lt (au Ab h.bx (by decide)))).keep (other_set (an h.bx hu (by decide))), (h.fm.keep (hold _ h.fm.lt Aa.1)).keep (other_set (an h.fm hu (by decide))), (h.fr.keep (hold _ h.fr.lt (au Ab h.fr (by decide)))).keep (other_set (an h.fr hu (by decide))), (h.fo.keep (hold _ h.fo.lt Aa.2)).keep (other_set (an h.fo hu (by decide))), h.h3.add hc hi hv hnew hold hg, h.lo, h.ne, fun j u hu2 => ?_⟩
 rw [bZ] at hu2
 by_cases e : i = j
 ·subst e
  have Ac : i < (vs 0).length := (List.getElem?_eq_some_iff.1 hv).1
  rw [List.getElem?_set_self Ac] at hu2
  cases hu2
  have key : ∀ k, k < w.heap.size → v.ownBlock ≠ some k → Value.ownBlock (.slice (some ⟨g4, 0, none⟩) (l.length + 1) cap4) ≠ some k := fun k hk hn e2 => by
   have e3 : g4 = k := by simpa [Value.ownBlock] using e2
   subst e3
   rcases hg with hg | hg
   ·exact hn hg
   omega
  exact ⟨key _ h.fm.lt Aa.1, key _ h.fo.lt Aa.2⟩
 rw [List.getElem?_set_ne e] at hu2
 exact h.na j u hu2
end
theorem Nw.far {base base' q us ms rr op n R : Nat} {fm fo : Int → Int} {H : Nat → List (List Int)} {vs : Nat → List Value} {w w' : World} (h : Nw base q us ms rr op n R fm fo H vs w) (hk : ∀ g, base ≤ g → g < w.heap.size → w'.heap[g]? = w.heap[g]?) (hb : base' ≤ base) : Nw base' q us ms rr op n R fm fo H vs w' :=
 ⟨h.bx.keep (hk _ h.lo.1 h.bx.lt), h.fm.keep (hk _ h.lo.2.1 h.fm.lt), h.fr.keep (hk _ h.lo.2.2.1 h.fr.lt), h.fo.keep (hk _ h.lo.2.2.2 h.fo.lt), ⟨h.h3.ln, h.h3.vl, fun c hc => (h.h3.fx c hc).keep (hk _ (h.h3.lo c hc) (h.h3.fx c hc).lt), fun c hc => Nat.le_trans hb (h.h3.lo c hc), h.h3.ne, fun c i l v hc h1 h2 => aI (owns_keep (h.h3.own c i l v hc h1 h2) fun g hg => hk g ((h.h3.own c i l v hc h1 h2).lt g hg).1 ((h.h3.own c i l v hc h1 h2).lt g hg).2) hb, h.h3.apart⟩, ⟨Nat.le_trans hb h.lo.1, Nat.le_trans hb h.lo.2.1, Nat.le_trans hb h.lo.2.2.1, Nat.le_trans hb h.lo.2.2.2⟩, h.ne, h.na⟩
theorem vm {base n us : Nat} {w : World} (h1 : Fx us 26 (List.replicate n (.slice none 0 0)) w) (lo : base ≤ us) : HM 1 base (fun _ => us) n (fun _ => List.replicate n []) (fun _ => List.replicate n (.slice none 0 0)) w := by
 refine ⟨fun c _ => by simp, fun c _ => by simp, fun _ _ => h1, fun _ _ => lo, fun c d hc hd hne => absurd (show c = d by omega) hne, fun c i l v _ a b => ?_, fun c d i j v u g _ _ a b e => ?_⟩
 ·rw [List.getElem?_replicate] at a b
  split at a
  ·rename_i hi
   rw [if_pos hi] at b
   cases a
   cases b
   exact ⟨rfl, .inl ⟨rfl, rfl⟩⟩
  cases a
 rw [List.getElem?_replicate] at a
 split at a
 ·cases a; cases e
 cases a
theorem qd {l : List Int} (h : l.Nodup) {j : Nat} {x : Int} (hx : l[j]? = some x) : ¬ x ∈ l.take j := by
 intro hm
 obtain ⟨i, hi⟩ := List.mem_iff_getElem?.1 hm
 rw [List.getElem?_take] at hi
 split at hi
 ·rename_i hij
  have h1 := List.getElem?_eq_some_iff.1 hi
  have h2 := List.getElem?_eq_some_iff.1 hx
  obtain ⟨a1, a2⟩ := h1
  obtain ⟨b1, b2⟩ := h2
  exact List.pairwise_iff_getElem.1 h i j a1 b1 hij (a2.trans b2.symm)
 cases hi
def fi (T : Th) (p : RuleM → Bool) (k : Nat) : Int → Int := (List.range k).foldl (fun f (r : Nat) => if aR T p r then aA f r ((az T r).length : Nat) else f) fun _ => 0
def opK (T : Th) (p : RuleM → Bool) (k : Nat) : Int → Int := (List.range k).foldl (fun f (r : Nat) => if aR T p r then aA f (aj T r) (aE (f (aj T r))) else f) fun _ => 0
def eh (T : Th) (p : RuleM → Bool) (f : Int → Int) (k : Nat) : Int → Int := (List.range k).foldl (fun f (r : Nat) => if aR T p r && (az T r).isEmpty then aA f (aj T r) 0 else f) f
section
variable {T : Th} {p : RuleM → Bool} {k : Nat} {f : Int → Int}
theorem mr : fi T p (k + 1) = if aR T p k then aA (fi T p k) k ((az T k).length : Nat) else fi T p k := by
 unfold fi
 rw [List.range_succ, List.foldl_append]
 rfl
theorem jX : opK T p (k + 1) = if aR T p k then aA (opK T p k) (aj T k) (aE (opK T p k (aj T k))) else opK T p k := by
 unfold opK
 rw [List.range_succ, List.foldl_append]
 rfl
theorem j6 : eh T p f (k + 1) = if aR T p k && (az T k).isEmpty then aA (eh T p f k) (aj T k) 0 else eh T p f k := by
 unfold eh
 rw [List.range_succ, List.foldl_append]
 rfl
structure Gu (T : Th) (p : RuleM → Bool) (n k j : Nat) (H : Nat → List (List Int)) : Prop where
 u : ∀ z : Nat, z < n → (H 0).getD z [] = dN T p k z ++ if (z : Int) ∈ (az T k).take j then [(k : Int)] else []
 ln : (H 0).length = n
theorem po {z : Int} : dN T p (k + 1) z = dN T p k z ++ if kg T p z k then [(k : Int)] else [] := by
 unfold dN
 rw [List.range_succ, List.filter_append, List.map_append]
 congr 1
 by_cases h : kg T p z k
 ·rw [if_pos h, List.filter_cons_of_pos h]; rfl
 rw [if_neg h, List.filter_cons_of_neg h]; rfl
theorem vD {z : Int} : (dN T p k z).length ≤ k := by
 unfold dN
 rw [List.length_map]
 exact Nat.le_trans (List.length_filter_le _ _) (by simp)
variable {n j : Nat} {H : Nat → List (List Int)} {r : RuleM} {l : List Int}
theorem Gu.start : Gu T p n 0 0 fun _ => List.replicate n [] := ⟨fun z _ => by rw [nT]; simp [dN], by simp⟩
theorem Gu.none (h : Gu T p n k 0 H) (hr : T.rules[k]? = some r) (hp : p r = false) : Gu T p n (k + 1) 0 H := by
 refine ⟨fun z hz => ?_, h.ln⟩
 rw [h.u z hz, po]
 have : kg T p z k = false := by unfold kg; rw [hr]; simp [hp]
 simp [this]
theorem Gu.next (h : Gu T p n k j H) (hr : T.rules[k]? = some r) (hp : p r = true) (hj : r.body.length ≤ j) : Gu T p n (k + 1) 0 H := by
 refine ⟨fun z hz => ?_, h.ln⟩
 have hb : az T k = r.body := by unfold az; rw [Int.toNat_natCast, hr]; rfl
 rw [h.u z hz, po, hb, List.take_of_length_le hj]
 have : kg T p z k = decide ((z : Int) ∈ r.body) := by unfold kg; rw [hr]; simp [hp]
 rw [this]
 simp
theorem Gu.add (h : Gu T p n k j H) (hr : T.rules[k]? = some r) (hn : r.body.Nodup) {x : Nat} (hx : r.body[j]? = some (x : Int)) (hxn : x < n) (hl : (H 0)[x]? = some l) : Gu T p n k (j + 1) (up H 0 ((H 0).set x (l ++ [(k : Int)]))) := by
 have Aa : x < (H 0).length := by rw [h.ln]; exact hxn
 have hb : az T k = r.body := by unfold az; rw [Int.toNat_natCast, hr]; rfl
 refine ⟨fun z hz => ?_, by rw [bZ, List.length_set]; exact h.ln⟩
 rw [cZ Aa, hb, bD hx]
 by_cases e : z = x
 ·subst e
  have h2 := h.u z hz
  rw [iD hl, hb, if_neg (qd hn hx)] at h2
  rw [if_pos ⟨rfl, rfl⟩, if_pos (by simp), h2, List.append_nil]
 rw [if_neg fun a => e a.2, h.u z hz, hb]
 have : ((z : Int) ∈ r.body.take j ++ [(x : Int)]) ↔ (z : Int) ∈ r.body.take j := by
  rw [List.mem_append, List.mem_singleton]
  exact ⟨fun a => a.resolve_right (by omega), .inl⟩
 simp only [this]
theorem Gu.len (h : Gu T p n k j H) (hk : k < 4096) {z : Nat} (hl : (H 0)[z]? = some l) : l.length ≤ 4096 := by
 have hz : z < n := by rw [← h.ln]; exact (List.getElem?_eq_some_iff.1 hl).1
 have h2 := h.u z hz
 rw [iD hl] at h2
 rw [h2, List.length_append]
 have := vD (T := T) (p := p) (k := k) (z := (z : Int))
 split <;> simp <;> omega
end
set_option maxRecDepth 100000
set_option maxHeartbeats 3200000
def xe (R : Nat) (ra : Option Addr) (rc : Nat) (T : Th) (bq n N : Nat) (i : Nat) (v : Value) (W : World) (lo hi : Nat) : Prop := match i with
 | 0 | 11 => v = aa bq
 | 1 | 12 => v = .int .i64 T.lits
 | 3 | 7 => v = .pointer (some ⟨bq, 2, none⟩)
 | 4 | 8 => v = .slice ra R rc
 | 5 | 9 => v = .int .i64 R
 | 2 => ∃ g, v = sl g n ∧ Fx g 26 (List.replicate n (.slice none 0 0)) W ∧ lo ≤ g ∧ g < hi ∧ N ≤ g
 | 6 => ∃ g, v = sl g R ∧ Fx g 3 (bO R fun _ => 0) W ∧ lo ≤ g ∧ g < hi ∧ N ≤ g
 | 10 => ∃ g, v = sl g R ∧ Fx g 4 (cq R fun _ => false) W ∧ lo ≤ g ∧ g < hi ∧ N ≤ g
 | 13 => ∃ g, v = sl g n ∧ Fx g 3 (bO n fun _ => 0) W ∧ lo ≤ g ∧ g < hi ∧ N ≤ g
 | 14 => ∃ g0 g1 g2 g3, v = .agg #[sl g0 n, sl g1 R, sl g2 R, sl g3 n] ∧ Fx g0 26 (List.replicate n (.slice none 0 0)) W ∧ Fx g1 3 (bO R fun _ => 0) W ∧ Fx g2 4 (cq R fun _ => false) W ∧ Fx g3 3 (bO n fun _ => 0) W ∧ (N ≤ g0 ∧ N ≤ g1 ∧ N ≤ g2 ∧ N ≤ g3) ∧ g1 ≠ g3
 | 15 => ∃ g xs, v = aa g ∧ Fx g 178 xs W ∧ xs.length = 4 ∧ N ≤ g
 | _ => True
theorem cN {R : Nat} {ra : Option Addr} {rc : Nat} {T : Th} {bq n N : Nat} : ∀ i v W W' lo hi, xe R ra rc T bq n N i v W lo hi → hi ≤ W.heap.size → Below W.heap.size W W' → xe R ra rc T bq n N i v W' lo hi := by
 intro i v W W' lo hi h hh hb
 have k : ∀ {g t : Nat} {xs : List Value}, Fx g t xs W → Fx g t xs W' := fun hf => hf.keep (hb.block _ hf.lt)
 unfold xe at *
 split at h
 all_goals first
  | exact h
  | (obtain ⟨g, a, b, c⟩ := h; exact ⟨g, a, k b, c⟩)
  | (obtain ⟨g0, g1, g2, g3, a, b, c, d, e, f⟩ := h; exact ⟨g0, g1, g2, g3, a, k b, k c, k d, k e, f⟩)
  | (obtain ⟨g, xs, a, b, c⟩ := h; exact ⟨g, xs, a, k b, c⟩)
  | trivial
def yP (R n : Nat) (W0 : World) (σ : Nat → Value) (W : World) : Prop := ∃ q us ms rr op, σ 7 = aa q ∧ Nw W0.heap.size q us ms rr op n R (fun _ => 0) (fun _ => 0) (fun _ => List.replicate n []) (fun _ => List.replicate n (.slice none 0 0)) W ∧ Below W0.heap.size W0 W
theorem yT {tmps : Array Value} {b : Nat} {Y : World} {t0 t1 t2 t3 : Value} (ht : tmps.getD 6 undef = .pointer (some ⟨b, 0, none⟩)) (h : Fx b 178 [t0, t1, t2, t3] Y) : (results Tryz.f173 tmps).run Tryz.prog Y = .ok (.agg #[t0, t1, t2, t3]) Y := by
 have r0 := h.get (i := 0) rfl
 have r1 := h.get (i := 1) rfl
 have r2 := h.get (i := 2) rfl
 have r3 := h.get (i := 3) rfl
 have Aa : tmps[6]?.getD undef = .pointer (some ⟨b, 0, none⟩) := by simpa [Array.getD_eq_getD_getElem?] using ht
 clear h ht
 simp [results, Tryz.results173, go_sem, Aa, r0, r1, r2, r3]
theorem tO {w : World} {k h : Int} {v : Value} : Calls Tryz.prog 175 #[.agg #[.int .i64 k, .int .i64 h, v]] w fun o w' => o = .returned (.bool true) ∧ Below w.heap.size w w' := by
 have HB := hide (ae w (.cells #[.int .i64 k, .int .i64 h, v] 114))
 go_enter Tryz.func175, Tryz.ntmps175
 go_wp2_with fail
 go_ret
 exact ⟨rfl, HB.out⟩
end Go.Proofs.YtmlhcncagdfjfaaGreat.Fa
