import Derived.Test.YthifoamnmhlghaaGreatNob
set_option maxRecDepth 100000
set_option maxHeartbeats 12800000
namespace Go.Proofs.YthifoamnmhlghaaGreat.Fa
open Go.RowKit Rg
theorem n7 {w : World} {N n K rv s k : Nat} {S : Nat → Prop} {T : Th} {F : List Int} {fa ra ba : Option Addr} {fc rc bc : Nat} {p : Int} (hpf : Pf T F n) (hta : TA N w T fa fc ra rc ba bc) (hlv : LL S (ak T) n rv w) (k2 : w.cell? ⟨K, 2, none⟩ = some (.slice ra T.rules.length rc)) (k6 : w.cell? ⟨K, 6, none⟩ = some (sl rv n)) (hs : s < T.rules.length) (hp : (ak T (ag T s))[k]? = some p) :
    Calls Tryz.prog 52 #[ae K, .int .i64 p, .int .i64 s] w fun o w' => o = .returned (.int .i64 k) ∧ ∃ m, w' = w.drewN m := by
 obtain ⟨x, hx, Ae, Ac, Af⟩ := cB hpf hs
 obtain ⟨gr, go, bd, bp, er, -, -, x1, -, -, -, -⟩ := dx hta.rules hx
 rw [er] at k2
 obtain ⟨hm, Aa⟩ := Int.eq_ofNat_of_zero_le Ac
 have Ab : hm < n := by omega
 rw [Ae, Aa] at hp
 rw [Aa] at x1
 obtain ⟨la, lc, cl, hA⟩ := hlv.at Ab
 have CF := hide fun d : Nat => nK (w := w.drewN d) (c := lc) (show At1 (w.drewN d) la _ from hA) (by have := cT hpf Ab; omega) (i6 hpf Ab) p hp
 have Ag : T.rules.length ≤ 4096 := hpf.ok.rl
 clear hpf hta hlv hx Ae Aa hA er Ac Af hp
 obtain ⟨ln, Ad⟩ : ∃ ln, (ak T (hm : Int)).length = ln := ⟨_, rfl⟩
 rw [Ad] at cl CF
 clear Ad
 go_enter Tryz.func52, Tryz.ntmps52
 go_upto_region 1 with fail
 go_quiet ((go_at_call 73; exact Calls.quiet_of_same (CF.out _)))
 go_wp2_with fail
 go_ret
 exact ⟨rfl, _, rfl⟩
theorem ru {l : List Int} : madeCells #[.int .i64 0, .bool false] (l.length * 2) = (bP l (fun _ => 0) fun _ => false).toArray := by
 apply Array.ext'
 show (madeCells _ _).toList = _
 apply List.ext_getElem?
 intro i
 have hl : (bP l (fun _ => (0 : Int)) fun _ => false).length = l.length * 2 := rE
 by_cases hi : i < l.length * 2
 · obtain ⟨p, hp⟩ := ap (l := l) (i := i / 2) (by omega)
   have h2 := eP (d := fun _ => (0 : Int)) (b := fun _ => false) hp
   have h1 : (madeCells #[Value.int .i64 0, .bool false] (l.length * 2)).toList[i]? = some ((#[Value.int .i64 0, .bool false])[i % 2]!) := by
    unfold madeCells
    simp [hi]
   rw [h1]
   rcases Nat.mod_two_eq_zero_or_one i with e | e
   · have : i = i / 2 * 2 := by omega
     rw [e]
     conv => rhs; rw [this]
     exact h2.1.symm
   · have : i = i / 2 * 2 + 1 := by omega
     rw [e]
     conv => rhs; rw [this]
     exact h2.2.symm
 · rw [List.getElem?_eq_none (by simp [madeCells]; omega), List.getElem?_eq_none (by simp [hl]; omega)]
theorem tI : (Tryz.prog.info? 91).map (fun i => (i.zero, i.size, i.bytes)) = some (some (.agg #[.int .i64 0, .bool false]), 2, 16) := by kernel_rfl
theorem tF : (Tryz.prog.info? 89).map (fun i => (i.zero, i.size, i.bytes)) = some (some (.slice none 0 0), 1, 24) := by kernel_rfl
structure Cz (base cl : Nat) (cr : Nat → Nat) (T : Th) (k : Nat) (d : Int → Int → Int) (w : World) : Prop where
 fx : Fx cl 89 ((List.range T.rules.length).map fun s : Nat => if s < k then sl (cr s) (ak T (ag T s)).length else .slice none 0 0) w
 cs : ∀ s, s < k → Fx (cr s) 91 (bP (ak T (ag T s)) (d s) fun _ => false) w
 lo : base ≤ cl ∧ ∀ s, s < k → base ≤ cr s
 inj : ∀ s t, s < k → t < k → cr s = cr t → s = t
section
variable {base cl k : Nat} {cr : Nat → Nat} {T : Th} {d : Int → Int → Int} {w w' : World}
theorem Cz.go (h : Cz base cl cr T k d w) (hb : Below w.heap.size w w') : Cz base cl cr T k d w' := ⟨h.fx.keep (hb.block _ h.fx.lt), fun s hs => (h.cs s hs).keep (hb.block _ (h.cs s hs).lt), h.lo, h.inj⟩
theorem Cz.add (h : Cz base cl cr T k (fun _ _ => 0) w) (hk : k < T.rules.length) (hb : base ≤ w.heap.size) : Cz base cl (fun s => if s = k then w.heap.size else cr s) T (k + 1) (fun _ _ => 0) ((w.alloc (.cells (bP (ak T (ag T k)) (fun _ => 0) fun _ => false).toArray 91)).setCell ⟨cl, k, none⟩ (sl w.heap.size (ak T (ag T k)).length)) := by
 have hg := h.go (aa w (.cells (bP (ak T (ag T k)) (fun _ => 0) fun _ => false).toArray 91))
 have Aa : Fx w.heap.size 91 (bP (ak T (ag T k)) (fun _ => 0) fun _ => false) (w.alloc (.cells (bP (ak T (ag T k)) (fun _ => 0) fun _ => false).toArray 91)) := heap_alloc_new _ _
 refine ⟨?_, fun s hs => ?_, ⟨h.lo.1, fun s hs => ?_⟩, fun s t hs ht => ?_⟩
 · have h2 := hg.fx.set k (sl w.heap.size (ak T (ag T k)).length)
   have e : ((List.range T.rules.length).map fun s : Nat => if s < k then sl (cr s) (ak T (ag T s)).length else .slice none 0 0).set k (sl w.heap.size (ak T (ag T k)).length) = (List.range T.rules.length).map fun s : Nat => if s < k + 1 then sl (if s = k then w.heap.size else cr s) (ak T (ag T s)).length else .slice none 0 0 := by
    apply List.ext_getElem?
    intro s
    rw [List.getElem?_set, List.getElem?_map, List.getElem?_map, List.length_map, List.length_range]
    by_cases e : k = s
    · subst e
      rw [if_pos rfl, if_pos hk, List.getElem?_range hk]
      simp
    · rw [if_neg e]
      by_cases hs : s < T.rules.length
      · rw [List.getElem?_range hs]
        simp only [Option.map_some]
        rw [if_neg (show ¬ s = k from fun x => e x.symm)]
        by_cases h3 : s < k
        · rw [if_pos h3, if_pos (by omega)]
        · rw [if_neg h3, if_neg (by omega)]
      · rw [List.getElem?_eq_none (by simpa using hs)]; rfl
   rw [e] at h2
   exact h2
 · by_cases e : s = k
   · subst e
     simp only [if_true]
     exact Aa.keep (other_set (am Aa hg.fx (by decide)))
   · simp only [if_neg e]
     have := hg.cs s (by omega)
     exact this.keep (other_set (am this hg.fx (by decide)))
 · by_cases e : s = k
   · simp only [if_pos e]; exact hb
   · simp only [if_neg e]; exact h.lo.2 s (by omega)
 · have hl : ∀ s, s < k → cr s < w.heap.size := fun s hs => (h.cs s hs).lt
   by_cases es : s = k
   · by_cases et : t = k
     · intro _; omega
     · simp only [if_pos es, if_neg et]; intro e; have := hl t (by omega); omega
   · by_cases et : t = k
     · simp only [if_neg es, if_pos et]; intro e; have := hl s (by omega); omega
     · simp only [if_neg es, if_neg et]; exact h.inj s t (by omega) (by omega)
def iw (h : Int) (d : Int → Int → Int) (s : Int) : Int → Int → Int := ar d s (ar (d s) h (aE (d s h)))
def eR (T : Th) (k : Nat) : Int → Int → Int := (List.range k).foldl (fun d (r : Nat) => if aO T r then (row T.beats r).foldl (iw (ag T r)) d else d) fun _ _ => 0
theorem kC {k : Nat} : eR T (k + 1) = if aO T k then (row T.beats k).foldl (iw (ag T k)) (eR T k) else eR T k := by
 unfold eR
 rw [List.range_succ, List.foldl_append]
 rfl
theorem Cz.setD {R : Nat} (h : Cz base cl cr T R d w) {s p : Nat} (hs : s < R) {x : Int} (hp : (ak T (ag T s))[p]? = some x) (hn : (ak T (ag T s)).Nodup) (v : Int) : Cz base cl cr T R (ar d s (ar (d s) x v)) (w.setCell ⟨cr s, p * 2, none⟩ (.int .i64 v)) := by
 refine ⟨h.fx.keep (other_set (am h.fx (h.cs s hs) (by decide))), fun t ht => ?_, h.lo, h.inj⟩
 by_cases e : t = s
 · subst e
   have := (h.cs t ht).set (p * 2) (.int .i64 v)
   rw [mn hp hn] at this
   rw [ay]
   exact this
 · rw [aw (by omega)]
   exact (h.cs t ht).keep (other_set fun e2 => e (h.inj t s ht hs e2))
end
section
variable {T : Th} {F : List Int} {n : Nat}
theorem pt (h : Pf T F n) {r : Nat} (hr : r < T.rules.length) {l : List Int} (e : row T.beats (r : Int) = l) : l.length ≤ 4096 := by
 have Ag := h.ok.bl
 obtain ⟨l2, hl⟩ := ap (l := T.beats) (i := r) (by omega)
 have er : row T.beats (r : Int) = l2 := bS (by rw [Int.toNat_natCast]; exact hl)
 obtain ⟨Ac, Ae⟩ := h.ok.beat r l2 hl
 obtain ⟨Aa, Ab⟩ := bG (by omega) Ac
 have Af := h.ok.rl
 have Ad : l2.length ≤ T.rules.length := by
  have h2 : (l2.map Int.toNat).Nodup := gZ (cq Ab) fun x hx y hy hxy => by have := (Aa x hx).1; have := (Aa y hy).1; omega
  have := fT (N := T.rules.length) h2 fun k hk => by
   obtain ⟨x, hx, rfl⟩ := List.mem_map.1 hk
   have := Aa x hx
   omega
  simpa using this
 rw [← e, er]
 omega
end
theorem lJ {w : World} {T : Th} {F : List Int} {n rl tm rv fm : Nat} {fa ra ba : Option Addr} {fc rc bc : Nat} (h : Ix w T F n rl tm rv fm fa ra ba fc rc bc) (hp : Pf T F n) :
    Calls Tryz.prog 32 #[.agg (du T fa ra ba fc rc bc rl tm rv fm n).toArray] w fun o w' => ∃ cl cr, o = .returned (sl cl T.rules.length) ∧ Cz w.heap.size cl cr T T.rules.length (eR T T.rules.length) w' ∧ Below w.heap.size w w' := by
 obtain ⟨iC, AJ, AY, AR, AQ⟩ := info_parts tI
 obtain ⟨iS, AG, AK, AH, Ba⟩ := info_parts tF
 have BI := hp.n4
 have BG : T.rules.length ≤ 4096 := hp.ok.rl
 have AL : ∀ W, (Instr.makeSlice 49 (.int .i64 T.rules.length) (.int .i64 T.rules.length)).run Tryz.prog W = .ok (sl W.heap.size T.rules.length) (W.alloc (.cells (Array.replicate T.rules.length (.slice none 0 0)) 89)) := fun W => aL (P := Tryz.prog) Tryz.underlying49 AG AK AH rfl T.rules.length (by rw [Ba]; omega) (by unfold maxLen; omega) W
 have AV : ∀ (l : List Int) W, l.length ≤ 64 → (Instr.makeSlice 89 (.int .i64 l.length) (.int .i64 l.length)).run Tryz.prog W = .ok (sl W.heap.size l.length) (W.alloc (.cells (bP l (fun _ => 0) fun _ => false).toArray 91)) := fun l W hl => by
  have := run_make (P := Tryz.prog) W 89 91 iC _ Tryz.underlying89 AJ AY .i64 .i64 l.length l.length (by omega) (Int.le_refl _) (by rw [AQ]; omega) (by omega)
  rw [AR, Int.toNat_natCast] at this
  rw [this, show (Value.agg #[.int .i64 0, .bool false]).cells = #[.int .i64 0, .bool false] from rfl, ru]
 have BC := hide AV
 have Bc := aa w (.cells (du T fa ra ba fc rc bc rl tm rv fm n).toArray 46)
 have AD : Fx w.heap.size 46 (du T fa ra ba fc rc bc rl tm rv fm n) (w.alloc (.cells (du T fa ra ba fc rc bc rl tm rv fm n).toArray 46)) := by unfold Fx; rw [heap_alloc_new]
 have HP := hide hp
 have HI := hide h
 have HB := hide Bc
 have HX := hide AD
 have c2 := AD.get (i := 2) rfl
 clear h hp Bc AD AJ AY AR AQ AG AK AH Ba AV
 have BF : Tryz.prog.follows .mixedOrders = true := by kernel_rfl
 go_enter Tryz.func32, Tryz.ntmps32
 go_upto_region 1 with fail
 obtain ⟨W, hW⟩ : ∃ W, w.alloc (.cells (du T fa ra ba fc rc bc rl tm rv fm n).toArray 46) = W := ⟨_, rfl⟩
 obtain ⟨bq, Az⟩ : ∃ bq, w.heap.size = bq := ⟨_, rfl⟩
 have Af := hide Az
 rw [hW] at HB HX c2 ⊢
 rw [Az] at HX c2 ⊢
 clear hW Az
 have AC := aa W (.cells (Array.replicate T.rules.length (.slice none 0 0)) 89)
 have Al : Cz W.heap.size W.heap.size (fun _ => 0) T 0 (fun _ _ => 0) (W.alloc (.cells (Array.replicate T.rules.length (.slice none 0 0)) 89)) := by
  refine ⟨?_, fun s hs => by omega, ⟨Nat.le_refl _, fun s hs => by omega⟩, fun s t hs => by omega⟩
  unfold Fx
  rw [heap_alloc_new]
  simp only [Nat.not_lt_zero, if_false]
  rw [List.map_const', List.length_range, List.toArray_replicate]
 have Ag := hide Al
 have c2' := (HX.out.keep (AC.block _ HX.out.lt)).get (i := 2) rfl
 have An := hide AC
 clear Al AC
 have Bk := AL W
 clear AL
 go_upto_region 2 with fail
 obtain ⟨W2, AZ⟩ : ∃ W2, W.alloc (.cells (Array.replicate T.rules.length (.slice none 0 0)) 89) = W2 := ⟨_, rfl⟩
 obtain ⟨g, hg⟩ : ∃ g, W.heap.size = g := ⟨_, rfl⟩
 have HG := hide hg
 rw [AZ] at An Ag c2' ⊢
 rw [hg] at Ag ⊢
 have AI : Hid (Below g W W2) := hide (by rw [← HG.out]; exact An.out)
 have Ao : Hid (∀ X, Below g W X → Below bq w X) := hide fun X hX => by
  have e : bq ≤ g := by have := HB.out.size; rw [Af.out, HG.out] at this; exact this
  rw [← Af.out]
  exact HB.out.trans (hX.mono (by rw [Af.out]; exact e))
 have Ak : Hid (∀ X, Below g W X → Fx bq 46 (du T fa ra ba fc rc bc rl tm rv fm n) X) := hide fun X hX => HX.out.keep (hX.block _ (by rw [← HG.out]; exact HX.out.lt))
 have Au : Hid (∀ X, Below g W X → TA bq X T fa fc ra rc ba bc) := hide fun X hX => by
  have := TR.keep (Ao.out X hX).block (by rw [← Af.out]; exact HI.out.ta)
  exact this
 have Bd : Hid (∀ X, Below g W X → LL (fun k => k < bq) (ak T) n rv X) := hide fun X hX => by
  have := HI.out.v.keep (w' := X) fun j hj => (Ao.out X hX).block j (by rw [← Af.out]; exact hj)
  rw [Af.out] at this
  exact this
 clear AZ hg Bk An
 go_wp2_with fail
 clear c2 c2'
 go_loopw [19] (fun x wr => ∃ (k : Nat) (cr : Nat → Nat), k ≤ T.rules.length ∧ x = .int .i64 k ∧ Hid (Cz g g cr T k (fun _ _ => 0) wr) ∧ Hid (Below g W wr)) (fun x _ => T.rules.length - (intOf x).toNat)
 case atStart => exact ⟨0, _, by omega, rfl, Ag, AI⟩
 case round =>
  clear Ag AI
  obtain ⟨k, cr, hk, rfl, HC, HBr⟩ := hrel
  by_cases hlt : k < T.rules.length
  · obtain ⟨r, hr⟩ := ap hlt
    obtain ⟨h0, h1⟩ := HP.out.head r (List.mem_of_getElem? hr)
    obtain ⟨hm, Ae⟩ := Int.eq_ofNat_of_zero_le h0
    have Ah : hm < n := by omega
    have As : ag T k = (hm : Int) := by unfold ag; rw [Int.toNat_natCast, hr]; exact Ae
    obtain ⟨gr, go, bd, bp, rfl, AA, x0, x1, x2, -, Bi, Ai⟩ := dx (Au.out wr HBr.out).rules hr
    rw [Ae] at x1
    have Ad := aa wr (.cells #[.int .i64 r.kind, .int .i64 hm, .slice bd r.body.length bp] 36)
    have HQ : Hid (Fx wr.heap.size 36 [.int .i64 r.kind, .int .i64 hm, .slice bd r.body.length bp] (wr.alloc (.cells #[.int .i64 r.kind, .int .i64 hm, .slice bd r.body.length bp] 36))) := hide (heap_alloc_new wr _)
    have HCq := hide (HC.out.go Ad)
    have Ab : g ≤ wr.heap.size := by have := HBr.out.size; rw [HG.out] at this; exact this
    have HBq := hide (HBr.out.trans (Ad.mono Ab))
    have Ap : g ≤ (wr.alloc (.cells #[.int .i64 r.kind, .int .i64 hm, .slice bd r.body.length bp] 36)).heap.size := by simp; omega
    have Av := hide As
    have HL := hide hlt
    clear hr h0 h1 Ae Ad Ai HC HBr AA As Ab
    go_upto_region 5 with fail
    clear x0 x1 x2
    generalize wr.alloc (.cells #[.int .i64 r.kind, .int .i64 hm, .slice bd r.body.length bp] 36) = wq at *
    obtain ⟨qr, Am⟩ : ∃ qr, wr.heap.size = qr := ⟨_, rfl⟩
    rw [Am] at HQ ⊢
    clear Am
    have q1 := HQ.out.get (i := 1) rfl
    have c6 := (Ak.out wq HBq.out).get (i := 6) rfl
    obtain ⟨la, lc, cl, -⟩ := (Bd.out wq HBq.out).at Ah
    have By := BC.out (ak T hm) wq (cT HP.out Ah)
    have AO := cT HP.out Ah
    have At := HCq.out.add HL.out Ap
    rw [Av.out] at At
    have Ay := aa wq (.cells (bP (ak T hm) (fun _ => 0) fun _ => false).toArray 91)
    have AF := HCq.out.go Ay
    have co := AF.fx.get (i := k) (by rw [List.getElem?_map, List.getElem?_range HL.out]; rfl)
    have zo := AF.fx.frz k
    have HA := hide At
    have HBn : Hid (Below g W ((wq.alloc (.cells (bP (ak T hm) (fun _ => 0) fun _ => false).toArray 91)).setCell ⟨g, k, none⟩ (sl wq.heap.size (ak T hm).length))) := hide ((HBq.out.trans (Ay.mono Ap)).setCell (p := ⟨g, k, none⟩) (Nat.le_refl _) _)
    obtain ⟨ln, Ar⟩ : ∃ ln, (ak T hm).length = ln := ⟨_, rfl⟩
    rw [Ar] at cl By AO HA HBn
    clear At AF Ay Ar hlt HCq HBq
    go_wp2_with fail
    go_roundw
    case rel => exact ⟨k + 1, _, by have := HL.out; omega, by go_num, HA, HBn⟩
    case measure => have := HL.out; simp [intOf]; omega
  · have Aw : k = T.rules.length := by omega
    have Be : Hid (Cz g g cr T T.rules.length (eR T 0) wr) := hide (by rw [← Aw]; exact HC.out)
    have c2 := (Ak.out wr HBr.out).get (i := 2) rfl
    have HBs := hide HBr.out
    clear HC HBr Aw
    go_wp2_with fail
    clear c2
    go_loopw [40] (fun x wr => ∃ k : Nat, k ≤ T.rules.length ∧ x = .int .i64 k ∧ Hid (Cz g g cr T T.rules.length (eR T k) wr) ∧ Hid (Below g W wr)) (fun x _ => T.rules.length - (intOf x).toNat)
    case atStart => exact ⟨0, by omega, rfl, Be, HBs⟩
    case round =>
     clear Be HBs
     rename World => wr2
     obtain ⟨k, hk, rfl, HC, HBr⟩ := hrel
     by_cases hlt : k < T.rules.length
     · obtain ⟨r, hr⟩ := ap hlt
       obtain ⟨h0, h1⟩ := HP.out.head r (List.mem_of_getElem? hr)
       obtain ⟨hm, Ae⟩ := Int.eq_ofNat_of_zero_le h0
       have Ah : hm < n := by omega
       have As : ag T k = (hm : Int) := by unfold ag; rw [Int.toNat_natCast, hr]; exact Ae
       have Bb : aO T k = !decide (r.kind = 3) := by unfold aO; rw [Int.toNat_natCast, hr]; rfl
       obtain ⟨gr, go, bd, bp, rfl, AA, x0, x1, x2, -, Bi, Ai⟩ := dx (Au.out wr2 HBr.out).rules hr
       rw [Ae] at x1
       have Ad := aa wr2 (.cells #[.int .i64 r.kind, .int .i64 hm, .slice bd r.body.length bp] 36)
       have HQ : Hid (Fx wr2.heap.size 36 [.int .i64 r.kind, .int .i64 hm, .slice bd r.body.length bp] (wr2.alloc (.cells #[.int .i64 r.kind, .int .i64 hm, .slice bd r.body.length bp] 36))) := hide (heap_alloc_new wr2 _)
       have HCq := hide (HC.out.go Ad)
       have Ab : g ≤ wr2.heap.size := by have := HBr.out.size; rw [HG.out] at this; exact this
       have HBq := hide (HBr.out.trans (Ad.mono Ab))
       have Ap : g ≤ (wr2.alloc (.cells #[.int .i64 r.kind, .int .i64 hm, .slice bd r.body.length bp] 36)).heap.size := by simp; omega
       have AN := hide Ap
       have Av := hide As
       have AE := hide Bb
       have HL := hide hlt
       clear hr h0 h1 Ae Ad Ai HC HBr AA As Ab Ap Bb
       go_upto_region 10 with fail
       clear x0 x1 x2
       generalize wr2.alloc (.cells #[.int .i64 r.kind, .int .i64 hm, .slice bd r.body.length bp] 36) = wq at *
       obtain ⟨qr, Am⟩ : ∃ qr, wr2.heap.size = qr := ⟨_, rfl⟩
       rw [Am] at HQ ⊢
       clear Am
       have q0 := HQ.out.get (i := 0) rfl
       have q1 := HQ.out.get (i := 1) rfl
       have q2 := HQ.out.get (i := 2) rfl
       have CT := hide (dL (w := wq) (k := r.kind) (h := (hm : Int)) (v := .slice bd r.body.length bp))
       cases htk : decide (r.kind = 3) with
       | true =>
        have HT : Hid (eR T (k + 1) = eR T k) := hide (by rw [kC, AE.out, htk]; rfl)
        rw [htk] at CT
        clear htk
        go_wp2_with (go_at_call 31; refine CT.out.mono ?_; rintro _ w3 ⟨rfl, hb⟩; have Ac := hide hb; clear hb)
        go_roundw
        case rel => exact ⟨k + 1, by have := HL.out; omega, by go_num, hide (by rw [HT.out]; exact HCq.out.go Ac.out), hide (HBq.out.trans (Ac.out.mono AN.out))⟩
        case measure => have := HL.out; simp [intOf]; omega
       | false =>
        have BD := HP.out.ok.bl
        obtain ⟨l, hl⟩ := ap (l := T.beats) (i := k) (by have := HL.out; omega)
        have er : row T.beats (k : Int) = l := bS (by rw [Int.toNat_natCast]; exact hl)
        have HT : Hid (eR T (k + 1) = l.foldl (iw hm) (eR T k)) := hide (by rw [kC, AE.out, htk, er, Av.out]; rfl)
        have BB : Hid (aO T k = true) := hide (by rw [AE.out, htk]; rfl)
        rw [htk] at CT
        have AB : Hid (∀ X, Below g W X → ∃ g2 o2 a2 c2, ba = some ⟨g2, o2, none⟩ ∧ g2 < bq ∧ X.cell? ⟨g2, o2 + k, none⟩ = some (.slice a2 l.length c2) ∧ At1 X a2 (av l)) := hide fun X hX => by
         obtain ⟨g2, o2, a2, c2, e1, AX, hc, -, -, hI⟩ := cg (Au.out X hX).beats hl
         exact ⟨g2, o2, a2, c2, e1, AX, hc, hI.at1⟩
        have Bw : Hid (∀ x ∈ l, ∃ s : Nat, x = (s : Int) ∧ s < T.rules.length ∧ (hm : Int) ∈ ak T (ag T s)) := hide fun x hx => by
         obtain ⟨Bv, Bj⟩ := HP.out.ok.beat k l hl
         obtain ⟨Bq, -⟩ := bG (by omega) Bv
         obtain ⟨s0, s1⟩ := Bq x hx
         obtain ⟨s, rfl⟩ := Int.eq_ofNat_of_zero_le (show 0 ≤ x by omega)
         refine ⟨s, rfl, by omega, ?_⟩
         rw [← Av.out]
         exact fi HP.out HL.out BB.out (Bj _ hx)
        have AO : l.length ≤ 4096 := pt HP.out HL.out er
        obtain ⟨g2, o2, a2, Bn, rfl, AX, cb, Br⟩ := AB.out wq HBq.out
        have Aj := Ak.out wq HBq.out
        have BE : k < T.beats.length := by have := HL.out; omega
        clear htk hl er Br
        go_upto_region 11 with (go_at_call 31; refine CT.out.mono ?_; rintro _ w3 ⟨rfl, hb⟩; have Ac := hide hb; clear hb)
        have Ax := hide (HBq.out.trans (Ac.out.mono AN.out))
        have AP := hide (HCq.out.go Ac.out)
        have AS := hide (HQ.out.keep (Ac.out.block _ HQ.out.lt))
        have AT : w3.cell? ⟨g2, o2 + k, none⟩ = some (.slice a2 l.length Bn) := (World.cell?_of_block (Ac.out.block _ (World.block_lt_of_cell? wq _ cb))).trans cb
        have c3 := (Ak.out w3 Ax.out).get (i := 3) rfl
        have Bz : Hid (∀ X, Below g W X → At1 X a2 (av l)) := hide fun X hX => by
         obtain ⟨g3, o3, a3, BK, e3, AU, BA, Bx⟩ := AB.out X hX
         cases e3
         have e4 : w3.cell? ⟨g2, o2 + k, none⟩ = X.cell? ⟨g2, o2 + k, none⟩ := (World.cell?_of_block ((Ao.out w3 Ax.out).block g2 AU)).trans (World.cell?_of_block ((Ao.out X hX).block g2 AU)).symm
         rw [AT, BA] at e4
         cases e4
         exact Bx
        clear HBq HCq Ac HQ CT cb Aj q0 q1 q2 AB
        go_wp2_with fail
        clear c3 AT
        go_loopw [55] (fun x wr => ∃ j : Nat, j ≤ l.length ∧ x = .int .i64 j ∧ Hid (Cz g g cr T T.rules.length ((l.take j).foldl (iw hm) (eR T k)) wr) ∧ Hid (Below g W wr) ∧ Hid (Fx qr 36 [.int .i64 r.kind, .int .i64 hm, .slice bd r.body.length bp] wr)) (fun x _ => l.length - (intOf x).toNat)
        case atStart => exact ⟨0, by omega, rfl, AP, Ax, AS⟩
        case round =>
         clear AP Ax AS
         rename World => wr3
         obtain ⟨j, hj, rfl, HC, HBr, HQ⟩ := hrel
         by_cases hjl : j < l.length
         · obtain ⟨s0, hs⟩ := ap hjl
           obtain ⟨s, rfl, Aa, AM⟩ := Bw.out s0 (List.mem_of_getElem? hs)
           obtain ⟨gx, ox, rfl, cx⟩ := (Bz.out wr3 HBr.out).get hs
           have HS : Hid ((l.take (j + 1)).foldl (iw hm) (eR T k) = iw hm ((l.take j).foldl (iw hm) (eR T k)) s) := hide (by rw [cP hs, List.foldl_append]; rfl)
           generalize (l.take j).foldl (iw hm) (eR T k) = d at HC HS
           obtain ⟨p, hp⟩ := List.mem_iff_getElem?.1 AM
           have Bo := (List.getElem?_eq_some_iff.1 hp).1
           have AW := ie HP.out Aa
           have c1 := HC.out.fx.get (i := s) (v := sl (cr s) (ak T (ag T s)).length) (by rw [List.getElem?_map, List.getElem?_range Aa]; simp only [Option.map_some]; rw [if_pos Aa])
           have Bu : (ak T (ag T s)).length ≤ 64 := by
            obtain ⟨x, -, Bg, Bp, BJ⟩ := cB HP.out Aa
            obtain ⟨BH, Bf⟩ := Int.eq_ofNat_of_zero_le Bp
            rw [Bg, Bf]
            exact cT HP.out (by omega)
           have q1 := HQ.out.get (i := 1) rfl
           have Aj := Ak.out wr3 HBr.out
           have CP := hide fun d : Nat => n7 (w := wr3.drewN d) HP.out (Au.out _ (HBr.out.trans ((au wr3 d).mono (Nat.le_trans (by rw [HG.out]; exact Nat.le_refl _) HBr.out.size)))) (Bd.out _ (HBr.out.trans ((au wr3 d).mono (Nat.le_trans (by rw [HG.out]; exact Nat.le_refl _) HBr.out.size)))) (show (wr3.drewN d).cell? ⟨bq, 2, none⟩ = _ from Aj.get (i := 2) rfl) (show (wr3.drewN d).cell? ⟨bq, 6, none⟩ = _ from Aj.get (i := 6) rfl) Aa hp
           have cv := (HC.out.cs s Aa).get (eP hp).1
           obtain ⟨v1, Bt⟩ : ∃ v1, IntKind.i64.wrap (d s hm + 1) = v1 := ⟨_, rfl⟩
           have HV : Hid (aE (d s hm) = v1) := hide Bt
           have HPp := hide hp
           have Bm := hide AW
           have Bs : ∀ z, z = s → s < T.rules.length := fun _ _ => Aa
           obtain ⟨ln, Ar⟩ : ∃ ln, (ak T (ag T s)).length = ln := ⟨_, rfl⟩
           rw [Ar] at c1 Bo Bu
           clear hs AM Aj hp AW Ar Bs
           go_upto_region 14 with fail
           refine aY (by assumption) (by kernel_rfl) (by kernel_rfl) (by kernel_rfl) (by kernel_rfl) ?_
           dsimp only [List.dropLast, List.getLast, List.cons_append, List.nil_append]
           repeat (go_big_quiet_step ((go_at_call 52; exact Calls.quiet_of (CP.out _))))
           refine wpQuiet_nil ?_
           rintro _ ⟨nq, rfl⟩
           have hd := au wr3 nq
           have Ab : g ≤ wr3.heap.size := by have := HBr.out.size; rw [HG.out] at this; exact this
           have Aq := HC.out.go hd
           have Al := Aq.setD Aa HPp.out Bm.out v1
           have cv := (Aq.cs s Aa).get (eP HPp.out).1
           have zv := (Aq.cs s Aa).frz (p * 2)
           have Ag : Hid (Cz g g cr T T.rules.length (iw hm d s) ((wr3.drewN nq).setCell ⟨cr s, p * 2, none⟩ (.int .i64 v1))) := hide (by unfold iw; rw [HV.out]; exact Al)
           have An := hide ((HBr.out.trans (hd.mono Ab)).setCell (p := ⟨cr s, p * 2, none⟩) (HC.out.lo.2 s Aa) (.int .i64 v1))
           have Bl := hide ((HQ.out.keep (hd.block _ HQ.out.lt)).keep (w' := (wr3.drewN nq).setCell ⟨cr s, p * 2, none⟩ (.int .i64 v1)) (other_set (am (HQ.out.keep (hd.block _ HQ.out.lt)) (Aq.cs s Aa) (by decide))))
           clear Aq Al hd HC HBr HQ cx c1 q1 CP Ab
           go_wp2_with fail
           go_roundw
           case rel => exact ⟨j + 1, by omega, by go_num, hide (by rw [HS.out]; exact Ag.out), An, Bl⟩
           case measure => simp [intOf]; omega
         · have Bh : l.take j = l := List.take_of_length_le (by omega)
           rw [Bh] at HC
           go_wp2_with fail
           go_roundw
           case rel => exact ⟨k + 1, by have := HL.out; omega, by go_num, hide (by rw [HT.out]; exact HC.out), HBr⟩
           case measure => have := HL.out; simp [intOf]; omega
     · have Aw : k = T.rules.length := by omega
       subst Aw
       go_wp2_with fail
       go_ret
       refine ⟨g, cr, rfl, ?_, by rw [Af.out]; exact Ao.out _ HBr.out⟩
       have e : w.heap.size ≤ g := by rw [← HG.out]; exact HB.out.size
       exact ⟨HC.out.fx, HC.out.cs, ⟨e, fun s hs => Nat.le_trans e (HC.out.lo.2 s hs)⟩, HC.out.inj⟩
end Go.Proofs.YthifoamnmhlghaaGreat.Fa
