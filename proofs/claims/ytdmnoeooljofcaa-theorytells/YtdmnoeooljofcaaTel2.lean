/- theory.Pairs and Size, whatever the theory. -/
import Derived.Test.YtdmnoeooljofcaaTel1
import Derived.Deep.RegionHeld3
namespace Go.Proofs.Ytdmnoeooljofcaa
open Go.RowKit

theorem results_tmp4 {fn : Func} {t u v x : Tmp} (h : fn.results = #[.tmp t, .tmp u, .tmp v, .tmp x]) (tmps : Array Value) (P : Program) (w : World) :
    (results fn tmps).run P w = .ok (.tuple #[tmps.getD t undef, tmps.getD u undef, tmps.getD v undef, tmps.getD x undef]) w := by
  simp [results, h]
theorem cell_onS {w w' : World} {p : Addr} {v : Value} (h : w.cell? p = some v) (hb : Below w.heap.size w w') : w'.cell? p = some v := (World.cell?_of_block (hb.block p.block (World.block_lt_of_cell? w _ h))).trans h
abbrev S4z (wz : World) (p0 p1 p2 p3 : Addr) (u0 u1 u2 u3 : Value) (X : World) : Prop := X.cell? p0 = some u0 ∧ X.cell? p1 = some u1 ∧ X.cell? p2 = some u2 ∧ X.cell? p3 = some u3 ∧ Below wz.heap.size wz X
section
variable {wz X Y : World} {p0 p1 p2 p3 : Addr} {u0 u1 u2 u3 : Value}
theorem S4z.b (h : S4z wz p0 p1 p2 p3 u0 u1 u2 u3 X) : Below wz.heap.size wz X := h.2.2.2.2
theorem S4z.drew (h : S4z wz p0 p1 p2 p3 u0 u1 u2 u3 X) : S4z wz p0 p1 p2 p3 u0 u1 u2 u3 X.drew := ⟨h.1, h.2.1, h.2.2.1, h.2.2.2.1, (h.2.2.2.2).drew⟩
theorem S4z.below (h : S4z wz p0 p1 p2 p3 u0 u1 u2 u3 X) (hb : Below X.heap.size X Y) : S4z wz p0 p1 p2 p3 u0 u1 u2 u3 Y := ⟨cell_onS (h.1) hb, cell_onS (h.2.1) hb, cell_onS (h.2.2.1) hb, cell_onS (h.2.2.2.1) hb, (S4z.b h).trans (hb.mono (S4z.b h).size)⟩
end

def pairV (T : Th) : Int := if (checkM T).1 = 0 then (pairsM T : Nat) else 0
def litV (T : Th) : Int := if (checkM T).1 = 0 then T.lits else 0
def premV (T : Th) : Int := if (checkM T).1 = 0 then (premN T T.rules.length : Nat) else 0
section
variable {T : Th}
theorem three_ok (h : (checkM T).1 = 0) : pairV T = (pairsM T : Nat) ∧ litV T = T.lits ∧ premV T = (premN T T.rules.length : Nat) := by unfold pairV litV premV; simp only [if_pos h]; exact ⟨trivial, trivial, trivial⟩
theorem three_bad (h : (checkM T).1 ≠ 0) : pairV T = 0 ∧ litV T = 0 ∧ premV T = 0 := by unfold pairV litV premV; simp only [if_neg h]; exact ⟨trivial, trivial, trivial⟩
theorem ret2_i {a b c d : Int} (h1 : a = c) (h2 : b = d) : Ending.returned (.tuple #[.int .i64 a, .int .i64 b]) = .returned (.tuple #[.int .i64 c, .int .i64 d]) := by rw [h1, h2]
theorem ret4_i {a b c d e f g h : Int} (h1 : a = e) (h2 : b = f) (h3 : c = g) (h4 : d = h) : Ending.returned (.tuple #[.int .i64 a, .int .i64 b, .int .i64 c, .int .i64 d]) = .returned (.tuple #[.int .i64 e, .int .i64 f, .int .i64 g, .int .i64 h]) := by rw [h1, h2, h3, h4]
end
set_option maxRecDepth 100000 in
set_option maxHeartbeats 6400000 in
theorem Pairs_any {w : World} {T : Th} {fa ra ba : Option Addr} {fc rc bc : Nat} (h : TA w.heap.size w T fa fc ra rc ba bc) :
    Calls Try.prog 14 #[tv T fa fc ra rc ba bc] w fun e w' => e = .returned (.tuple #[.int .i64 (pairV T), .int .i64 (checkM T).1]) ∧ Below w.heap.size w w' := by
  by_cases h0 : (checkM T).1 = 0
  · rw [(three_ok h0).1, h0]; exact pairs_yes h h0
  · rw [(three_bad h0).1]
    have hB := below_new w (.cells #[.int .i64 T.lits, .slice fa T.foes.length fc, .slice ra T.rules.length rc, .slice ba T.beats.length bc] 27)
    have hX := heap_alloc_new w (.cells #[.int .i64 T.lits, .slice fa T.foes.length fc, .slice ra T.rules.length rc, .slice ba T.beats.length bc] 27)
    have CC := hide (check_any (TR.go hB h))
    have HB := hide hB
    obtain ⟨e0, p0, hab⟩ : ∃ a b, checkM T = (a, b) := ⟨_, _, rfl⟩
    rw [hab] at CC h0 ⊢
    unfold dup at CC
    simp only at CC h0 ⊢
    have hab2 : (e0 != 0) = true := by simpa using h0
    clear h hB hab
    go_enter Try.func14, Try.ntmps14
    go_upto_region 1 with fail
    generalize w.alloc (.cells #[.int .i64 T.lits, .slice fa T.foes.length fc, .slice ra T.rules.length rc, .slice ba T.beats.length bc] 27) = W at *
    obtain ⟨-, c0, c1, c2, c3⟩ := Bt.of hX
    clear hX
    go_wp2_with (go_at_call 31; refine CC.out.mono ?_; rintro _ w1 ⟨rfl, hw1⟩; have HB1 := hide (HB.out.trans (hw1.mono HB.out.size)); clear hw1)
    go_ret2
    exact ⟨rfl, HB1.out⟩
set_option maxRecDepth 100000 in
set_option maxHeartbeats 6400000 in
theorem Size_any {w : World} {T : Th} {fa ra ba : Option Addr} {fc rc bc : Nat} (h : TA w.heap.size w T fa fc ra rc ba bc) :
    Calls Try.prog 16 #[tv T fa fc ra rc ba bc] w fun e w' => e = .returned (.tuple #[.int .i64 (litV T), .int .i64 (premV T), .int .i64 (pairV T), .int .i64 (checkM T).1]) ∧ Below w.heap.size w w' := by
  have hB := below_new w (.cells #[.int .i64 T.lits, .slice fa T.foes.length fc, .slice ra T.rules.length rc, .slice ba T.beats.length bc] 27)
  have hX := heap_alloc_new w (.cells #[.int .i64 T.lits, .slice fa T.foes.length fc, .slice ra T.rules.length rc, .slice ba T.beats.length bc] 27)
  have CC := hide (check_any (TR.go hB h))
  have HL := hide (TR.go hB h)
  have HB := hide hB
  have HX := hide hX
  obtain ⟨e0, p0, hab⟩ : ∃ a b, checkM T = (a, b) := ⟨_, _, rfl⟩
  rw [hab] at CC
  unfold dup at CC
  simp only at CC
  have HE : Hid ((checkM T).1 = e0) := hide (by rw [hab])
  clear h hB hab
  go_enter Try.func16, Try.ntmps16
  go_upto_region 1 with fail
  generalize w.alloc (.cells #[.int .i64 T.lits, .slice fa T.foes.length fc, .slice ra T.rules.length rc, .slice ba T.beats.length bc] 27) = W at *
  obtain ⟨-, c0, c1, c2, c3⟩ := Bt.of hX
  clear hX
  by_cases ha : e0 = 0
  · subst ha
    have HT := hide (three_ok HE.out)
    have HPz := hide (parts_zero HE.out)
    have HK := hide (check_ok HE.out)
    have hrl := HK.out.rl
    go_upto_region 4 with (go_at_call 31; refine CC.out.mono ?_; rintro _ w1 ⟨rfl, hw1⟩; have HB1 := hide (HB.out.trans (hw1.mono HB.out.size)); have HL1 := hide (TR.go hw1 HL.out); have HX1 := hide ((hw1.block _ (loc_lt HX.out)).trans HX.out); clear hw1)
    clear c0 c1 c2 c3 CC HL HB HX
    obtain ⟨-, c0, c1, c2, c3⟩ := Bt.of HX1.out
    go_upto_region 6 with fail
    go_loopw [8, 22] (fun y x wr => ∃ k : Nat, k ≤ T.rules.length ∧ x = .int .i64 k ∧ y = .int .i64 (premN T k : Nat) ∧ Hid (Below w1.heap.size w1 wr)) (fun _ x _ => T.rules.length - (intOf x).toNat)
    case atStart => exact ⟨0, by omega, rfl, rfl, hide (Below.refl _ _)⟩
    case round =>
      clear c0 c1 c2 c3
      obtain ⟨k, hk, rfl, rfl, HBr⟩ := hrel
      by_cases hlt : k < T.rules.length
      · obtain ⟨r, hr⟩ := get_at hlt
        obtain ⟨gr, go, bd, bp, rfl, hgr, x0, x1, x2, -, hbl, -⟩ := at_R (Rules.keep HBr.out.block HL1.out.rules) hr
        have hA := below_new wr (.cells #[.int .i64 r.kind, .int .i64 r.head, .slice bd r.body.length bp] 70)
        have HBq := hide (HBr.out.trans (hA.mono HBr.out.size))
        have HQ : Hid (Fx wr.heap.size 70 [.int .i64 r.kind, .int .i64 r.head, .slice bd r.body.length bp] (wr.alloc (.cells #[.int .i64 r.kind, .int .i64 r.head, .slice bd r.body.length bp] 70))) := hide (heap_alloc_new wr _)
        have HS := hide (premN_next hr)
        have h16 : r.body.length ≤ 16 := (HK.out.rule r (List.mem_of_getElem? hr)).2.2.2.2.1
        have hpl := premN_le (T := T) (k := k) fun r hr => (HK.out.rule r hr).2.2.2.2.1
        clear hr hA HBr hbl
        go_upto_region 8 with fail
        generalize wr.alloc (.cells #[.int .i64 r.kind, .int .i64 r.head, .slice bd r.body.length bp] 70) = wq at *
        generalize wr.heap.size = gq at *
        clear x0 x1 x2
        have y2 := HQ.out.get (i := 2) rfl
        obtain ⟨n, hn⟩ : ∃ n, r.body.length = n := ⟨_, rfl⟩
        rw [hn] at h16 y2 HS
        clear hn
        generalize premN T k = P at *
        go_wp2_with fail
        go_roundw
        case rel => exact ⟨k + 1, by omega, by go_num, by rw [HS.out]; go_num, HBq⟩
        case measure => simp [intOf]; omega
      · have HKN : Hid (k = T.rules.length) := hide (by omega)
        rw [HKN.out]
        obtain ⟨P, hP⟩ : ∃ P, premN T T.rules.length = P := ⟨_, rfl⟩
        rw [hP] at HT ⊢
        clear hP
        have HX2 := hide ((HBr.out.block _ (loc_lt HX1.out)).trans HX1.out)
        have HL2 := hide (TR.go HBr.out HL1.out)
        have HB2 := hide (HB1.out.trans (HBr.out.mono HB1.out.size))
        obtain ⟨pm, hpm⟩ : ∃ pm, pairsM T = pm := ⟨_, rfl⟩
        rw [hpm] at HT
        have HPM := hide hpm
        obtain ⟨-, c0, c1, c2, c3⟩ := Bt.of HX2.out
        have HTT : S4z wr ⟨w.heap.size, 0, none⟩ ⟨w.heap.size, 1, none⟩ ⟨w.heap.size, 2, none⟩ ⟨w.heap.size, 3, none⟩ (.int .i64 T.lits) (.slice fa T.foes.length fc) (.slice ra T.rules.length rc) (.slice ba T.beats.length bc) wr := ⟨c0, c1, c2, c3, Below.refl _ _⟩
        have CP : Hid (∀ X, Below wr.heap.size wr X → Calls Try.prog 34 #[tv T fa fc ra rc ba bc] X fun e w' => e = .returned (.int .i64 (pm : Nat)) ∧ Below X.heap.size X w') := hide fun X hX => by rw [← HPM.out]; exact pairsOf_any (TR.go hX HL2.out) HPz.out.1 HPz.out.2.1 HPz.out.2.2.1 HPz.out.2.2.2
        clear HX1 HL1 HB1 HX2 HBr hpm c0 c1 c2 c3 HKN hrl HPM
        go_upto_region 10 with fail
        go_region_held3 (fun X : World => S4z wr ⟨w.heap.size, 0, none⟩ ⟨w.heap.size, 1, none⟩ ⟨w.heap.size, 2, none⟩ ⟨w.heap.size, 3, none⟩ (.int .i64 T.lits) (.slice fa T.foes.length fc) (.slice ra T.rules.length rc) (.slice ba T.beats.length bc) X) (first | exact S4z.drew ‹_› | assumption | exact S4z.below ‹_› (below_new _ _) | exact S4z.below ‹_› ‹_›) (first | (go_at_call 34; refine (CP.out _ (S4z.b ‹_›)).mono ?_; rintro e w' ⟨rfl, hb⟩))
        go_wp2_with fail
        (try simp only [Exit.inBlock, Exit.then])
        refine bodyPost_ret (results_tmp4 rfl _ _ _) rfl ?_
        have hd : Below wr.heap.size wr wr.drew := (Below.refl wr.heap.size wr).drew
        exact ⟨ret4_i HT.out.2.1.symm HT.out.2.2.symm HT.out.1.symm HE.out.symm, HB2.out.trans ((hd.trans (hb.mono hd.size)).mono HB2.out.size)⟩
  · have hab2 : (e0 != 0) = true := by simpa using ha
    have HT := hide (three_bad (T := T) (by rw [HE.out]; exact ha))
    go_wp2_with (go_at_call 31; refine CC.out.mono ?_; rintro _ w1 ⟨rfl, hw1⟩; have HB1 := hide (HB.out.trans (hw1.mono HB.out.size)); clear hw1)
    (try simp only [Exit.inBlock, Exit.then])
    refine bodyPost_ret (results_tmp4 rfl _ _ _) rfl ?_
    exact ⟨ret4_i HT.out.2.1.symm HT.out.2.2.symm HT.out.1.symm HE.out.symm, HB1.out⟩
end Go.Proofs.Ytdmnoeooljofcaa
