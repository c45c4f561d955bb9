/- The law's works. -/
import Derived.Test.YtdmnoeooljofcaaTwo
import Derived.Test.YtdmnoeooljofcaaOSame
namespace Go.Proofs.Ytdmnoeooljofcaa
open Go.RowKit
theorem row_owns {w : World} {b : Nat} {a : Option Addr} {zs : List Int} {c : Nat} (h : w.ownsRow b 5 1 (.slice a zs.length c) zs.length (byts zs)) (hz : ∀ z ∈ zs, 0 ≤ z ∧ z ≤ 255) : Row w a zs ∧ zs.length ≤ c ∧ (a = none → c = 0) := by
  refine ⟨⟨fun hne => ?_, fun i => ?_⟩, ?_, ?_⟩
  · have h1 := owns_at1 h
    have hl : 0 < zs.length := List.length_pos_iff.2 hne
    have get : ∀ i, i < zs.length → (byts zs)[i]? = some (.int .u8 (zs.getD i 0)) := by
      intro i hi
      unfold byts
      rw [List.getElem?_map, List.getD_eq_getElem?_getD, List.getElem?_eq_getElem hi]
      rfl
    obtain ⟨g, o, rfl, _⟩ := h1 0 _ (get 0 hl)
    refine ⟨g, o, rfl, fun i hi => ?_⟩
    obtain ⟨g', o', e, hc⟩ := h1 i _ (get i hi)
    cases e
    exact hc
  · cases hi : zs[i]? with
    | none => simp
    | some z => exact hz z (List.mem_of_getElem? hi)
  · rcases h.2 with ⟨e, h0⟩ | ⟨g, cap, cur, e, _, _, hcap, _⟩
    · have := (Value.slice.inj e).2.2; omega
    · have := (Value.slice.inj e).2; omega
  · intro e
    subst e
    rcases h.2 with ⟨e, h0⟩ | ⟨g, cap, cur, e, _⟩
    · exact (Value.slice.inj e).2.2
    · exact absurd (Value.slice.inj e).1 (by simp)
abbrev tw (fa : Option Addr) (fc : Nat) (ra : Option Addr) (rc : Nat) (ba : Option Addr) (bc : Nat) : Value := .agg #[.int .i64 2, .slice fa 2 fc, .slice ra 2 rc, .slice ba 2 bc]
section
variable {w : World} {fa ra ba : Option Addr} {fc rc bc : Nat}
theorem check_two (h : TA w.heap.size w two fa fc ra rc ba bc) : Calls Try.prog 31 #[tw fa fc ra rc ba bc] w fun e w' => e = .returned (.tuple #[.int .i64 0, .int .i64 0]) ∧ Below w.heap.size w w' := by
  have := check_any h
  rw [two_ok] at this
  exact this
theorem check_bad (h : TA w.heap.size w twoBad fa fc ra rc ba bc) : Calls Try.prog 31 #[tw fa fc ra rc ba bc] w fun e w' => e = .returned (.tuple #[.int .i64 131, .int .i64 0]) ∧ Below w.heap.size w w' := by
  have := check_any h
  rw [two_bad] at this
  exact this
theorem two_zero : (checkM two).1 = 0 := by rw [two_ok]
theorem encode_two (h : TA w.heap.size w two fa fc ra rc ba bc) : Calls Try.prog 32 #[tw fa fc ra rc ba bc] w fun e w' => ∃ zs a c, Hid (wholeM zs = .ok two ∧ zs.length ≤ 1000000000 ∧ Row w' a zs ∧ zs.length ≤ c ∧ (a = none → c = 0)) ∧ e = .returned (.tuple #[.slice a zs.length c, .int .i64 0]) ∧ Below w.heap.size w w' := by
  refine (encode_any h).mono ?_
  rintro e w' ⟨⟨a, c, he, ho⟩, hb⟩
  have h0 := two_zero
  rw [if_pos h0, h0] at he
  rw [if_pos h0] at ho
  exact ⟨encM two, a, c, hide ⟨two_back, enc_len (check_ok h0), row_owns ho (enc_byte h0)⟩, he, hb⟩
theorem pairs_two (h : TA w.heap.size w two fa fc ra rc ba bc) : Calls Try.prog 14 #[tw fa fc ra rc ba bc] w fun e w' => e = .returned (.tuple #[.int .i64 2, .int .i64 0]) ∧ Below w.heap.size w w' := by
  have := pairs_yes h two_zero
  rw [two_pairs] at this
  exact this
theorem decode_two {zs : List Int} {a : Option Addr} {c : Nat} (h : wholeM zs = .ok two ∧ zs.length ≤ 1000000000 ∧ Row w a zs ∧ zs.length ≤ c ∧ (a = none → c = 0)) : Calls Try.prog 6 #[.slice a zs.length c] w fun e w' => ∃ fa fc ra rc ba bc, e = .returned (.tuple #[tw fa fc ra rc ba bc, .int .i64 0, .int .i64 zs.length]) ∧ TZ w.heap.size w' two (.slice fa 2 fc) (.slice ra 2 rc) (.slice ba 2 bc) ∧ Below w.heap.size w w' := by
  obtain ⟨h1, h2, h3, h4, h5⟩ := h
  refine (decode_any h3 h4 h5 (by omega)).mono ?_
  rintro e w' ⟨hd, hb⟩
  unfold Decd at hd
  rw [h1] at hd
  obtain ⟨fa, fc, ra, rc, ba, bc, he, hz⟩ := hd
  exact ⟨fa, fc, ra, rc, ba, bc, he, hz, hb⟩
end
/-- A theory in a box of its own. -/
structure Wb (Q : Nat) (T : Th) (fa : Option Addr) (fc : Nat) (ra : Option Addr) (rc : Nat) (ba : Option Addr) (bc : Nat) (w W : World) : Prop where
  low : Below w.heap.size w W
  lo : w.heap.size ≤ Q
  box : W.heap[Q]? = some (.cells #[.int .i64 2, .slice fa 2 fc, .slice ra 2 rc, .slice ba 2 bc] 27 (0, 0))
  tb : TA Q W T fa fc ra rc ba bc
theorem Wb.ta {Q : Nat} {T : Th} {fa ra ba : Option Addr} {fc rc bc : Nat} {w W : World} (h : Wb Q T fa fc ra rc ba bc w W) : TA W.heap.size W T fa fc ra rc ba bc := TR.mono (Nat.le_of_lt (loc_lt h.box)) h.tb
theorem Wb.go {Q : Nat} {T : Th} {fa ra ba : Option Addr} {fc rc bc : Nat} {w W X : World} (h : Wb Q T fa fc ra rc ba bc w W) (hb : Below W.heap.size W X) : Wb Q T fa fc ra rc ba bc w X :=
  ⟨h.low.trans (hb.mono h.low.size), h.lo, (hb.block _ (loc_lt h.box)).trans h.box, h.tb.keep fun g hg => hb.block g (by have := loc_lt h.box; omega)⟩
theorem Wb.new {T : Th} {fa ra ba : Option Addr} {fc rc bc : Nat} {w W : World} (hl : Below w.heap.size w W) (h : TA W.heap.size W T fa fc ra rc ba bc) : Wb W.heap.size T fa fc ra rc ba bc w (W.alloc (.cells #[.int .i64 2, .slice fa 2 fc, .slice ra 2 rc, .slice ba 2 bc] 27)) :=
  ⟨hl.trans ((below_new W _).mono hl.size), hl.size, heap_alloc_new W _, h.keep fun g hg => (below_new W _).block g hg⟩
/-- What was read, in a box, behind B. -/
structure Ub (B Q : Nat) (fa : Option Addr) (fc : Nat) (ra : Option Addr) (rc : Nat) (ba : Option Addr) (bc : Nat) (W : World) : Prop where
  lo : B ≤ Q
  box : W.heap[Q]? = some (.cells #[.int .i64 2, .slice fa 2 fc, .slice ra 2 rc, .slice ba 2 bc] 27 (0, 0))
  tz : TZ B W two (.slice fa 2 fc) (.slice ra 2 rc) (.slice ba 2 bc)
theorem Ub.keep {B Q : Nat} {fa ra ba : Option Addr} {fc rc bc : Nat} {W X : World} (h : Ub B Q fa fc ra rc ba bc W) (hb : ∀ g, B ≤ g → g < W.heap.size → X.heap[g]? = W.heap[g]?) (hs : W.heap.size ≤ X.heap.size) : Ub B Q fa fc ra rc ba bc X :=
  ⟨h.lo, (hb _ h.lo (loc_lt h.box)).trans h.box, h.tz.keep hb hs⟩
theorem Ub.go {B Q : Nat} {fa ra ba : Option Addr} {fc rc bc : Nat} {W X : World} (h : Ub B Q fa fc ra rc ba bc W) (hb : Below W.heap.size W X) : Ub B Q fa fc ra rc ba bc X := h.keep (fun g _ hg => hb.block g hg) hb.size
theorem Ub.new {B : Nat} {fa ra ba : Option Addr} {fc rc bc : Nat} {W : World} (hB : B ≤ W.heap.size) (h : TZ B W two (.slice fa 2 fc) (.slice ra 2 rc) (.slice ba 2 bc)) : Ub B W.heap.size fa fc ra rc ba bc (W.alloc (.cells #[.int .i64 2, .slice fa 2 fc, .slice ra 2 rc, .slice ba 2 bc] 27)) :=
  ⟨hB, heap_alloc_new W _, h.keep (fun g _ hg => (below_new W _).block g hg) (below_new W _).size⟩
theorem Ub.ta {B Q : Nat} {fa ra ba : Option Addr} {fc rc bc : Nat} {W : World} (h : Ub B Q fa fc ra rc ba bc W) : TA W.heap.size W two fa fc ra rc ba bc := h.tz.tr
def badW (w : World) : World := ((w.alloc (.cells #[.int .i64 1] 3)).alloc (.cells #[.int .i64 0] 3)).alloc (.cells #[.slice (some ⟨w.heap.size, 0, none⟩) 1 1, .slice (some ⟨w.heap.size + 1, 0, none⟩) 1 1] 38)
theorem bad_w (w : World) : Below w.heap.size w (badW w) ∧ (badW w).heap.size = w.heap.size + 3 ∧ (badW w).heap[w.heap.size]? = some (.cells #[.int .i64 1] 3 (0, 0)) ∧ (badW w).heap[w.heap.size + 1]? = some (.cells #[.int .i64 0] 3 (0, 0)) ∧ (badW w).heap[w.heap.size + 1 + 1]? = some (.cells #[.slice (some ⟨w.heap.size, 0, none⟩) 1 1, .slice (some ⟨w.heap.size + 1, 0, none⟩) 1 1] 38 (0, 0)) := by
  unfold badW
  obtain ⟨h1, h2, h3⟩ := two_boxes w (.cells #[.int .i64 1] 3) (.cells #[.int .i64 0] 3)
  have hs : ((w.alloc (.cells #[.int .i64 1] 3)).alloc (.cells #[.int .i64 0] 3)).heap.size = w.heap.size + 1 + 1 := by simp
  generalize (w.alloc (.cells #[.int .i64 1] 3)).alloc (.cells #[.int .i64 0] 3) = X at *
  have x := below_new X (.cells #[.slice (some ⟨w.heap.size, 0, none⟩) 1 1, .slice (some ⟨w.heap.size + 1, 0, none⟩) 1 1] 38)
  have y := heap_alloc_new X (.cells #[.slice (some ⟨w.heap.size, 0, none⟩) 1 1, .slice (some ⟨w.heap.size + 1, 0, none⟩) 1 1] 38)
  rw [hs] at y
  exact ⟨h1.trans (x.mono h1.size), by simp; omega, (x.block _ (by omega)).trans h2, (x.block _ (by omega)).trans h3, y⟩
theorem bad_beats {n N : Nat} {w : World} (h1 : Fx n 3 (ints [1]) w) (h2 : Fx (n + 1) 3 (ints [0]) w) (h3 : Fx (n + 1 + 1) 38 [.slice (some ⟨n, 0, none⟩) 1 1, .slice (some ⟨n + 1, 0, none⟩) 1 1] w) (hN : n + 1 + 1 < N) : Lists N w twoBad.beats (.slice (some ⟨n + 1 + 1, 0, none⟩) 2 2) :=
  Lists.blk (l := [[1], [0]]) h3 hN (by decide) (two_of ⟨_, rfl, Ints.blk (l := [1]) h1 (by omega) (by decide)⟩ ⟨_, rfl, Ints.blk (l := [0]) h2 (by omega) (by decide)⟩)
/-- The circle's store. -/
theorem Wb.bad {Q : Nat} {fa ra ba : Option Addr} {w W : World} (h : Wb Q two fa 2 ra 2 ba 2 w W) : TA ((badW W).setCell ⟨Q, 3, none⟩ (.slice (some ⟨W.heap.size + 1 + 1, 0, none⟩) 2 2)).heap.size ((badW W).setCell ⟨Q, 3, none⟩ (.slice (some ⟨W.heap.size + 1 + 1, 0, none⟩) 2 2)) twoBad fa 2 ra 2 (some ⟨W.heap.size + 1 + 1, 0, none⟩) 2 ∧ Below w.heap.size w ((badW W).setCell ⟨Q, 3, none⟩ (.slice (some ⟨W.heap.size + 1 + 1, 0, none⟩) 2 2)) ∧ ((badW W).setCell ⟨Q, 3, none⟩ (.slice (some ⟨W.heap.size + 1 + 1, 0, none⟩) 2 2)).heap[Q]? = some (.cells #[.int .i64 2, .slice fa 2 2, .slice ra 2 2, .slice (some ⟨W.heap.size + 1 + 1, 0, none⟩) 2 2] 27 (0, 0)) := by
  obtain ⟨h1, h2, h3, h4, h5⟩ := bad_w W
  have hQ : Q < W.heap.size := loc_lt h.box
  have hbx : Fx Q 27 [.int .i64 2, .slice fa 2 2, .slice ra 2 2, .slice ba 2 2] (badW W) := (h1.block Q hQ).trans h.box
  have hs := hbx.set 3 (.slice (some ⟨W.heap.size + 1 + 1, 0, none⟩) 2 2)
  have oth : ∀ g, g ≠ Q → ((badW W).setCell ⟨Q, 3, none⟩ (.slice (some ⟨W.heap.size + 1 + 1, 0, none⟩) 2 2)).heap[g]? = (badW W).heap[g]? := fun g hg => heap_setCell_other _ _ g _ hg
  have hz : ((badW W).setCell ⟨Q, 3, none⟩ (.slice (some ⟨W.heap.size + 1 + 1, 0, none⟩) 2 2)).heap.size = W.heap.size + 3 := by simp [h2]
  have F := Fr.setCell (Z := fun k => k = Q) (w := badW W) ⟨Q, 3, none⟩ (.slice (some ⟨W.heap.size + 1 + 1, 0, none⟩) 2 2) rfl
  generalize (badW W).setCell ⟨Q, 3, none⟩ (.slice (some ⟨W.heap.size + 1 + 1, 0, none⟩) 2 2) = X at *
  have lo := h.lo
  have ls := h.low.size
  have T := h.tb.keep fun g hg => (oth g (by omega)).trans (h1.block g (by omega))
  refine ⟨⟨Lists.mono (by omega) T.foes, Rules.mono (by omega) T.rules, ?_⟩, ?_, hs⟩
  · exact bad_beats ((oth _ (by omega)).trans h3) ((oth _ (by omega)).trans h4) ((oth _ (by omega)).trans h5) (by omega)
  · exact h.low.trans ((h1.mono ls).trans (F.below fun k hk => ⟨by omega, by omega⟩))
theorem Ub.bad {B Q Q2 : Nat} {fa ra ba : Option Addr} {fc rc bc : Nat} {W : World} (h : Ub B Q2 fa fc ra rc ba bc W) (hQ : Q < B) (v : Value) : Ub B Q2 fa fc ra rc ba bc ((badW W).setCell ⟨Q, 3, none⟩ v) := by
  obtain ⟨h1, h2, -⟩ := bad_w W
  exact h.keep (fun g hg hl => (heap_setCell_other _ _ g _ (by show g ≠ Q; omega)).trans (h1.block g hl)) (by simp [h2])
theorem num_still (w : World) (e : Int) : Calls Try.prog 9 #[.int .i64 e] w fun r w' => r = .returned (.int .i64 e) ∧ w' = w := by
  go_enter Try.func9, Try.ntmps9
  go_wp2_with fail
  go_ret
  exact ⟨rfl, rfl⟩
theorem undrewL {X Y : World} (h : Below X.drew.heap.size X.drew Y) : Below X.heap.size X Y := ⟨h.os, h.tape, h.output, h.size, h.block⟩
set_option maxRecDepth 100000 in
set_option maxHeartbeats 6400000 in
theorem works_any (w : World) : Calls Try.prog 11 #[] w fun e w' => e = .returned (.bool true) ∧ Below w.heap.size w w' := by
  have C0 := hide (two_any w)
  go_enter Try.func11, Try.ntmps11
  go_wp2_with fail
  refine C0.out.mono ?_
  rintro _ w1 ⟨fa, ra, ba, rfl, ht, hb⟩
  have KB := hide (Wb.new (w := w) hb ht)
  clear C0 ht hb
  unfold tv two
  simp only [List.length_cons, List.length_nil]
  go_upto_region 2 with fail
  generalize (w1.alloc (.cells #[.int .i64 2, .slice fa 2 2, .slice ra 2 2, .slice ba 2 2] 27)) = W at *
  generalize w1.heap.size = Q at *
  obtain ⟨-, c0, c1, c2, c3⟩ := Bt.of KB.out.box
  have CK := hide (check_two KB.out.ta)
  go_upto_region 3 with (go_at_call 31; refine CK.out.mono ?_; rintro _ w2 ⟨rfl, hw2⟩; have K2 := hide (KB.out.go hw2); clear hw2)
  clear CK c0 c1 c2 c3 KB
  obtain ⟨-, c0, c1, c2, c3⟩ := Bt.of K2.out.box
  have CE := hide (encode_two K2.out.ta)
  go_upto_region 4 with (go_at_call 32; refine CE.out.mono ?_; rintro _ w3 ⟨zs, a3, d3, HZ, rfl, hw3⟩; have K3 := hide (K2.out.go hw3); clear hw3)
  clear CE c0 c1 c2 c3 K2
  have CD := hide (decode_two HZ.out)
  have hQ : Q < w3.heap.size := loc_lt K3.out.box
  generalize hB : w3.heap.size = B at *
  have HQ : Hid (Q < B) := hide hQ
  clear hQ
  go_upto_region 5 with (go_at_call 6; refine CD.out.mono ?_; rintro _ w4 ⟨fb, fd, rb, rd, bb, bd, rfl, hz4, hw4⟩; have K4 := hide (K3.out.go (hB ▸ hw4)); have U4 := hide (Ub.new (hB ▸ hw4.size) hz4); clear hw4 hz4)
  clear CD HZ hB
  have K5 := hide (K4.out.go (below_new w4 (.cells #[.int .i64 2, .slice fb 2 fd, .slice rb 2 rd, .slice bb 2 bd] 27)))
  clear K3 K4
  generalize (w4.alloc (.cells #[.int .i64 2, .slice fb 2 fd, .slice rb 2 rd, .slice bb 2 bd] 27)) = w5 at *
  generalize w4.heap.size = Q2 at *
  obtain ⟨-, c0, c1, c2, c3⟩ := Bt.of K5.out.box
  have CP := hide (pairs_two K5.out.ta)
  go_upto_region 6 with (go_at_call 14; refine CP.out.mono ?_; rintro _ w6 ⟨rfl, hw6⟩; have K6 := hide (K5.out.go hw6); have U6 := hide (U4.out.go hw6); clear hw6)
  clear CP c0 c1 c2 c3 K5 U4
  obtain ⟨-, c0, c1, c2, c3⟩ := Bt.of K6.out.box
  have FZ : (badW w6).frozen? ⟨Q, 3, none⟩ = false := frozen_of_row _ _ 3 _ _ (((bad_w w6).1.block Q (loc_lt K6.out.box)).trans K6.out.box)
  have CZ : (badW w6).cell? ⟨Q, 3, none⟩ = some (.slice ba 2 2) := cell_of_row _ _ 3 _ _ _ (((bad_w w6).1.block Q (loc_lt K6.out.box)).trans K6.out.box)
  unfold badW at FZ CZ
  go_upto_region 7 with fail
  clear FZ CZ c0 c1 c2 c3
  obtain ⟨hT, hL, hX⟩ := K6.out.bad
  have U7 := hide (U6.out.bad HQ.out (.slice (some ⟨w6.heap.size + 1 + 1, 0, none⟩) 2 2))
  show Code.wp _ _ _ _ ((badW w6).setCell ⟨Q, 3, none⟩ (.slice (some ⟨w6.heap.size + 1 + 1, 0, none⟩) 2 2))
  generalize (badW w6).setCell ⟨Q, 3, none⟩ (.slice (some ⟨w6.heap.size + 1 + 1, 0, none⟩) 2 2) = w7 at *
  have HL := hide hL
  have CB := hide (check_bad hT)
  obtain ⟨-, c0, c1, c2, c3⟩ := Bt.of hX
  clear hX hT hL K6 U6
  go_upto_region 8 with (go_at_call 31; refine CB.out.mono ?_; rintro _ w8 ⟨rfl, hw8⟩; have U8 := hide (U7.out.go hw8); have HL8 := hide (HL.out.trans (hw8.mono HL.out.size)); clear hw8)
  clear c0 c1 c2 c3 CB U7 HL
  obtain ⟨-, c0, c1, c2, c3⟩ := Bt.of U8.out.box
  have CN := hide num_still
  have CT := hide two_any
  have hwr : IntKind.i64.wrap 0 = 0 := by decide
  go_cut [0] from 44 to 74 (fun s wc => s = .bool true ∧ Hid (Below w.heap.size w wc))
  case rest =>
    obtain ⟨rfl, HF⟩ := hcut
    go_wp2_with fail
    go_ret
    exact ⟨rfl, HF.out⟩
  go_region_with (first | (go_at_call 9; refine (CN.out _ _).mono ?_; rintro _ w9 ⟨rfl, hw9⟩; subst w9) | (go_at_call 30; refine (CT.out _).mono ?_; rintro _ w9 ⟨fx, rx, bx, rfl, ht9, hw9⟩; repeat (replace hw9 := undrewL hw9); have T9 := hide ht9; have W9 := hide hw9; obtain ⟨-, d0, d1, d2, d3⟩ := Bt.of (U8.out.go hw9).box; clear ht9 hw9; unfold tv two; simp only [List.length_cons, List.length_nil]) | (go_at_call 8; refine Calls.mono (sameTh_yes (T := two) (TR.mono (Nat.le_refl _) (U8.out.go W9.out).ta) T9.out) ?_; rintro _ wA ⟨rfl, hwA⟩; have WA := hide hwA; clear hwA))
  all_goals (simp only [List.getElem_toArray, List.getElem_cons_zero, List.getElem_cons_succ])
  all_goals go_wp2_with fail
  all_goals go_meet
  all_goals exact ⟨rfl, hide (by first | exact HL8.out.trans ((W9.out.trans (WA.out.mono W9.out.size)).mono HL8.out.size) | exact (HL8.out.trans ((W9.out.trans (WA.out.mono W9.out.size)).mono HL8.out.size)).drew | exact (HL8.out.trans ((W9.out.trans (WA.out.mono W9.out.size)).mono HL8.out.size)).drew.drew)⟩
end Go.Proofs.Ytdmnoeooljofcaa
