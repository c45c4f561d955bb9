/- The document's Uint, list, above. -/
import Derived.Test.YtinloodhmnjobaaEnc
import Derived.Test.YtinloodhmnjobaaRf7
namespace Go.Proofs.Ytinloodhmnjobaa.Rf
open Go.RowKit

set_option maxHeartbeats 400000 in
theorem rUintF_any : ∀ (f : Nat) (n : Int) (w : World), f ≤ 9 → 0 ≤ n → n ≤ 18446744073709551615 → n < 128 ^ (f + 1) →
    Calls Try.prog 30 #[.int .u64 n] w fun e w' => ∃ a cap, e = .returned (.slice a (uintB f n).length cap) ∧ w'.ownsRow w.heap.size 5 1 (.slice a (uintB f n).length cap) (uintB f n).length ((uintB f n).map (Value.int .u8)) ∧ Below w.heap.size w w' := by
  intro f
  obtain ⟨i0, hi, hz0, hz1, hz2⟩ := info_parts infoB
  induction f with
  | zero =>
    intro n w hf h0 h64 h1
    have h128 : n < 128 := by simpa using h1
    clear h1
    go_enter Try.func30, Try.ntmps30
    go_wp2_with fail
    go_ret
    exact ⟨_, _, rfl, World.ownsRow_lit w #[.int .u8 n] 1 (Nat.le_refl _) (by unfold maxLen; omega) rfl, (Below.refl _ _).alloc (Nat.le_refl _) _⟩
  | succ f ih =>
    intro n w hf h0 h64 h1
    by_cases h128 : n < 128
    · clear h1
      have HE : Hid (uintB (f + 1) n = [n]) := by unfold Hid; rw [uintB, if_pos h128]
      go_enter Try.func30, Try.ntmps30
      go_wp2_with fail
      go_ret
      rw [HE.out]
      exact ⟨_, _, rfl, World.ownsRow_lit w #[.int .u8 n] 1 (Nat.le_refl _) (by unfold maxLen; omega) rfl, (Below.refl _ _).alloc (Nat.le_refl _) _⟩
    · have HE : Hid (uintB (f + 1) n = (n % 128 + 128) :: uintB f (n / 128)) := by unfold Hid; rw [uintB, if_neg h128]
      have HB : Hid (n / 128 < 128 ^ (f + 1)) := by
        rw [Int.pow_succ] at h1
        exact Int.ediv_lt_of_lt_mul (by decide) h1
      have IH := hide ih
      clear h1 ih
      go_enter Try.func30, Try.ntmps30
      go_wp2_with fail
      refine (IH.out (n / 128) _ (by omega) (by omega) (by omega) HB.out).mono ?_
      rintro e w2 ⟨a2, cap2, rfl, hown2, hbel2⟩
      obtain ⟨g, ha, hg1, hg2, hnews⟩ := own_news hown2 (uintB_pos _ _)
      subst ha
      have hown1 : w2.ownsRow w.heap.size 5 1 (.slice (some ⟨w.heap.size, 0, none⟩) 1 1) 1 [.int .u8 (bits .or .u8 (n % 128) 128)] :=
        own_below (World.ownsRow_lit w #[.int .u8 (bits .or .u8 (n % 128) 128)] 1 (Nat.le_refl _) (by unfold maxLen; omega) rfl) hbel2 (Nat.le_refl _)
      have hbel1 : Below w.heap.size w w2 := ((Below.refl _ _).alloc (Nat.le_refl _) _).trans (hbel2.mono (by simp))
      have HNW := hide hnews
      have HLN := hide (uintB_len f (n / 128))
      clear hnews hbel2 hown2 IH HB
      generalize hU : uintB f (n / 128) = us at *
      have HU := hide hU
      clear hU
      go_wp2_with (at_builtin; go_must (refine wpList_append_own _ rfl _ _ 34 rfl w.heap.size 5 i0 (.int .u8 0) 1 1 Try.underlying34 hi hz0 hz1 hz2 rfl (by decide) _ _ _ rfl hown1 ⟨g, 0, none⟩ us.length cap2 (us.map (Value.int .u8)) rfl (by simp) HNW.out (ints_oneCell _ _) (by have := HLN.out; unfold maxLen; omega) (by have := HLN.out; omega) hbel1.size ?_))
      intro v' w3 hown3 hgrow _
      obtain ⟨a3, cap3, hv⟩ := own_shape hown3
      subst hv
      have hbel3 : Below w.heap.size w w3 := hbel1.grown hgrow hbel1.size (fun k hk => by simp [Value.ownBlock] at hk; omega)
      clear hgrow
      go_wp2_with fail
      go_ret
      rw [HE.out]
      refine ⟨a3, cap3, ?_, ?_, hbel3⟩
      · simp [Nat.add_comm]
      · rw [or128 _ (by omega) (by omega)] at hown3
        simpa [Nat.add_comm] using hown3
theorem rUint_any (n : Int) (w : World) (h0 : 0 ≤ n) (h1 : n < 9223372036854775808) :
    Calls Try.prog 30 #[.int .u64 n] w fun e w' => ∃ a cap, e = .returned (.slice a (numB n).length cap) ∧ w'.ownsRow w.heap.size 5 1 (.slice a (numB n).length cap) (numB n).length (byts (numB n)) ∧ Below w.heap.size w w' := rUintF_any 9 n w (by omega) h0 (by omega) (by omega)
theorem told_of {B : Nat} {v v4 : Value} {w w1 w4 : World} {zs us A : List Int} (hA : zs ++ us = A) (hb : Below w.heap.size w w1) (hg : w1.grownBy w4 v.ownBlock) (hown : w4.ownsRow B 5 1 v4 (zs.length + us.length) (byts zs ++ byts us)) (hat : ∀ g, v4.ownBlock = some g → v.ownBlock = some g ∨ w1.heap.size ≤ g) :
    ∃ a c, v4 = .slice a A.length c ∧ w4.ownsRow B 5 1 (.slice a A.length c) A.length (byts A) ∧ Fr (fun k => v.ownBlock = some k) w w4 ∧ ∀ g, Value.ownBlock (.slice a A.length c) = some g → v.ownBlock = some g ∨ w.heap.size ≤ g := by
  subst hA
  rw [← byts_app, ← List.length_append] at hown
  obtain ⟨a, c, rfl⟩ := owns_slice hown
  exact ⟨a, c, rfl, hown, grown_row_fr hb hg, fun g e => (hat g e).imp id (Nat.le_trans hb.size)⟩
set_option maxRecDepth 100000 in
set_option maxHeartbeats 6400000 in
theorem rlist_any {w : World} {B : Nat} {v : Value} {zs : List Int} (h : w.ownsRow B 5 1 v zs.length (byts zs)) (hB : B ≤ w.heap.size) {l : List Int} {la : Option Addr} {lc : Nat} (hI : At1 w la (ints l)) (hna : 0 < l.length → ∀ g o, la = some ⟨g, o, none⟩ → v.ownBlock ≠ some g) (hlim : l.length ≤ 140737488351232) (hz : ∀ z ∈ l, 0 ≤ z ∧ z < 9223372036854775808) (hl : (zs ++ listB l).length ≤ 1000000000) :
    Calls Try.prog 31 #[v, .slice la l.length lc] w fun e w' => Told B v (zs ++ listB l) w e w' := by
  obtain ⟨i0, hi, hz0, hz1, hz2⟩ := info_parts infoB
  have hzs : zs.length ≤ 1000000000 := by rw [List.length_append] at hl; omega
  have CU := hide (rUint_any l.length w (by omega) (by omega))
  have HLN := hide (numB_len l.length)
  have hw : IntKind.u64.wrap (l.length : Int) = l.length := by rw [IntKind.wrap_u64]; omega
  have HL := hide hl
  have HI := hide hI
  have HZ := hide hz
  have HNA := hide hna
  obtain ⟨va, vc, rfl⟩ := owns_slice h
  have HO := hide h
  obtain ⟨A0, hA0⟩ : ∃ A, zs ++ numB l.length = A := ⟨_, rfl⟩
  have HA0 := hide hA0
  obtain ⟨n, hn⟩ : ∃ n, zs.length = n := ⟨_, rfl⟩
  have HN := hide hn
  rw [hn] at HO hzs HNA
  have HE0 : Hid (A0 ++ numsB (l.drop 0) = zs ++ listB l) := hide (by rw [← hA0, List.drop_zero, List.append_assoc]; rfl)
  have HV : Hid (Value.ownBlock (.slice va zs.length vc) = Value.ownBlock (.slice va n vc)) := hide (by rw [hn])
  have HSV : Hid (Value.slice va zs.length vc = .slice va n vc) := hide (by rw [hn])
  rw [HSV.out]
  clear h hI hz hl hna hA0 hn
  go_enter Try.func31, Try.ntmps31
  go_upto_region 2 with (first | (go_at_call 30; refine CU.out.mono ?_; rintro _ w1 ⟨ua, uc, rfl, hu, hb1⟩; have HU := hide (src_own (zs := numB l.length) hu); have HB1 := hide hb1; have HO1 := hide (owns_keep HO.out fun g hg => hb1.block g (owns_lt HO.out hg)); clear hu hb1) | (at_builtin; go_must (refine wpList_append_src _ (Nat.le_trans hB HB1.out.size) (by rfl) _ _ 34 34 rfl 5 i0 _ 1 1 Try.underlying34 hi hz0 hz1 hz2 rfl (.slice va n vc) n (byts zs) rfl HO1.out (.slice ua (numB l.length).length uc) (numB l.length).length (byts (numB l.length)) rfl HU.out (by have := HLN.out; unfold maxLen; omega) (by have := HLN.out; omega) ?_); intro v4 w4 hown4 hg4 hat4; rw [← HN.out] at hown4; have HT4 := hide (told_of HA0.out HB1.out hg4 hown4 hat4); clear hown4 hg4 hat4))
  obtain ⟨a4, c4, rfl, ho4, hf4, hat4⟩ := HT4.out
  have HO4 := hide ho4
  have HF4 : Hid (Fr (fun k => Value.ownBlock (.slice va n vc) = some k ∨ w.heap.size ≤ k) w w4) := hide (hf4.mono fun k _ e => .inl e)
  have HAt4 := hide hat4
  clear ho4 hf4 hat4 HT4 CU HU HB1 HO1 hw HLN
  go_wp2_with fail
  go_loopw [0, 5] (fun y x wr => ∃ (k : Nat) (acc : List Int) (a c : _), k ≤ l.length ∧ x = .int .i64 k ∧ y = .slice a acc.length c ∧ Hid (wr.ownsRow B 5 1 (.slice a acc.length c) acc.length (byts acc)) ∧ Hid (Fr (fun k => Value.ownBlock (.slice va n vc) = some k ∨ w.heap.size ≤ k) w wr) ∧ Hid (∀ g, Value.ownBlock (.slice a acc.length c) = some g → Value.ownBlock (.slice va n vc) = some g ∨ w.heap.size ≤ g) ∧ Hid (acc ++ numsB (l.drop k) = zs ++ listB l)) (fun _ x _ => l.length - (intOf x).toNat)
  case atStart => exact ⟨0, A0, a4, c4, by omega, rfl, rfl, HO4, HF4, HAt4, HE0⟩
  case round =>
    clear HO4 HF4 HAt4 HE0
    obtain ⟨k, acc, a, c, hk, rfl, rfl, HR, HF, HAt, HE⟩ := hrel
    by_cases hlt : k < l.length
    · obtain ⟨x, hx⟩ := get_at hlt
      obtain ⟨g, o, rfl, kc0⟩ := HI.out.get hx
      have hgl : g < w.heap.size := World.block_lt_of_cell? w _ kc0
      have kc : wr.cell? ⟨g, o + k, none⟩ = some (.int .i64 x) := (World.cell?_of_block (HF.out.block g hgl fun e => by
        rcases e with e | e
        · exact HNA.out (by omega) g o rfl e
        · omega)).trans kc0
      obtain ⟨hx0, hx1⟩ := HZ.out x (List.mem_of_getElem? hx)
      have hacc : acc.length ≤ 1000000000 := by have h1 := congrArg List.length HE.out; have h2 := HL.out; rw [List.length_append] at h1; omega
      have CU := hide (rUint_any x wr hx0 hx1)
      have HLN := hide (numB_len x)
      have hw : IntKind.u64.wrap x = x := by rw [IntKind.wrap_u64]; omega
      obtain ⟨A1, hA1⟩ : ∃ A, acc ++ numB x = A := ⟨_, rfl⟩
      have HA1 := hide hA1
      have HE2 : Hid (A1 ++ numsB (l.drop (k + 1)) = zs ++ listB l) := hide (by rw [← HE.out, nums_step hx, ← hA1, List.append_assoc])
      clear hx kc0 HE hA1 hgl
      go_wp2_with (first | (go_at_call 30; refine CU.out.mono ?_; rintro _ w1 ⟨ua, uc, rfl, hu, hb1⟩; have HU := hide (src_own (zs := numB x) hu); have HB1 := hide hb1; have HO1 := hide (owns_keep HR.out fun g hg => hb1.block g (owns_lt HR.out hg)); clear hu hb1) | (at_builtin; go_must (refine wpList_append_src _ (Nat.le_trans hB (Nat.le_trans HF.out.size HB1.out.size)) (by rfl) _ _ 34 34 rfl 5 i0 _ 1 1 Try.underlying34 hi hz0 hz1 hz2 rfl (.slice a acc.length c) acc.length (byts acc) rfl HO1.out (.slice ua (numB x).length uc) (numB x).length (byts (numB x)) rfl HU.out (by have := HLN.out; unfold maxLen; omega) (by have := HLN.out; omega) ?_); intro v4 w4 hown4 hg4 hat4; have HT4 := hide (told_of HA1.out HB1.out hg4 hown4 hat4); clear hown4 hg4 hat4; obtain ⟨a5, c5, rfl, ho5, hf5, hat5⟩ := HT4.out; have HO5 := hide ho5; have HF5 := hide (told_more HF.out HAt.out hf5); have HAt5 : Hid (∀ g, Value.ownBlock (.slice a5 A1.length c5) = some g → Value.ownBlock (.slice va n vc) = some g ∨ w.heap.size ≤ g) := hide (fun g e => (hat5 g e).elim (HAt.out g) (fun h => .inr (Nat.le_trans HF.out.size h))); clear ho5 hf5 hat5 HT4))
      go_roundw
      case rel => exact ⟨k + 1, A1, a5, c5, by omega, by go_num, rfl, HO5, HF5, HAt5, HE2⟩
      case measure => simp [intOf]; omega
    · have HE2 : Hid (acc = zs ++ listB l) := hide (by rw [← HE.out, drop_end (l := l) (by omega)]; simp [numsB])
      clear HE
      go_wp2_with fail
      go_ret
      rw [← HE2.out]
      refine ⟨a, c, rfl, HR.out, ?_, HAt.out⟩
      exact fr_down HF.out
/-- Of a list that rises: what is above a number. -/
theorem above_filter {i : Int} : ∀ {l : List Int}, l.Pairwise (· < ·) → l.filter (fun x => decide (i < x)) = aboveM i l := by
  intro l
  induction l with
  | nil => intro _; rfl
  | cons x l ih =>
    intro h
    obtain ⟨h1, h2⟩ := List.pairwise_cons.1 h
    unfold aboveM
    by_cases hx : i < x
    · rw [List.filter_cons_of_pos (by simpa using hx), List.dropWhile_cons_of_neg (by simp; omega), List.filter_eq_self.2 fun y hy => by have := h1 y hy; simp; omega]
    · rw [List.filter_cons_of_neg (by simpa using hx), List.dropWhile_cons_of_pos (by simp; omega)]
      exact ih h2
theorem filter_step {p : Int → Bool} {l : List Int} {k : Nat} {x : Int} (h : l[k]? = some x) : (l.take (k + 1)).filter p = (l.take k).filter p ++ (if p x then [x] else []) := by
  rw [take_snoc h, List.filter_append]
  cases hp : p x <;> simp [hp]
set_option maxRecDepth 100000 in
set_option maxHeartbeats 6400000 in
theorem rabove_any {w : World} {T : Th} {fa ra ba : Option Addr} {fc rc bc : Nat} {q : Nat} {l : List Int} (h : TA w.heap.size w T fa fc ra rc ba bc) (hq : T.foes[q]? = some l) (hll : l.length ≤ 64) (hri : l.Pairwise (· < ·)) :
    Calls Try.prog 32 #[tv T fa fc ra rc ba bc, .int .i64 q] w fun e w' => ∃ va vc, e = .returned (.slice va (aboveM q l).length vc) ∧ w'.ownsRow w.heap.size 3 1 (.slice va (aboveM q l).length vc) (aboveM q l).length (ints (aboveM q l)) ∧ Below w.heap.size w w' := by
  obtain ⟨iI, hiI, zI0, zI1, zI2⟩ := info_parts infoI
  have hB := below_new w (.cells #[.int .i64 T.lits, .slice fa T.foes.length fc, .slice ra T.rules.length rc, .slice ba T.beats.length bc] 25)
  have hX := heap_alloc_new w (.cells #[.int .i64 T.lits, .slice fa T.foes.length fc, .slice ra T.rules.length rc, .slice ba T.beats.length bc] 25)
  have HB := hide hB
  have HX := hide hX
  have HTA := hide (TR.go hB h)
  have HQ := hide hq
  obtain ⟨R, hR⟩ : ∃ R, aboveM (q : Int) l = R := ⟨_, rfl⟩
  have HR : Hid (l.filter (fun x => decide ((q : Int) < x)) = R) := hide ((above_filter hri).trans hR)
  rw [hR]
  have hqf : q < T.foes.length := (List.getElem?_eq_some_iff.1 hq).1
  have hfl := h.foes.lim
  obtain ⟨m, hm⟩ : ∃ m, l.length = m := ⟨_, rfl⟩
  have HM := hide hm
  rw [hm] at hll
  clear h hB hq hR hri hm
  go_enter Try.func32, Try.ntmps32
  go_upto_region 1 with fail
  generalize w.alloc (.cells #[.int .i64 T.lits, .slice fa T.foes.length fc, .slice ra T.rules.length rc, .slice ba T.beats.length bc] 25) = W at *
  clear hX
  go_wp2_with fail
  go_loopw [5, 6] (fun y x wr => ∃ (k : Nat) (acc : List Int) (va : Option Addr) (vc : Nat), k ≤ m ∧ x = .int .i64 k ∧ y = .slice va acc.length vc ∧ Hid (acc = (l.take k).filter (fun x => decide ((q : Int) < x))) ∧ Hid (wr.ownsRow W.heap.size 3 1 (.slice va acc.length vc) acc.length (ints acc)) ∧ Hid (Below W.heap.size W wr)) (fun _ x _ => m - (intOf x).toNat)
  case atStart => exact ⟨0, [], none, 0, by omega, rfl, rfl, hide rfl, hide (World.ownsRow_nil _ _ _ _), hide (Below.refl _ _)⟩
  case round =>
    obtain ⟨k, acc, va, vc, hk, rfl, rfl, HC, HRow, HW⟩ := hrel
    obtain ⟨-, c0, c1, c2, c3⟩ := Bt.of ((HW.out.block _ (loc_lt HX.out)).trans HX.out)
    obtain ⟨gf, of, la, lc, rfl, -, kc, -, -, hI⟩ := at_L (TR.go HW.out HTA.out).foes HQ.out
    rw [HM.out] at kc
    by_cases hlt : k < m
    · obtain ⟨x, hx⟩ := get_at (l := l) (i := k) (by rw [HM.out]; exact hlt)
      obtain ⟨g, o, rfl, cx⟩ := hI.at1.get hx
      have hstep := filter_step (p := fun x => decide ((q : Int) < x)) hx
      have hal : acc.length ≤ k := by rw [HC.out]; exact Nat.le_trans (List.length_filter_le _ _) (by simp; omega)
      by_cases hqx : (q : Int) < x
      · have HC2 : Hid (acc ++ [x] = (l.take (k + 1)).filter (fun x => decide ((q : Int) < x))) := hide (by rw [hstep, HC.out]; simp [hqx])
        obtain ⟨A1, hA1⟩ : ∃ A, acc ++ [x] = A := ⟨_, rfl⟩
        rw [hA1] at HC2
        have hA := below_new wr (.cells #[.int .i64 x] 3)
        have HROW := hide (owns_keep HRow.out fun g hg => hA.block g (owns_lt HRow.out hg))
        have HT : Hid (ints acc ++ [.int .i64 x] = ints A1) := hide (by rw [← hA1]; unfold ints; simp)
        have HLN2 : Hid (acc.length + 1 = A1.length) := hide (by rw [← hA1]; simp)
        have HWS : Hid (W.heap.size ≤ wr.heap.size) := hide HW.out.size
        have HHI : Hid (∀ g, Value.ownBlock (.slice va acc.length vc) = some g → W.heap.size ≤ g) := hide fun g e => (HRow.out.lt g e).1
        have HA2 := hide hA
        have hw2 := HWS.out
        generalize acc.length = sl0 at *
        clear hA hx hI hstep hA1
        go_wp2_with (at_builtin; go_must (refine wpList_append_two _ rfl _ _ 26 rfl W.heap.size 3 iI _ 1 8 Try.underlying26 hiI zI0 zI1 zI2 rfl (by decide) (.slice va sl0 vc) sl0 (ints acc) rfl HROW.out ⟨wr.heap.size, 0, none⟩ 1 [.int .i64 x] rfl rfl (cell_one_new _ _ _) (by intro u hu; simp at hu; subst hu; rfl) (by unfold maxLen; omega) (by omega) (by simp; omega) ?_); intro g4 cap4 w4 hown4 hg4; rw [HT.out, HLN2.out] at hown4; have HO4 := hide hown4; have HB4 : Hid (Below W.heap.size W w4) := (hide (HW.out.trans ((HA2.out.mono HW.out.size).trans (by rcases hg4 with ⟨h1, h2⟩ | ⟨h1, h2⟩; exact (Fr.of_grown (Z := fun k => W.heap.size ≤ k) h2 (fun k e => by cases e; exact HHI.out _ h1)).below fun k hk => ⟨by have := HW.out.size; simp; omega, by omega⟩; exact (Fr.of_grown (Z := fun k => W.heap.size ≤ k) h2 (fun k e => by cases e)).below fun k hk => ⟨by have := HW.out.size; simp; omega, by omega⟩)))); clear hown4 hg4)
        go_roundw
        case rel => exact ⟨k + 1, A1, some ⟨g4, 0, none⟩, cap4, by omega, by go_num, by rw [HLN2.out], HC2, HO4, HB4⟩
        case measure => simp [intOf]; omega
      · have HC2 : Hid (acc = (l.take (k + 1)).filter (fun x => decide ((q : Int) < x))) := hide (by rw [hstep, HC.out]; simp [hqx])
        clear hx hI hstep
        go_wp2_with fail
        go_roundw
        case rel => exact ⟨k + 1, acc, va, vc, by omega, by go_num, rfl, HC2, HRow, HW⟩
        case measure => simp [intOf]; omega
    · have HE : Hid (acc = R) := hide (by rw [HC.out, ← HR.out, List.take_of_length_le (by rw [HM.out]; omega)])
      clear hI
      go_wp2_with fail
      go_ret
      rw [← HE.out]
      exact ⟨va, vc, rfl, owns_down HRow.out HB.out.size, HB.out.trans (HW.out.mono HB.out.size)⟩
end Go.Proofs.Ytinloodhmnjobaa.Rf
