/- The document's Encode. -/
import Derived.Test.YtagpdceaononkaaRfU
import Derived.Test.YtagpdceaononkaaRfC
import Derived.Test.YtagpdceaononkaaRfSm
import Derived.Test.YtagpdceaononkaaWEnc
namespace Go.Proofs.Ytagpdceaononkaa
open Go.RowKit

set_option maxRecDepth 100000 in
set_option maxHeartbeats 3200000 in
theorem little_any (n : Int) (w : World) :
    Calls Try.prog 24 #[.int .u32 n] w fun e w' => e = .returned (.slice (some ⟨w.heap.size, 0, none⟩) 4 4) ∧ w' = w.alloc (.cells (byts (fourB n)).toArray 5) := by
  have e0 : IntKind.u8.wrap n = n % 256 := IntKind.wrap_u8' _
  have e1 : IntKind.u8.wrap (n / 256) = n / 256 % 256 := IntKind.wrap_u8' _
  have e2 : IntKind.u8.wrap (n / 65536) = n / 65536 % 256 := IntKind.wrap_u8' _
  have e3 : IntKind.u8.wrap (n / 16777216) = n / 16777216 % 256 := IntKind.wrap_u8' _
  go_enter Try.func24, Try.ntmps24
  go_wp2_with fail
  go_ret
  exact ⟨rfl, rfl⟩
section
variable {w wr w2 : World} {B : Nat} {v : Value} {vs : List Value} {acc zs : List Int} {a a2 : Option Addr} {c c2 : Nat}
theorem Ws.new (h : Ws w B v vs acc a c wr) (hB : B ≤ w.heap.size) (x : Int) : (wr.alloc (.cells [Value.int .u8 x].toArray 5)).ownsRow B 5 1 (.slice a acc.length c) acc.length (byts acc) ∧ (∀ j u, [Value.int .u8 x][j]? = some u → (wr.alloc (.cells [Value.int .u8 x].toArray 5)).cell? ((⟨wr.heap.size, 0, none⟩ : Addr).add j) = some u) ∧ B ≤ (wr.alloc (.cells [Value.int .u8 x].toArray 5)).heap.size :=
  ⟨owns_keep h.row fun g hg => (below_new wr _).block g (owns_lt h.row hg), news_at rfl, by have := h.lt; simp; omega⟩
theorem Ws.grow2 {ob : Obj} {gg cap : Nat} {x : Int} (h : Ws w B v vs acc a c wr) (hv : ∀ g, v.ownBlock = some g → g < w.heap.size) (ho : w2.ownsRow B 5 1 (.slice (some ⟨gg, 0, none⟩) (acc.length + 1) cap) (acc.length + 1) (byts acc ++ [.int .u8 x]))
    (hg : (Value.ownBlock (.slice a acc.length c) = some gg ∧ (wr.alloc ob).grownBy w2 (some gg)) ∨ (gg = (wr.alloc ob).heap.size ∧ (wr.alloc ob).grownBy w2 none)) {ac1 : List Int} (hac : acc ++ [x] = ac1) : Ws w B v vs ac1 (some ⟨gg, 0, none⟩) cap w2 := by
  subst hac
  have hs : (wr.alloc ob).heap.size = wr.heap.size + 1 := by simp
  refine h.told hv (by rw [List.length_append, byts_app]; exact ho) ?_ fun g e => ?_
  · refine (Fr.of_below (below_new wr ob)).trans ?_
    rcases hg with ⟨e, h2⟩ | ⟨_, h2⟩
    · exact .of_grown h2 fun k hk => by cases hk; exact e
    · exact .of_grown h2 fun k hk => by cases hk
  · cases e
    rcases hg with ⟨e, _⟩ | ⟨e, _⟩
    · exact .inl e
    · exact .inr (by show wr.heap.size ≤ gg; omega)
end
theorem enc_none {l : List StM} (h : ¬ (chkM l).1 = 0) : encL l = [] := if_neg h
set_option maxRecDepth 100000 in
set_option maxHeartbeats 25600000 in
theorem rencode_any {N : Nat} {w : World} {l : List StM} {la : Option Addr} {lc : Nat} (hN : N ≤ w.heap.size) (hl : l.length ≤ 140737488351232) (h : Sts N w l la) :
    Calls Try.prog 12 #[.slice la l.length lc] w fun e w' => Encd l w e w' := by
  obtain ⟨i0, hi, hz0, hz1, hz2⟩ := info_parts infoB
  have CC := hide (rcheck_any (c := lc) hN hl h)
  obtain ⟨ea, eb, hab⟩ : ∃ a b, chkM l = (a, b) := ⟨_, _, rfl⟩
  rw [hab] at CC
  unfold dup at CC
  simp only at CC
  have HH := hide h
  have HN := hide hN
  clear h hN
  by_cases ha : ea = 0
  rotate_left
  · have h0 : ¬ (chkM l).1 = 0 := by rw [hab]; exact ha
    have HE := hide (enc_none h0)
    have HZ : Hid ((chkM l).1 = ea) := hide (by rw [hab])
    have hab2 : (ea != 0) = true := by simpa using ha
    clear hab h0
    go_enter Try.func12, Try.ntmps12
    go_wp2_with (go_at_call 10; refine CC.out.mono ?_; rintro _ w1 ⟨rfl, hw1⟩; have HB1 := hide hw1; clear hw1)
    go_ret2
    refine ⟨none, 0, ?_, ?_, HB1.out⟩
    · rw [HE.out, HZ.out]; rfl
    · rw [HE.out]; exact ⟨rfl, .inl ⟨rfl, rfl⟩⟩
  have h0 : (chkM l).1 = 0 := by rw [hab]; exact ha
  have ho := chk_okl h0
  have HOK := hide ho
  have HEL : Hid (encL l = encB l) := hide (if_pos h0)
  have HZ := hide h0
  subst ha
  clear hab h0
  obtain ⟨E, hE⟩ : ∃ E, bodyB l = E := ⟨_, rfl⟩
  have HLen : Hid (E.length ≤ 9000000000) := hide (by rw [← hE]; exact body_len ho)
  have HBy : Hid (∀ z ∈ E, 0 ≤ z ∧ z ≤ 255) := hide (by rw [← hE]; exact body_byte ho)
  have HE0 : Hid (markB ++ numB l.length ++ (l.drop 0).flatMap stB = E) := hide (by rw [← hE, List.drop_zero]; rfl)
  have HEnc : Hid (encB l = E ++ fourB (crc E)) := hide (by rw [← hE]; rfl)
  have hll := ho.len
  clear hE ho
  have CU0 := hide (fun X => rUint_any (l.length : Int) X (by omega) (by omega))
  have hwl : IntKind.u64.wrap (l.length : Int) = l.length := by rw [IntKind.wrap_u64]; omega
  go_enter Try.func12, Try.ntmps12
  go_upto_region 4 with (go_at_call 10; refine CC.out.mono ?_; rintro _ w1 ⟨rfl, hw1⟩; have HB1 := hide hw1; clear hw1)
  have HM : Hid (Wrt w markB (some ⟨w1.heap.size, 0, none⟩) 4 (w1.alloc (.cells #[.int .u8 108, .int .u8 120, .int .u8 100, .int .u8 1] 5))) := hide ⟨HB1.out.trans ((below_new w1 _).mono HB1.out.size), World.ownsRow_lit w1 #[.int .u8 108, .int .u8 120, .int .u8 100, .int .u8 1] 4 HB1.out.size (by unfold maxLen; omega) rfl⟩
  clear CC
  go_upto_region 5 with fail
  generalize w1.alloc (.cells #[.int .u8 108, .int .u8 120, .int .u8 100, .int .u8 1] 5) = wm at *
  generalize w1.heap.size = mb at *
  have HLM : Hid (markB.length ≤ 4) := hide (by decide)
  have hBM := HM.out.low.size
  obtain ⟨M1, hM1⟩ : ∃ M1, markB ++ numB (l.length : Int) = M1 := ⟨_, rfl⟩
  have HEQ := hide hM1
  rw [hM1] at HE0
  clear hM1
  go_upto_region 6 with (first
  | (go_at_call 23; refine (CU0.out _).mono ?_; rintro _ wu ⟨ua, uc, rfl, hu, hbu⟩; have HU := hide (src_own (zs := numB (l.length : Int)) hu); have HBU := hide hbu; have HOU := hide (owns_keep HM.out.row fun g hg => hbu.block g (owns_lt HM.out.row hg)); clear hu hbu)
  | (at_builtin; go_must (refine wpList_append_src _ (Nat.le_trans hBM HBU.out.size) (by rfl) _ _ 29 29 rfl 5 i0 _ 1 1 Try.underlying29 hi hz0 hz1 hz2 rfl _ _ _ rfl HOU.out _ (numB (l.length : Int)).length (byts (numB (l.length : Int))) rfl HU.out (by have := HLM.out; have := numB_len (l.length : Int); unfold maxLen; omega) (by have := HLM.out; have := numB_len (l.length : Int); omega) ?_); intro v4 w4 hown4 hg4 hat4; obtain ⟨a4, d4, rfl, ho4, hf4, hq4⟩ := told_of HEQ.out HBU.out hg4 hown4 hat4; have HW1 := hide (HM.out.told ho4 hf4); clear ho4 hf4 hq4 hown4 hg4 hat4))
  clear HU HBU HOU HM hBM HLM HEQ CU0
  go_wp2_with fail
  go_loopw [6, 7] (fun y x wr => ∃ (k : Nat) (acc : List Int) (a : Option Addr) (c : Nat), k ≤ l.length ∧ x = .int .i64 k ∧ y = .slice a acc.length c ∧ Hid (Wrt w acc a c wr) ∧ Hid (acc ++ (l.drop k).flatMap stB = E)) (fun _ x _ => l.length - (intOf x).toNat)
  case atStart => exact ⟨0, _, _, _, by omega, rfl, rfl, HW1, HE0⟩
  case round =>
    clear HW1 HE0
    obtain ⟨k, acc, a, c, hk, rfl, rfl, HW, HE⟩ := hrel
    by_cases hlt : k < l.length
    · obtain ⟨s, hs⟩ := get_at hlt
      obtain ⟨g, of, ca, cc, rfl, c0, c1, c2, c3, c4, hcl, hch⟩ := Sts.get (HH.out.keep (w' := wr) fun g hg => HW.out.low.block g (by have := HN.out; omega)) hs
      have hm := HOK.out.may s (List.mem_of_getElem? hs)
      obtain ⟨A, hA⟩ : ∃ A, acc ++ stB s = A := ⟨_, rfl⟩
      have HEA : Hid (A ++ (l.drop (k + 1)).flatMap stB = E) := hide (by rw [← HE.out, st_step hs, ← hA, List.append_assoc])
      have hAl : A.length ≤ 9000000000 := len_le HEA.out HLen.out
      obtain ⟨E1, hE1⟩ : ∃ E1, acc ++ [s.tag] = E1 := ⟨_, rfl⟩
      obtain ⟨E2, hE2⟩ : ∃ E2, E1 ++ numB s.lit = E2 := ⟨_, rfl⟩
      obtain ⟨E3, hE3⟩ : ∃ E3, E2 ++ [s.how] = E3 := ⟨_, rfl⟩
      obtain ⟨E4, hE4⟩ : ∃ E4, E3 ++ numB (s.rule + 1) = E4 := ⟨_, rfl⟩
      obtain ⟨E5, hE5⟩ : ∃ E5, E4 ++ numB (s.ch.length : Int) = E5 := ⟨_, rfl⟩
      have hE6 : E5 ++ (s.ch.drop 0).flatMap choB = A := by rw [← hA, ← hE5, ← hE4, ← hE3, ← hE2, ← hE1, List.drop_zero]; unfold stB; simp
      have l5 := len_le hE6 hAl
      have l4 := len_le hE5 l5
      have l3 := len_le hE4 l4
      have l2 := len_le hE3 l3
      have l1 := len_le hE2 l2
      have l0 := len_le hE1 l1
      have HL0 := hide l0
      have HL1 := hide l1
      have HL2 := hide l2
      have HL3 := hide l3
      have HL4 := hide l4
      have HE1n : Hid (acc.length + 1 = E1.length) := hide (by rw [← hE1, List.length_append]; rfl)
      have HE3n : Hid (E2.length + 1 = E3.length) := hide (by rw [← hE3, List.length_append]; rfl)
      have HE1 := hide hE1
      have HE2 := hide hE2
      have HE3 := hide hE3
      have HE4 := hide hE4
      have HE5 := hide hE5
      have HE6 := hide hE6
      have HAL := hide hAl
      have HMY := hide hm
      have hwt : IntKind.u8.wrap s.tag = s.tag := by rw [IntKind.wrap_u8']; have := hm.t0; have := hm.t1; omega
      have hwh : IntKind.u8.wrap s.how = s.how := by rw [IntKind.wrap_u8']; have := hm.h0; have := hm.h1; omega
      have hw1 : IntKind.u64.wrap s.lit = s.lit := by rw [IntKind.wrap_u64]; have := hm.l0; have := hm.l1; omega
      have hw2 : IntKind.i64.wrap (s.rule + 1) = s.rule + 1 := by rw [IntKind.wrap_i64]; have := hm.r0; have := hm.r1; omega
      have hw3 : IntKind.u64.wrap (s.rule + 1) = s.rule + 1 := by rw [IntKind.wrap_u64]; have := hm.r0; have := hm.r1; omega
      have hw4 : IntKind.u64.wrap (s.ch.length : Int) = s.ch.length := by rw [IntKind.wrap_u64]; omega
      have hcm := hm.cl
      have CU1 := hide (fun X => rUint_any s.lit X hm.l0 (by have := hm.l1; omega))
      have CU2 := hide (fun X => rUint_any (s.rule + 1) X (by have := hm.r0; omega) (by have := hm.r1; omega))
      have CU3 := hide (fun X => rUint_any (s.ch.length : Int) X (by omega) (by omega))
      have hAw := below_new wr (.cells (stc s ca cc).toArray 52)
      have HB0 := hide HW.out.low.size
      have HV : Hid (∀ g, Value.ownBlock (.slice a acc.length c) = some g → g < wr.heap.size) := hide fun g e => (HW.out.row.lt g e).2
      have HVB : Hid (∀ g, Value.ownBlock (.slice a acc.length c) = some g → w.heap.size ≤ g) := hide fun g e => (HW.out.row.lt g e).1
      have HW0 : Hid (Ws wr w.heap.size (.slice a acc.length c) (stc s ca cc) acc a c (wr.alloc (.cells (stc s ca cc).toArray 52))) := hide ⟨owns_keep HW.out.row fun g hg => hAw.block g (owns_lt HW.out.row hg), .of_below hAw, fun g e => .inl e, fx_new wr _ _⟩
      have HCH := hide ((hch.keep (w' := wr.alloc (.cells (stc s ca cc).toArray 52)) fun g hg => hAw.block g (by have := HN.out; have := HB0.out; omega)).up HN.out)
      have HWL := hide HW.out.low
      have HKC := hide (hch.up HN.out)
      clear hs hch hm hAw HE HW hE1 hE2 hE3 hE4 hE5 hE6 l0 l1 l2 l3 l4 l5 hA hAl
      go_upto_region 10 with fail
      unfold stc at HW0
      generalize wr.alloc (.cells [.int .i64 s.tag, .int .i64 s.lit, .int .i64 s.how, .int .i64 s.rule, .slice ca s.ch.length cc].toArray 52) = X0 at *
      clear c0 c1 c2 c3 c4 HCH
      obtain ⟨c0, c1, c2, c3, c4⟩ := five_cells HW0.out.bx
      have HNX := hide (Ws.new HW0.out HB0.out s.tag)
      go_upto_region 11 with (at_builtin; go_must (refine wpList_append_two _ rfl _ _ 29 rfl w.heap.size 5 i0 _ 1 1 Try.underlying29 hi hz0 hz1 hz2 rfl (by decide) _ _ _ rfl HNX.out.1 _ 1 [.int .u8 s.tag] rfl rfl HNX.out.2.1 (by simp [Value.oneCell']) (by have := HL0.out; unfold maxLen; omega) (by have := HL0.out; omega) HNX.out.2.2 ?_); intro gg cap w5 hown hg5; have HW1 := hide (HW0.out.grow2 HV.out hown hg5 HE1.out); rw [HE1n.out]; clear hown hg5)
      clear HNX HW0 c0 c1 c2 c3 c4
      obtain ⟨c0, c1, c2, c3, c4⟩ := five_cells HW1.out.bx
      have hBW := Nat.le_trans HB0.out (Nat.le_of_lt HW1.out.lt)
      go_upto_region 12 with (first
        | (go_at_call 23; refine (CU1.out _).mono ?_; rintro _ wu ⟨ua, uc, rfl, hu, hbu⟩; have HU := hide (src_own (zs := numB s.lit) hu); have HBU := hide hbu; have HOU := hide (owns_keep HW1.out.row fun g hg => hbu.block g (owns_lt HW1.out.row hg)); clear hu hbu)
        | (at_builtin; go_must (refine wpList_append_src _ (Nat.le_trans hBW HBU.out.size) (by rfl) _ _ 29 29 rfl 5 i0 _ 1 1 Try.underlying29 hi hz0 hz1 hz2 rfl _ _ _ rfl HOU.out _ (numB s.lit).length (byts (numB s.lit)) rfl HU.out (by have := HL1.out; have := numB_len s.lit; unfold maxLen; omega) (by have := HL1.out; have := numB_len s.lit; omega) ?_); intro v4 w4 hown4 hg4 hat4; obtain ⟨a4, d4, rfl, ho4, hf4, hq4⟩ := told_of HE2.out HBU.out hg4 hown4 hat4; have HW2 := hide (HW1.out.told HV.out ho4 hf4 hq4); clear ho4 hf4 hq4 hown4 hg4 hat4))
      clear HU HBU HOU HW1 c0 c1 c2 c3 c4 hBW
      obtain ⟨c0, c1, c2, c3, c4⟩ := five_cells HW2.out.bx
      have HNX := hide (Ws.new HW2.out HB0.out s.how)
      go_upto_region 13 with (at_builtin; go_must (refine wpList_append_two _ rfl _ _ 29 rfl w.heap.size 5 i0 _ 1 1 Try.underlying29 hi hz0 hz1 hz2 rfl (by decide) _ _ _ rfl HNX.out.1 _ 1 [.int .u8 s.how] rfl rfl HNX.out.2.1 (by simp [Value.oneCell']) (by have := HL2.out; unfold maxLen; omega) (by have := HL2.out; omega) HNX.out.2.2 ?_); intro gg cap w5 hown hg5; have HW3 := hide (HW2.out.grow2 HV.out hown hg5 HE3.out); rw [HE3n.out]; clear hown hg5)
      clear HNX HW2 c0 c1 c2 c3 c4
      obtain ⟨c0, c1, c2, c3, c4⟩ := five_cells HW3.out.bx
      have hBW := Nat.le_trans HB0.out (Nat.le_of_lt HW3.out.lt)
      go_upto_region 14 with (first
        | (go_at_call 23; refine (CU2.out _).mono ?_; rintro _ wu ⟨ua, uc, rfl, hu, hbu⟩; have HU := hide (src_own (zs := numB (s.rule + 1)) hu); have HBU := hide hbu; have HOU := hide (owns_keep HW3.out.row fun g hg => hbu.block g (owns_lt HW3.out.row hg)); clear hu hbu)
        | (at_builtin; go_must (refine wpList_append_src _ (Nat.le_trans hBW HBU.out.size) (by rfl) _ _ 29 29 rfl 5 i0 _ 1 1 Try.underlying29 hi hz0 hz1 hz2 rfl _ _ _ rfl HOU.out _ (numB (s.rule + 1)).length (byts (numB (s.rule + 1))) rfl HU.out (by have := HL3.out; have := numB_len (s.rule + 1); unfold maxLen; omega) (by have := HL3.out; have := numB_len (s.rule + 1); omega) ?_); intro v4 w4 hown4 hg4 hat4; obtain ⟨a4, d4, rfl, ho4, hf4, hq4⟩ := told_of HE4.out HBU.out hg4 hown4 hat4; have HW4 := hide (HW3.out.told HV.out ho4 hf4 hq4); clear ho4 hf4 hq4 hown4 hg4 hat4))
      clear HU HBU HOU HW3 c0 c1 c2 c3 c4 hBW
      obtain ⟨c0, c1, c2, c3, c4⟩ := five_cells HW4.out.bx
      have hBW := Nat.le_trans HB0.out (Nat.le_of_lt HW4.out.lt)
      go_upto_region 15 with (first
        | (go_at_call 23; refine (CU3.out _).mono ?_; rintro _ wu ⟨ua, uc, rfl, hu, hbu⟩; have HU := hide (src_own (zs := numB (s.ch.length : Int)) hu); have HBU := hide hbu; have HOU := hide (owns_keep HW4.out.row fun g hg => hbu.block g (owns_lt HW4.out.row hg)); clear hu hbu)
        | (at_builtin; go_must (refine wpList_append_src _ (Nat.le_trans hBW HBU.out.size) (by rfl) _ _ 29 29 rfl 5 i0 _ 1 1 Try.underlying29 hi hz0 hz1 hz2 rfl _ _ _ rfl HOU.out _ (numB (s.ch.length : Int)).length (byts (numB (s.ch.length : Int))) rfl HU.out (by have := HL4.out; have := numB_len (s.ch.length : Int); unfold maxLen; omega) (by have := HL4.out; have := numB_len (s.ch.length : Int); omega) ?_); intro v4 w4 hown4 hg4 hat4; obtain ⟨a4, d4, rfl, ho4, hf4, hq4⟩ := told_of HE5.out HBU.out hg4 hown4 hat4; have HW5 := hide (HW4.out.told HV.out ho4 hf4 hq4); clear ho4 hf4 hq4 hown4 hg4 hat4))
      clear HU HBU HOU HW4 c0 c1 c2 c3 c4 hBW
      obtain ⟨c0, c1, c2, c3, c4⟩ := five_cells HW5.out.bx
      go_upto_region 16 with fail
      clear c0 c1 c2 c3 c4 CU1 CU2 CU3 hw1 hw2 hw3 hw4
      go_loopw [6, 9] (fun y x wq => ∃ (m : Nat) (ac2 : List Int) (a2 : Option Addr) (d2 : Nat), m ≤ s.ch.length ∧ x = .int .i64 m ∧ y = .slice a2 ac2.length d2 ∧ Hid (Ws wr w.heap.size (.slice a acc.length c) [.int .i64 s.tag, .int .i64 s.lit, .int .i64 s.how, .int .i64 s.rule, .slice ca s.ch.length cc] ac2 a2 d2 wq) ∧ Hid (ac2 ++ (s.ch.drop m).flatMap choB = A)) (fun _ x _ => s.ch.length - (intOf x).toNat)
      case atStart => exact ⟨0, _, _, _, by omega, rfl, rfl, HW5, HE6⟩
      case round =>
        clear HW5 HE6
        obtain ⟨m, ac2, a2, d2, hm2, rfl, rfl, HW0, HEm⟩ := hrel
        by_cases hlt2 : m < s.ch.length
        · obtain ⟨x, hx⟩ := get_at hlt2
          have hlow := HW0.out.low HB0.out HVB.out
          obtain ⟨g2, o2, rfl, -, d0, d1⟩ := (HKC.out.keep hlow.block) m x hx
          have hxb := HMY.out.ch x (List.mem_of_getElem? hx)
          obtain ⟨F1, hF1⟩ : ∃ F1, ac2 ++ numB (x.1 + 1) = F1 := ⟨_, rfl⟩
          obtain ⟨F2, hF2⟩ : ∃ F2, F1 ++ numB (x.2 + 1) = F2 := ⟨_, rfl⟩
          have HF3 : Hid (F2 ++ (s.ch.drop (m + 1)).flatMap choB = A) := hide (by rw [← HEm.out, cho_step hx, ← hF2, ← hF1]; simp)
          have HM2 := hide (len_le HF3.out HAL.out)
          have HM1 := hide (len_le hF2 HM2.out)
          have HM0 := hide (len_le hF1 HM1.out)
          have HF1 := hide hF1
          have HF2 := hide hF2
          have CV1 := hide (fun X => rUint_any (x.1 + 1) X (by omega) (by omega))
          have CV2 := hide (fun X => rUint_any (x.2 + 1) X (by omega) (by omega))
          have hy1 : IntKind.i64.wrap (x.1 + 1) = x.1 + 1 := by rw [IntKind.wrap_i64]; omega
          have hy2 : IntKind.u64.wrap (x.1 + 1) = x.1 + 1 := by rw [IntKind.wrap_u64]; omega
          have hy3 : IntKind.i64.wrap (x.2 + 1) = x.2 + 1 := by rw [IntKind.wrap_i64]; omega
          have hy4 : IntKind.u64.wrap (x.2 + 1) = x.2 + 1 := by rw [IntKind.wrap_u64]; omega
          have HXX := hide hx
          clear hx hlow hxb hF1 hF2 HEm
          obtain ⟨c0, c1, c2, c3, c4⟩ := five_cells HW0.out.bx
          have hBW := Nat.le_trans HB0.out (Nat.le_of_lt HW0.out.lt)
          go_upto_region 19 with (first
            | (go_at_call 23; refine (CV1.out _).mono ?_; rintro _ wu ⟨ua, uc, rfl, hu, hbu⟩; have HU := hide (src_own (zs := numB (x.1 + 1)) hu); have HBU := hide hbu; have HOU := hide (owns_keep HW0.out.row fun g hg => hbu.block g (owns_lt HW0.out.row hg)); clear hu hbu)
            | (at_builtin; go_must (refine wpList_append_src _ (Nat.le_trans hBW HBU.out.size) (by rfl) _ _ 29 29 rfl 5 i0 _ 1 1 Try.underlying29 hi hz0 hz1 hz2 rfl _ _ _ rfl HOU.out _ (numB (x.1 + 1)).length (byts (numB (x.1 + 1))) rfl HU.out (by have := HM0.out; have := numB_len (x.1 + 1); unfold maxLen; omega) (by have := HM0.out; have := numB_len (x.1 + 1); omega) ?_); intro v4 w4 hown4 hg4 hat4; obtain ⟨a4, d4, rfl, ho4, hf4, hq4⟩ := told_of HF1.out HBU.out hg4 hown4 hat4; have HWa := hide (HW0.out.told HV.out ho4 hf4 hq4); clear ho4 hf4 hq4 hown4 hg4 hat4))
          clear HU HBU HOU HW0 c0 c1 c2 c3 c4 hBW
          have hlow := HWa.out.low HB0.out HVB.out
          obtain ⟨g3, o3, e3, -, f0, f1⟩ := (HKC.out.keep hlow.block) m x HXX.out
          cases e3
          clear d0 d1 hlow f0
          obtain ⟨c0, c1, c2, c3, c4⟩ := five_cells HWa.out.bx
          have hBW := Nat.le_trans HB0.out (Nat.le_of_lt HWa.out.lt)
          go_wp2_with (first
  | (go_at_call 23; refine (CV2.out _).mono ?_; rintro _ wu ⟨ua, uc, rfl, hu, hbu⟩; have HU := hide (src_own (zs := numB (x.2 + 1)) hu); have HBU := hide hbu; have HOU := hide (owns_keep HWa.out.row fun g hg => hbu.block g (owns_lt HWa.out.row hg)); clear hu hbu)
  | (at_builtin; go_must (refine wpList_append_src _ (Nat.le_trans hBW HBU.out.size) (by rfl) _ _ 29 29 rfl 5 i0 _ 1 1 Try.underlying29 hi hz0 hz1 hz2 rfl _ _ _ rfl HOU.out _ (numB (x.2 + 1)).length (byts (numB (x.2 + 1))) rfl HU.out (by have := HM1.out; have := numB_len (x.2 + 1); unfold maxLen; omega) (by have := HM1.out; have := numB_len (x.2 + 1); omega) ?_); intro v4 w4 hown4 hg4 hat4; obtain ⟨a4, d4, rfl, ho4, hf4, hq4⟩ := told_of HF2.out HBU.out hg4 hown4 hat4; have HWb := hide (HWa.out.told HV.out ho4 hf4 hq4); clear ho4 hf4 hq4 hown4 hg4 hat4))
          go_roundw
          case rel => exact ⟨m + 1, F2, _, _, by omega, by go_num, rfl, HWb, HF3⟩
          case measure => simp [intOf]; omega
        · have hAE : ac2 = A := by have := HEm.out; rw [drop_end (by omega)] at this; simpa using this
          subst hAE
          obtain ⟨c0, c1, c2, c3, c4⟩ := five_cells HW0.out.bx
          have HWN : Hid (Wrt w ac2 a2 d2 wr) := hide ⟨HWL.out.trans (HW0.out.low HB0.out HVB.out), HW0.out.row⟩
          clear HEm
          go_wp2_with fail
          go_roundw
          case rel => exact ⟨k + 1, ac2, _, _, by omega, by go_num, rfl, HWN, HEA⟩
          case measure => simp [intOf]; omega
    · have hAE : acc = E := by have := HE.out; rw [drop_end (by omega)] at this; simpa using this
      subst hAE
      obtain ⟨hr1, hr2, hr3⟩ := row_of_owns HW.out.row HBy.out
      have CS := hide (refSum_any a acc.length c acc wr rfl (by have := HLen.out; omega) hr1)
      clear HE hr1 hr2 hr3
      obtain ⟨n, hn⟩ : ∃ n, crc acc = n := ⟨_, rfl⟩
      rw [hn] at CS
      have HEnc2 : Hid (encB l = acc ++ fourB n) := hide (by rw [← hn]; exact HEnc.out)
      have CLt := hide (little_any n wr)
      have hA := below_new wr (.cells (byts (fourB n)).toArray 5)
      have HW4 := hide (HW.out.call hA)
      have HSRC : Hid (Src Try.prog 1 29 (.slice (some ⟨wr.heap.size, 0, none⟩) 4 4) 4 (byts (fourB n)) (wr.alloc (.cells (byts (fourB n)).toArray 5))) := hide (Src.ofSlice _ Try.underlying29 ⟨wr.heap.size, 0, none⟩ 4 4 (byts (fourB n)) rfl (news_at rfl) (by intro u hu; obtain ⟨x, _, rfl⟩ := List.mem_map.1 hu; rfl))
      have hl9 := HLen.out
      clear hn HEnc hA
      generalize wr.alloc (.cells (byts (fourB n)).toArray 5) = X at *
      go_wp2_with (first
        | (go_at_call 25; refine CS.out.mono ?_; rintro _ w3 ⟨rfl, hw3⟩; subst w3)
        | (go_at_call 24; refine CLt.out.mono ?_; rintro _ w3 ⟨rfl, hw3⟩; subst w3)
        | (at_builtin; go_must (refine wpList_append_src _ HW4.out.low.size (by rfl) _ _ 29 29 rfl 5 i0 _ 1 1 Try.underlying29 hi hz0 hz1 hz2 rfl _ _ _ rfl HW4.out.row _ 4 (byts (fourB n)) rfl HSRC.out (by unfold maxLen; omega) (by omega) ?_); intro v4 w4 hown4 hg4 hat4; obtain ⟨a4, c4, rfl⟩ := owns_slice hown4; have HO4 := hide hown4; have HG4 := hide (grown_row_fr (Below.refl _ _) hg4); clear hown4 hg4 hat4))
      go_ret2
      refine ⟨a4, c4, ?_, ?_, ?_⟩
      · rw [HEL.out, HEnc2.out, List.length_append, HZ.out]; rfl
      · rw [HEL.out, HEnc2.out, List.length_append, byts_app]; exact HO4.out
      · exact (HW4.out.low.trans (HG4.out.below fun k hk => ⟨Nat.lt_of_lt_of_le hk HW4.out.low.size, fun e => by have := (HW4.out.row.lt k e).1; omega⟩))
end Go.Proofs.Ytagpdceaononkaa
