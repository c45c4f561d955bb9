/- The document's Encode. -/
import Derived.Test.YtinloodhmnjobaaRfu
import Derived.Lib.SlBytesConst
namespace Go.Proofs.Ytinloodhmnjobaa.Rf
open Go.RowKit

section
variable {w w1 w2 : World} {v0 v1 v2 v3 v4 : Value} {acc us A : List Int} {a : Option Addr} {c : Nat}
theorem wrt_app (hA : acc ++ us = A) (h : Wrt w v0 v1 v2 v3 acc a c w1) (hown : w2.ownsRow (w.heap.size + 1) 5 1 v4 (acc.length + us.length) (byts acc ++ byts us)) (hg : w1.grownBy w2 (Value.ownBlock (.slice a acc.length c))) :
    ∃ a2 c2, v4 = .slice a2 A.length c2 ∧ Wrt w v0 v1 v2 v3 A a2 c2 w2 ∧ Fr (fun k => Value.ownBlock (.slice a acc.length c) = some k) w1 w2 := by
  subst hA
  rw [← byts_app, ← List.length_append] at hown
  obtain ⟨a2, c2, rfl⟩ := owns_slice hown
  have hf : Fr (fun k => Value.ownBlock (.slice a acc.length c) = some k) w1 w2 := .of_grown hg fun _ e => e
  exact ⟨a2, c2, rfl, h.told hown hf, hf⟩
end
set_option maxRecDepth 100000 in
set_option maxHeartbeats 25600000 in
theorem rEncode_any {w : World} {T : Th} {fa ra ba : Option Addr} {fc rc bc : Nat} (h : TA w.heap.size w T fa fc ra rc ba bc) :
    Calls Try.prog 9 #[tv T fa fc ra rc ba bc] w fun e w' => Encd T w e w' ∧ Below w.heap.size w w' := by
  obtain ⟨i0, hi, hz0, hz1, hz2⟩ := info_parts infoB
  have hB := below_new w (.cells #[.int .i64 T.lits, .slice fa T.foes.length fc, .slice ra T.rules.length rc, .slice ba T.beats.length bc] 25)
  have hX := heap_alloc_new w (.cells #[.int .i64 T.lits, .slice fa T.foes.length fc, .slice ra T.rules.length rc, .slice ba T.beats.length bc] 25)
  have hL := TR.go hB h
  have CC := hide (rcheck_any hL)
  have HH := hide h
  have HB := hide hB
  have HX := hide hX
  obtain ⟨a, b, hab⟩ : ∃ a b, checkM T = (a, b) := ⟨_, _, rfl⟩
  rw [hab] at CC
  unfold dup at CC
  simp only at CC
  have hfl := h.foes.lim
  have hrl := h.rules.lim
  have hbl := h.beats.lim
  clear h hB hL
  by_cases ha : a = 0
  · have h0 : (checkM T).1 = 0 := by rw [hab]; exact ha
    have hT := check_ok h0
    have HT := hide hT
    have HE : Hid ((if (checkM T).1 = 0 then encM T else []) = encM T) := hide (if_pos h0)
    have HZ : Hid ((checkM T).1 = 0) := hide h0
    obtain ⟨E, hE⟩ : ∃ E, encM T = E := ⟨_, rfl⟩
    have HEE := hide hE
    have HLen : Hid (E.length ≤ 1000000000) := hide (by rw [← hE]; exact enc_len hT)
    have HE0 : Hid (markB ++ (numB T.lits ++ (foesB 0 (T.foes.drop 0) ++ (numB T.rules.length ++ (T.rules.flatMap ruleB ++ T.beats.flatMap listB)))) = E) := hide (by rw [← hE, List.drop_zero]; unfold encM; simp)
    have hl0 := hT.l0
    have hl1 := hT.l1
    have hr4 := hT.rl
    have HFL := hide hT.fl
    subst ha
    clear hab h0 hT hE
    go_enter Try.func9, Try.ntmps9
    go_upto_region 1 with fail
    generalize w.alloc (.cells #[.int .i64 T.lits, .slice fa T.foes.length fc, .slice ra T.rules.length rc, .slice ba T.beats.length bc] 25) = W at *
    obtain ⟨-, c0, c1, c2, c3⟩ := Bt.of hX
    clear hX
    go_upto_region 4 with (go_at_call 7; refine CC.out.mono ?_; rintro _ w1 ⟨rfl, hw1⟩; have HB1 := hide (HB.out.trans (hw1.mono HB.out.size)); have HX1 := hide ((hw1.block _ (loc_lt HX.out)).trans HX.out); clear hw1)
    clear c0 c1 c2 c3 CC HX HB
    have hA1 := below_new w1 (.cells #[.int .u8 116, .int .u8 104, .int .u8 121] 5 (3, 4))
    have hA2 := below_new (w1.alloc (.cells #[.int .u8 116, .int .u8 104, .int .u8 121] 5 (3, 4))) (.cells #[.int .u8 1] 5)
    have HB2 := hide (hA1.trans (hA2.mono hA1.size))
    have HSW : Hid (w.heap.size + 1 ≤ w1.heap.size) := hide (loc_lt HX1.out)
    have hMk : ((w1.alloc (.cells #[.int .u8 116, .int .u8 104, .int .u8 121] 5 (3, 4))).alloc (.cells #[.int .u8 1] 5)).heap[w1.heap.size]? = some (.cells #[.int .u8 116, .int .u8 104, .int .u8 121] 5 (3, 4)) := (hA2.block _ (by simp)).trans (heap_alloc_new w1 _)
    have HLC : Hid (∀ j u, (byts [116, 104, 121])[j]? = some u → ((w1.alloc (.cells #[.int .u8 116, .int .u8 104, .int .u8 121] 5 (3, 4))).alloc (.cells #[.int .u8 1] 5)).cell? ((⟨w1.heap.size, 0, none⟩ : Addr).add j) = some u) := hide fun j u hu => by
      rw [Addr.add_lit]
      unfold World.cell?
      simp only [hMk, Nat.zero_add]
      simpa [byts] using hu
    have HSR : Hid (Src Try.prog 1 34 (.slice (some ⟨w1.heap.size + 1, 0, none⟩) 1 1) 1 (byts [1]) ((w1.alloc (.cells #[.int .u8 116, .int .u8 104, .int .u8 121] 5 (3, 4))).alloc (.cells #[.int .u8 1] 5))) := hide (by
      have h1 := World.ownsRow_lit (e := 5) (size := 1) (w1.alloc (.cells #[.int .u8 116, .int .u8 104, .int .u8 121] 5 (3, 4))) #[.int .u8 1] 1 (Nat.le_refl _) (by unfold maxLen; omega) rfl
      rw [show (w1.alloc (.cells #[.int .u8 116, .int .u8 104, .int .u8 121] 5 (3, 4))).heap.size = w1.heap.size + 1 by simp] at h1
      exact src_own (zs := [1]) h1)
    clear hA1 hA2 hMk
    have hcv := Lib.run_convert_bytes_const (P := Try.prog) w1 34 5 #[.int .u8 116, .int .u8 104, .int .u8 121] 3 3 Try.underlying34 Try.underlying5
    rw [show (#[.int .u8 116, .int .u8 104, .int .u8 121] : Array Value).size = 3 from rfl] at hcv
    go_upto_region 5 with (at_builtin; go_must (refine wpList_append_full _ (base := w.heap.size + 1) (by have := HSW.out; simp; omega) (by rfl) _ _ 34 34 rfl 5 i0 _ 1 1 Try.underlying34 hi hz0 hz1 hz2 rfl w1.heap.size 3 (byts [116, 104, 121]) rfl rfl HLC.out _ 1 (byts [1]) rfl HSR.out (by decide) (by unfold maxLen; omega) (by omega) ?_); intro v4 w4 hown4 hg4; obtain ⟨a4, c4, rfl⟩ := owns_slice hown4; have HO4 := hide hown4; have HB4 := hide (HB2.out.grown hg4 HB2.out.size (by simp)); clear hown4 hg4)
    clear hcv HLC HSR HB2
    have HW4 : Hid (Wrt w (.int .i64 T.lits) (.slice fa T.foes.length fc) (.slice ra T.rules.length rc) (.slice ba T.beats.length bc) markB a4 c4 w4) := hide ⟨HB1.out.trans (HB4.out.mono HB1.out.size), (HB4.out.block _ (loc_lt HX1.out)).trans HX1.out, HO4.out⟩
    clear HO4 HB4 HB1 HX1 HSW
    obtain ⟨-, c0, c1, c2, c3⟩ := Bt.of HW4.out.bx
    obtain ⟨A1, hA1⟩ : ∃ A, markB ++ numB T.lits = A := ⟨_, rfl⟩
    have HA1 := hide hA1
    have HE1 : Hid (A1 ++ (foesB 0 (T.foes.drop 0) ++ (numB T.rules.length ++ (T.rules.flatMap ruleB ++ T.beats.flatMap listB))) = E) := hide (by rw [← HE0.out, ← hA1]; simp)
    have CU := hide (rUint_any T.lits w4 hl0 (by omega))
    have HLN := hide (numB_len T.lits)
    have hwl : IntKind.u64.wrap T.lits = T.lits := by rw [IntKind.wrap_u64]; omega
    clear hA1 HE0
    go_upto_region 6 with (first | (go_at_call 30; refine CU.out.mono ?_; rintro _ wu ⟨ua, uc, rfl, hu, hb1⟩; have HU := hide (src_own (zs := numB (T.lits)) hu); have HW1 := hide (HW4.out.call hb1); have HB1 := hide hb1; clear hu hb1) | (at_builtin; go_must (refine wpList_append_src _ HW1.out.size (by rfl) _ _ 34 34 rfl 5 i0 _ 1 1 Try.underlying34 hi hz0 hz1 hz2 rfl (.slice a4 4 c4) (4) (byts markB) rfl HW1.out.row (.slice ua (numB (T.lits)).length uc) (numB (T.lits)).length (byts (numB (T.lits))) rfl HU.out (by have := HLN.out; unfold maxLen; omega) (by have := HLN.out; omega) ?_); intro v4 w4 hown4 hg4 hat4; have HT4 := hide (wrt_app (acc := markB) HA1.out HW1.out hown4 hg4); clear hown4 hg4 hat4))
    obtain ⟨a5, c5, rfl, hw5, -⟩ := HT4.out
    have HW5 := hide hw5
    clear c0 c1 c2 c3 HT4 hw5 HW4 HW1 HU HB1 CU HLN hwl HA1
    go_wp2_with fail
    go_loopw [6, 7] (fun y x wr => ∃ (k : Nat) (acc : List Int) (a : Option Addr) (c : Nat), k ≤ T.foes.length ∧ x = .int .i64 k ∧ y = .slice a acc.length c ∧ Hid (Wrt w (.int .i64 T.lits) (.slice fa T.foes.length fc) (.slice ra T.rules.length rc) (.slice ba T.beats.length bc) acc a c wr) ∧ Hid (acc ++ (foesB k (T.foes.drop k) ++ (numB T.rules.length ++ (T.rules.flatMap ruleB ++ T.beats.flatMap listB))) = E)) (fun _ x _ => T.foes.length - (intOf x).toNat)
    case atStart => exact ⟨0, A1, a5, c5, by omega, rfl, rfl, HW5, HE1⟩
    case round =>
      clear HW5 HE1
      obtain ⟨k, acc, a, c, hk, rfl, rfl, HW, HE1⟩ := hrel
      have hacc : acc.length ≤ 1000000000 := by have h1 := congrArg List.length HE1.out; have h2 := HLen.out; rw [List.length_append] at h1; omega
      obtain ⟨-, c0, c1, c2, c3⟩ := Bt.of HW.out.bx
      by_cases hlt : k < T.foes.length
      · have hlt2 : (k : Int) < T.lits := by have := HFL.out; omega
        obtain ⟨l, hl⟩ := get_at hlt
        obtain ⟨hll, hri, -, -⟩ := HT.out.foe k l hl
        have hri2 := (rises_iff.1 hri).2
        have CA := hide (rabove_any (TR.go HW.out.low HH.out) hl hll hri2)
        have HE2 : Hid (acc ++ listB (aboveM k l) ++ (foesB (k + 1) (T.foes.drop (k + 1)) ++ (numB T.rules.length ++ (T.rules.flatMap ruleB ++ T.beats.flatMap listB))) = E) := hide (by rw [← HE1.out, foes_step hl]; simp)
        have HMem : Hid (∀ z ∈ aboveM k l, 0 ≤ z ∧ z < 9223372036854775808) := hide fun z hz => by have := (above_rises (i := (k : Int)) hri).1 z hz; omega
        have HAL : Hid ((aboveM (k : Int) l).length ≤ 140737488351232) := hide (by have := above_len (i := (k : Int)) (l := l); omega)
        obtain ⟨A2, hA2⟩ : ∃ A, acc ++ listB (aboveM (k : Int) l) = A := ⟨_, rfl⟩
        rw [hA2] at HE2
        have HL2 : Hid ((acc ++ listB (aboveM (k : Int) l)).length ≤ 1000000000) := hide (by rw [hA2]; have h1 := congrArg List.length HE2.out; have h2 := HLen.out; rw [List.length_append] at h1; omega)
        have HA2 := hide hA2
        clear hl hri hri2 HE1 hll hA2
        generalize aboveM (k : Int) l = al at *
        go_wp2_with (first | (go_at_call 32; refine CA.out.mono ?_; rintro _ w2 ⟨la, lc, rfl, hown2, hw2⟩; have HW2 := hide (HW.out.call hw2); have CL := hide (rlist_any (lc := lc) HW2.out.row HW2.out.size (owns_at1 hown2) (fun _ g o e1 e2 => by subst e1; have h1 := (hown2.lt g rfl).1; have h2 := owns_lt HW.out.row e2; omega) HAL.out HMem.out HL2.out); rw [HA2.out] at CL; clear hown2 hw2) | (go_at_call 31; refine CL.out.mono ?_; rintro _ w3 ⟨a3, d3, rfl, ho3, hf3, -⟩; have HW3 := hide (HW2.out.told ho3 hf3); clear ho3 hf3))
        go_roundw
        case rel => exact ⟨k + 1, A2, a3, d3, by omega, by go_num, rfl, HW3, HE2⟩
        case measure => simp [intOf]; omega
      · have hlt2 : ¬ (k : Int) < T.lits := by have := HFL.out; omega
        obtain ⟨A2, hA2⟩ : ∃ A, acc ++ numB T.rules.length = A := ⟨_, rfl⟩
        have HA2 := hide hA2
        have HE2 : Hid (A2 ++ ((T.rules.drop 0).flatMap ruleB ++ T.beats.flatMap listB) = E) := hide (by rw [← HE1.out, drop_end (l := T.foes) (by omega), List.drop_zero, ← hA2]; simp [foesB])
        have CU := hide (rUint_any T.rules.length wr (by omega) (by omega))
        have HLN := hide (numB_len T.rules.length)
        have hwl : IntKind.u64.wrap (T.rules.length : Int) = T.rules.length := by rw [IntKind.wrap_u64]; omega
        clear HE1 hA2
        go_upto_region 11 with (first | (go_at_call 30; refine CU.out.mono ?_; rintro _ wu ⟨ua, uc, rfl, hu, hb1⟩; have HU := hide (src_own (zs := numB (T.rules.length)) hu); have HW1 := hide (HW.out.call hb1); have HB1 := hide hb1; clear hu hb1) | (at_builtin; go_must (refine wpList_append_src _ HW1.out.size (by rfl) _ _ 34 34 rfl 5 i0 _ 1 1 Try.underlying34 hi hz0 hz1 hz2 rfl (.slice a acc.length c) (acc.length) (byts acc) rfl HW1.out.row (.slice ua (numB (T.rules.length)).length uc) (numB (T.rules.length)).length (byts (numB (T.rules.length))) rfl HU.out (by have := HLN.out; unfold maxLen; omega) (by have := HLN.out; omega) ?_); intro v4 w4 hown4 hg4 hat4; have HT4 := hide (wrt_app (acc := acc) HA2.out HW1.out hown4 hg4); clear hown4 hg4 hat4))
        obtain ⟨a6, c6, rfl, hw6, -⟩ := HT4.out
        have HW6 := hide hw6
        clear c0 c1 c2 c3 HT4 hw6 HW HW1 HU HB1 CU HLN hwl HA2 hacc hlt hlt2
        go_wp2_with fail
        go_loopw [6, 8] (fun y x wr => ∃ (k : Nat) (acc : List Int) (a : Option Addr) (c : Nat), k ≤ T.rules.length ∧ x = .int .i64 k ∧ y = .slice a acc.length c ∧ Hid (Wrt w (.int .i64 T.lits) (.slice fa T.foes.length fc) (.slice ra T.rules.length rc) (.slice ba T.beats.length bc) acc a c wr) ∧ Hid (acc ++ ((T.rules.drop k).flatMap ruleB ++ T.beats.flatMap listB) = E)) (fun _ x _ => T.rules.length - (intOf x).toNat)
        case atStart => exact ⟨0, A2, a6, c6, by omega, rfl, rfl, HW6, HE2⟩
        case round =>
          clear HW6 HE2
          clear hk
          obtain ⟨k, acc, a, c, hk, rfl, rfl, HW, HE1⟩ := hrel
          have hacc : acc.length ≤ 1000000000 := by have h1 := congrArg List.length HE1.out; have h2 := HLen.out; rw [List.length_append] at h1; omega
          obtain ⟨-, c0, c1, c2, c3⟩ := Bt.of HW.out.bx
          by_cases hlt : k < T.rules.length
          · obtain ⟨x, hx⟩ := get_at hlt
            obtain ⟨g, of, la, lc, rfl, -, k0, k1, k2, -, hll, hI⟩ := at_R (Rules.keep HW.out.low.block HH.out.rules) hx
            obtain ⟨r1, r2, r3, r4, r5, r6⟩ := HT.out.rule x (List.mem_of_getElem? hx)
            obtain ⟨A1, hA1⟩ : ∃ l, acc ++ numB x.kind = l := ⟨_, rfl⟩
            obtain ⟨A2, hA2⟩ : ∃ l, A1 ++ numB x.head = l := ⟨_, rfl⟩
            obtain ⟨A3, hA3⟩ : ∃ l, A2 ++ listB x.body = l := ⟨_, rfl⟩
            have HE2 : Hid (A3 ++ ((T.rules.drop (k + 1)).flatMap ruleB ++ T.beats.flatMap listB) = E) := hide (by rw [← HE1.out, flat_step hx, ← hA3, ← hA2, ← hA1]; unfold ruleB; simp)
            have hA := below_new wr (.cells #[.int .i64 x.kind, .int .i64 x.head, .slice la x.body.length lc] 53)
            have hXr := heap_alloc_new wr (.cells #[.int .i64 x.kind, .int .i64 x.head, .slice la x.body.length lc] 53)
            have HWa := hide (HW.out.call hA)
            have HMem : Hid (∀ z ∈ x.body, 0 ≤ z ∧ z < 9223372036854775808) := hide fun z hz => by have := (rises_iff.1 r6).1 z hz; omega
            have HLa : Hid (A3.length ≤ 1000000000) := hide (by have h1 := congrArg List.length HE2.out; have h2 := HLen.out; rw [List.length_append] at h1; omega)
            have hl2' : A2.length ≤ 1000000000 := by have h1 := HLa.out; rw [← hA3, List.length_append] at h1; omega
            have hl1' : A1.length ≤ 1000000000 := by rw [← hA2, List.length_append] at hl2'; omega
            have HI : Hid (Ints w.heap.size w x.body (.slice la x.body.length lc)) := hide (Ints.keep (fun g hg => (HW.out.low.block g hg).symm) hI)
            have hwk : IntKind.u64.wrap x.kind = x.kind := by rw [IntKind.wrap_u64]; omega
            have hwh : IntKind.u64.wrap x.head = x.head := by rw [IntKind.wrap_u64]; omega
            have HA1 := hide hA1
            have HA2 := hide hA2
            have HA3 := hide hA3
            have HLN := hide (numB_len x.kind)
            clear hx hI HE1 hA HW hA1 hA2 hA3
            go_upto_region 15 with fail
            generalize wr.alloc (.cells #[.int .i64 x.kind, .int .i64 x.head, .slice la x.body.length lc] 53) = W2 at *
            have q0 := cell_of_row W2 _ 0 _ _ _ hXr
            have HXr := hide hXr
            simp only [List.getElem?_toArray, List.getElem?_cons_zero] at q0
            have CU := hide (rUint_any x.kind W2 (by omega) (by omega))
            clear hXr k0 k1 k2 c0 c1 c2 c3
            generalize wr.heap.size = qb at *
            go_upto_region 16 with (first | (go_at_call 30; refine CU.out.mono ?_; rintro _ wu ⟨ua, uc, rfl, hu, hb1⟩; have HU := hide (src_own (zs := numB (x.kind)) hu); have HW1 := hide (HWa.out.call hb1); have HB1 := hide hb1; clear hu hb1) | (at_builtin; go_must (refine wpList_append_src _ HW1.out.size (by rfl) _ _ 34 34 rfl 5 i0 _ 1 1 Try.underlying34 hi hz0 hz1 hz2 rfl (.slice a acc.length c) (acc.length) (byts acc) rfl HW1.out.row (.slice ua (numB (x.kind)).length uc) (numB (x.kind)).length (byts (numB (x.kind))) rfl HU.out (by have := HLN.out; unfold maxLen; omega) (by have := HLN.out; omega) ?_); intro v4 w4 hown4 hg4 hat4; have HT4 := hide (wrt_app (acc := acc) HA1.out HW1.out hown4 hg4); clear hown4 hg4 hat4))
            obtain ⟨a6, c6, rfl, hw6, hf6⟩ := HT4.out
            have HW6 := hide hw6
            have HX6 := hide (HW1.out.stay hf6 ((HB1.out.block _ (loc_lt HXr.out)).trans HXr.out) (by decide))
            clear q0 CU HLN HT4 hw6 hf6 HWa HW1 HU HB1 HXr hwk HA1
            have q1 := cell_of_row w4 _ 1 _ _ _ HX6.out
            simp only [List.getElem?_toArray, List.getElem?_cons_zero, List.getElem?_cons_succ] at q1
            have CU := hide (rUint_any x.head w4 (by omega) (by omega))
            have HLN := hide (numB_len x.head)
            go_upto_region 17 with (first | (go_at_call 30; refine CU.out.mono ?_; rintro _ wu ⟨ua, uc, rfl, hu, hb1⟩; have HU := hide (src_own (zs := numB (x.head)) hu); have HW1 := hide (HW6.out.call hb1); have HB1 := hide hb1; clear hu hb1) | (at_builtin; go_must (refine wpList_append_src _ HW1.out.size (by rfl) _ _ 34 34 rfl 5 i0 _ 1 1 Try.underlying34 hi hz0 hz1 hz2 rfl (.slice a6 A1.length c6) (A1.length) (byts A1) rfl HW1.out.row (.slice ua (numB (x.head)).length uc) (numB (x.head)).length (byts (numB (x.head))) rfl HU.out (by have := HLN.out; unfold maxLen; omega) (by have := HLN.out; omega) ?_); intro v4 w4 hown4 hg4 hat4; have HT4 := hide (wrt_app (acc := A1) HA2.out HW1.out hown4 hg4); clear hown4 hg4 hat4))
            obtain ⟨a7, c7, rfl, hw7, hf7⟩ := HT4.out
            have HW7 := hide hw7
            have HX7 := hide (HW1.out.stay hf7 ((HB1.out.block _ (loc_lt HX6.out)).trans HX6.out) (by decide))
            clear q1 CU HLN HT4 hw7 hf7 HW6 HW1 HU HB1 HX6 hwh HA2
            have q2 := cell_of_row w4 _ 2 _ _ _ HX7.out
            simp only [List.getElem?_toArray, List.getElem?_cons_zero, List.getElem?_cons_succ] at q2
            have CL := hide (rlist_any (lc := lc) HW7.out.row HW7.out.size (Ints.keep (fun g hg => HW7.out.low.block g hg) HI.out).at1 (fun hl0 g o e1 e2 => by
              obtain ⟨y, hy⟩ := get_at (l := x.body) (i := 0) hl0
              obtain ⟨g2, o2, e3, hg2, -⟩ := at_I HI.out hy
              rw [e1] at e3
              cases e3
              have := (HW7.out.row.lt g e2).1
              omega) hll HMem.out (by rw [HA3.out]; exact HLa.out))
            rw [HA3.out] at CL
            go_wp2_with (go_at_call 31; refine CL.out.mono ?_; rintro _ w8 ⟨a8, d8, rfl, ho8, hf8, -⟩; have HW8 := hide (HW7.out.told ho8 hf8); clear ho8 hf8)
            go_roundw
            case rel => exact ⟨k + 1, A3, a8, d8, by omega, by go_num, rfl, HW8, HE2⟩
            case measure => simp [intOf]; omega
          · have HE2 : Hid (acc ++ (T.beats.drop 0).flatMap listB = E) := hide (by rw [← HE1.out, drop_end (l := T.rules) (by omega), List.drop_zero]; simp)
            clear HE1
            go_wp2_with fail
            clear c0 c1 c2 c3 hlt
            go_loopw [6, 10] (fun y x wr => ∃ (k : Nat) (acc : List Int) (a : Option Addr) (c : Nat), k ≤ T.beats.length ∧ x = .int .i64 k ∧ y = .slice a acc.length c ∧ Hid (Wrt w (.int .i64 T.lits) (.slice fa T.foes.length fc) (.slice ra T.rules.length rc) (.slice ba T.beats.length bc) acc a c wr) ∧ Hid (acc ++ (T.beats.drop k).flatMap listB = E)) (fun _ x _ => T.beats.length - (intOf x).toNat)
            case atStart => exact ⟨0, acc, a, c, by omega, rfl, rfl, HW, HE2⟩
            case round =>
              clear HW HE2 hacc
              clear hk
              obtain ⟨k, acc, a, c, hk, rfl, rfl, HW, HE1⟩ := hrel
              obtain ⟨-, c0, c1, c2, c3⟩ := Bt.of HW.out.bx
              by_cases hlt : k < T.beats.length
              · obtain ⟨l, hl⟩ := get_at hlt
                obtain ⟨g, of, la, lc, rfl, -, kc, -, hll, hI⟩ := at_L (Lists.keep HW.out.low.block HH.out.beats) hl
                obtain ⟨hri, -⟩ := HT.out.beat k l hl
                obtain ⟨A1, hA1⟩ : ∃ q, acc ++ listB l = q := ⟨_, rfl⟩
                have HE2 : Hid (A1 ++ (T.beats.drop (k + 1)).flatMap listB = E) := hide (by rw [← HE1.out, flat_step hl, ← hA1]; simp)
                have HMem : Hid (∀ z ∈ l, 0 ≤ z ∧ z < 9223372036854775808) := hide fun z hz => by have := (rises_iff.1 hri).1 z hz; omega
                have HL2 : Hid (A1.length ≤ 1000000000) := hide (by have h1 := congrArg List.length HE2.out; have h2 := HLen.out; rw [List.length_append] at h1; omega)
                have CL := hide (rlist_any (lc := lc) HW.out.row HW.out.size hI.at1 (fun hl0 g o e1 e2 => by
                  obtain ⟨y, hy⟩ := get_at (l := l) (i := 0) hl0
                  obtain ⟨g2, o2, e3, hg2, -⟩ := at_I hI hy
                  rw [e1] at e3
                  cases e3
                  have := (HW.out.row.lt g e2).1
                  omega) hll HMem.out (by rw [hA1]; exact HL2.out))
                rw [hA1] at CL
                clear hl hI HE1 hri hA1
                go_wp2_with (go_at_call 31; refine CL.out.mono ?_; rintro _ w8 ⟨a8, d8, rfl, ho8, hf8, -⟩; have HW8 := hide (HW.out.told ho8 hf8); clear ho8 hf8)
                go_roundw
                case rel => exact ⟨k + 1, A1, a8, d8, by omega, by go_num, rfl, HW8, HE2⟩
                case measure => simp [intOf]; omega
              · have HE2 : Hid (acc = encM T) := hide (by rw [HEE.out, ← HE1.out, drop_end (l := T.beats) (by omega)]; simp)
                clear HE1
                go_wp2_with fail
                go_ret2
                refine ⟨⟨a, c, ?_, ?_⟩, HW.out.low⟩
                · rw [HE.out, HZ.out, ← HE2.out]; rfl
                · rw [HE.out, ← HE2.out]; exact owns_down HW.out.row (Nat.le_succ _)
  · have h0 : ¬ (checkM T).1 = 0 := by rw [hab]; exact ha
    have HE : Hid ((if (checkM T).1 = 0 then encM T else []) = []) := hide (if_neg h0)
    have HZ : Hid ((checkM T).1 = a) := hide (by rw [hab])
    have hab2 : (a != 0) = true := by simpa using ha
    clear hab h0
    go_enter Try.func9, Try.ntmps9
    go_upto_region 1 with fail
    generalize w.alloc (.cells #[.int .i64 T.lits, .slice fa T.foes.length fc, .slice ra T.rules.length rc, .slice ba T.beats.length bc] 25) = W at *
    obtain ⟨-, c0, c1, c2, c3⟩ := Bt.of hX
    clear hX
    go_wp2_with (go_at_call 7; refine CC.out.mono ?_; rintro _ w1 ⟨rfl, hw1⟩; have HB1 := hide (HB.out.trans (hw1.mono HB.out.size)); clear hw1)
    go_ret2
    refine ⟨⟨none, 0, ?_, ?_⟩, HB1.out⟩
    · rw [HE.out, HZ.out]; rfl
    · rw [HE.out]; exact ⟨rfl, .inl ⟨rfl, rfl⟩⟩
end Go.Proofs.Ytinloodhmnjobaa.Rf
