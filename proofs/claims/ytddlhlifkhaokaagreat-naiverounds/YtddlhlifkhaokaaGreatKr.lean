/- conditions; a mark list copied, compared; a round. (tools/gen15/kr.py wrote this.) -/
import Derived.Test.YtddlhlifkhaokaaGreatKe
import Derived.Test.YtddlhlifkhaokaaGreatNvC
import Derived.Test.YtddlhlifkhaokaaGreatLast
namespace Go.Proofs.YtddlhlifkhaokaaGreat
open Go.RowKit

theorem infoM8 : (Tryz.prog.info? 50).map (fun i => (i.zero, i.size, i.bytes)) = some (some (.int .u8 0), 1, 1) := by kernel_rfl
theorem ones8 (l : List Int) : ∀ u ∈ u8s l, u.oneCell' = true := by
  intro u hu
  unfold u8s at hu
  obtain ⟨x, _, rfl⟩ := List.mem_map.1 hu
  rfl
set_option maxRecDepth 100000 in
set_option maxHeartbeats 6400000 in
theorem conditions_any {w : World} : Calls Tryz.prog 32 #[] w fun e w' => e = .returned (.agg #[.func (.func 44) #[] #[] , .func (.func 45) #[] #[] , .func (.func 46) #[] #[] , .func (.func 47) #[] #[]]) ∧ Below w.heap.size w w' := by
  have hB := hide (below_new w (.cells #[.func (.func 44) #[] #[] , .func (.func 45) #[] #[] , .func (.func 46) #[] #[] , .func (.func 47) #[] #[]] 70))
  go_enter Tryz.func32, Tryz.ntmps32
  go_wp2_with fail
  (try simp only [Exit.inBlock, Exit.then])
  refine bodyPost_ret (results_cell_row rfl _ _ w.heap.size 70 #[.func (.func 44) #[] #[] , .func (.func 45) #[] #[] , .func (.func 46) #[] #[] , .func (.func 47) #[] #[]] _ _ rfl (heap_alloc_new w _) Tryz.underlying70 rfl (by kernel_rfl)) rfl ?_
  exact ⟨rfl, hB.out⟩
set_option maxRecDepth 100000 in
set_option maxHeartbeats 6400000 in
theorem cloneM_any {w : World} {a : Option Addr} {c : Nat} {m : List Int} (h : At1 w a (u8s m)) (hl : m.length ≤ 4096) :
    Calls Tryz.prog 33 #[.slice a m.length c] w fun e w' => ∃ v, e = .returned v ∧ w'.ownsRow w.heap.size 50 1 v m.length (u8s m) ∧ Below w.heap.size w w' := by
  obtain ⟨iI, hiI, zI0, zI1, zI2⟩ := info_parts infoM8
  have qT : ∀ (w : World) (a : Option Addr) (n c n' c' : Nat), (binOp .eql 27 (.slice a n c) (.slice none n' c')).run Tryz.prog w = .ok (.bool a.isNone) w := fun w a n c n' c' => Lib.run_eql_slice_nil w _ _ a n c n' c' Tryz.underlying27
  cases a with
  | none =>
    have hm : m = [] := by
      cases m with
      | nil => rfl
      | cons x r =>
        obtain ⟨g, o, e, -⟩ := h 0 _ rfl
        cases e
    subst hm
    clear h
    go_enter Tryz.func33, Tryz.ntmps33
    go_wp2_with fail
    go_ret
    exact ⟨_, rfl, World.ownsRow_nil w _ _ _, Below.refl _ _⟩
  | some ad =>
    have hA := below_new w (.cells #[] 50)
    have HE : Hid ((w.alloc (.cells #[] 50)).ownsRow w.heap.size 50 1 (.slice (some ⟨w.heap.size, 0, none⟩) 0 0) 0 []) := hide ⟨rfl, .inr ⟨w.heap.size, 0, #[], rfl, Nat.le_refl _, heap_alloc_new w _, Nat.le_refl _, Nat.zero_le _, rfl, rfl⟩⟩
    have HS : Hid (Src Tryz.prog 1 27 (.slice (some ad) m.length c) m.length (u8s m) (w.alloc (.cells #[] 50))) := hide (Src.ofSlice _ Tryz.underlying27 _ _ _ _ (by rw [u8s_len]; omega) (fun j u hu => by
      obtain ⟨g, o, e, h1⟩ := h j u hu
      cases e
      rw [Addr.add_lit]
      exact (World.cell?_of_block (hA.block g (World.block_lt_of_cell? w _ h1))).trans h1) (ones8 m))
    have HSZ : Hid ((w.alloc (.cells #[] 50)).heap.size = w.heap.size + 1) := hide (by simp)
    have HA := hide hA
    obtain ⟨k, hk⟩ : ∃ k, m.length = k := ⟨_, rfl⟩
    rw [hk] at hl HS ⊢
    clear h hA hk
    go_enter Tryz.func33, Tryz.ntmps33
    go_wp2_with (at_builtin; go_must (refine wpList_append_src _ (by rw [HSZ.out]; omega) (by rfl) _ _ 27 27 rfl 50 iI _ 1 1 Tryz.underlying27 hiI zI0 zI1 zI2 rfl (.slice (some ⟨w.heap.size, 0, none⟩) 0 0) 0 [] rfl HE.out (.slice (some ad) k c) k (u8s m) rfl HS.out (by unfold maxLen; omega) (by omega) ?_); intro v4 w4 hown4 hg4 hat4; rw [Nat.zero_add, List.nil_append] at hown4; have HO4 := hide hown4; have HB4 : Hid (Below w.heap.size w w4) := hide (HA.out.trans ((Fr.of_grown (Z := fun k => w.heap.size ≤ k) hg4 (fun k e => by cases e; exact Nat.le_refl _)).below fun k hk => ⟨by rw [HSZ.out]; omega, by omega⟩)); clear hown4 hg4 hat4)
    go_ret
    exact ⟨_, rfl, HO4.out, HB4.out⟩
theorem list_eq_drop {l k : List Int} (h : ∀ i : Nat, i < l.length → l.getD i 0 = k.getD i 0) (hl : l.length = k.length) : l = k := by
  apply List.ext_getElem?
  intro i
  by_cases hi : i < l.length
  · have := h i hi
    rw [List.getD_eq_getElem?_getD, List.getD_eq_getElem?_getD, List.getElem?_eq_getElem hi, List.getElem?_eq_getElem (by omega)] at this
    rw [List.getElem?_eq_getElem hi, List.getElem?_eq_getElem (by omega)]
    exact congrArg some this
  · rw [List.getElem?_eq_none (by omega), List.getElem?_eq_none (by omega)]
set_option maxRecDepth 100000 in
set_option maxHeartbeats 6400000 in
theorem equalM_any {w : World} {a b : Option Addr} {c d : Nat} {l k : List Int} (hl : At1 w a (u8s l)) (hk : At1 w b (u8s k)) (hlim : l.length ≤ 4096) (he : l.length = k.length) :
    Calls Tryz.prog 42 #[.slice a l.length c, .slice b k.length d] w fun e w' => e = .returned (.bool (decide (l = k))) ∧ ∃ q, w' = w.drewN q := by
  have HL := hide hl
  have HK := hide hk
  obtain ⟨o, ho⟩ : ∃ o, decide (l = k) = o := ⟨_, rfl⟩
  rw [ho]
  have HO := hide ho
  clear hl hk ho
  go_enter Tryz.func42, Tryz.ntmps42
  go_wp2_with fail
  go_loopw [13] (fun x wr => ∃ i : Nat, i ≤ l.length ∧ x = .int .i64 i ∧ Hid (∀ j : Nat, j < i → l.getD j 0 = k.getD j 0) ∧ Hid (∃ q, wr = w.drewN q)) (fun x _ => l.length - (intOf x).toNat)
  case atStart => exact ⟨0, by omega, rfl, hide fun j hj => by omega, hide ⟨0, rfl⟩⟩
  case round =>
    obtain ⟨i, hi, rfl, HA, HQ⟩ := hrel
    by_cases hlt : i < l.length
    · have hlt2 : i < k.length := by omega
      obtain ⟨g, gg, rfl, cx⟩ := HL.out i _ (u8s_at hlt)
      obtain ⟨g2, gg2, rfl, cy⟩ := HK.out i _ (u8s_at hlt2)
      have cx2 : wr.cell? ⟨g, gg + i, none⟩ = some (.int .u8 (l.getD i 0)) := by obtain ⟨q, rfl⟩ := HQ.out; exact cx
      have cy2 : wr.cell? ⟨g2, gg2 + i, none⟩ = some (.int .u8 (k.getD i 0)) := by obtain ⟨q, rfl⟩ := HQ.out; exact cy
      clear cx cy
      by_cases hxy : l.getD i 0 = k.getD i 0
      · have HA2 : Hid (∀ j : Nat, j < i + 1 → l.getD j 0 = k.getD j 0) := hide fun j hj => by
          by_cases e : j = i
          · subst e; exact hxy
          · exact HA.out j (by omega)
        generalize l.getD i 0 = x at *
        generalize k.getD i 0 = y at *
        subst hxy
        clear HA
        go_wp2_with fail
        go_quiet (fail)
        have HQ2 : Hid (∃ q, wr.drewN nq = w.drewN q) := hide (by obtain ⟨q, rfl⟩ := HQ.out; exact ⟨q + nq, by unfold World.drewN; simp [Nat.add_assoc]⟩)
        go_wp2_with fail
        go_roundw
        case rel => exact ⟨i + 1, by omega, by go_num, HA2, HQ2⟩
        case measure => simp [intOf]; omega
      · have HE : Hid (o = false) := hide (by rw [← HO.out]; exact decide_eq_false fun e => hxy (by rw [e]))
        have hne : (l.getD i 0 == k.getD i 0) = false := by simpa using hxy
        generalize l.getD i 0 = x at *
        generalize k.getD i 0 = y at *
        clear HA hxy
        go_wp2_with fail
        go_quiet (fail)
        have HQ2 : Hid (∃ q, wr.drewN nq = w.drewN q) := hide (by obtain ⟨q, rfl⟩ := HQ.out; exact ⟨q + nq, by unfold World.drewN; simp [Nat.add_assoc]⟩)
        go_wp2_with fail
        go_ret
        exact ⟨by rw [HE.out]; rfl, HQ2.out⟩
    · have HE : Hid (o = true) := hide (by rw [← HO.out]; exact decide_eq_true (list_eq_drop (fun j hj => HA.out j (by omega)) he))
      go_wp2_with fail
      go_ret
      exact ⟨by rw [HE.out]; rfl, HQ.out⟩
/-- A round under way: the literals ahead are done, of this one so many tags. -/
def part (T : Th) (F m : List Int) (q k : Nat) : List Int := (List.range m.length).map fun i : Nat => if i < q then addsM T F m i 4 (m.getD i 0) else if i = q then addsM T F m i k (m.getD i 0) else m.getD i 0
theorem part_len {T : Th} {F m : List Int} {q k : Nat} : (part T F m q k).length = m.length := by unfold part; simp
theorem part_at {T : Th} {F m : List Int} {q k i : Nat} (hi : i < m.length) : (part T F m q k)[i]? = some (if i < q then addsM T F m i 4 (m.getD i 0) else if i = q then addsM T F m i k (m.getD i 0) else m.getD i 0) := by unfold part; rw [List.getElem?_map, List.getElem?_range hi]; rfl
theorem part_ext {m l k : List Int} (h1 : l.length = m.length) (h2 : k.length = m.length) (h : ∀ i : Nat, i < m.length → l[i]? = k[i]?) : l = k := by
  apply List.ext_getElem?
  intro i
  by_cases hi : i < m.length
  · exact h i hi
  · rw [List.getElem?_eq_none (by omega), List.getElem?_eq_none (by omega)]
theorem part_start {T : Th} {F m : List Int} : part T F m 0 0 = m := by
  refine part_ext part_len rfl fun i hi => ?_
  rw [part_at hi, List.getElem?_eq_getElem hi]
  have e : m.getD i 0 = m[i] := by rw [List.getD_eq_getElem?_getD, List.getElem?_eq_getElem hi]; rfl
  rw [if_neg (by omega)]
  split
  · unfold addsM; rw [e]
  · rw [e]
theorem part_end {T : Th} {F m : List Int} : part T F m m.length 0 = roundM T F m := by
  refine part_ext part_len round_len fun i hi => ?_
  rw [part_at hi, if_pos hi]
  unfold roundM
  rw [List.getElem?_map, List.getElem?_range hi]
  rfl
theorem part_next {T : Th} {F m : List Int} {q : Nat} : part T F m q 4 = part T F m (q + 1) 0 := by
  refine part_ext part_len part_len fun i hi => ?_
  rw [part_at hi, part_at hi]
  by_cases h1 : i < q
  · rw [if_pos h1, if_pos (by omega)]
  · by_cases h2 : i = q
    · rw [if_neg h1, if_pos h2, if_pos (by omega)]
    · rw [if_neg h1, if_neg h2, if_neg (by omega)]
      split
      · rfl
      · rfl
theorem part_val {T : Th} {F m : List Int} {q k : Nat} (hq : q < m.length) : (part T F m q k).getD q 0 = addsM T F m q k (m.getD q 0) := by
  rw [List.getD_eq_getElem?_getD, part_at hq, if_neg (by omega), if_pos rfl]
  rfl
theorem part_set {T : Th} {F m : List Int} {q k : Nat} (hq : q < m.length) : (part T F m q k).set q (addsM T F m q (k + 1) (m.getD q 0)) = part T F m q (k + 1) := by
  refine part_ext (by rw [List.length_set]; exact part_len) part_len fun i hi => ?_
  by_cases h2 : q = i
  · subst h2
    rw [List.getElem?_set_self (by rw [part_len]; exact hq), part_at hi, if_neg (by omega), if_pos rfl]
  · rw [List.getElem?_set_ne h2, part_at hi, part_at hi]
    by_cases h1 : i < q
    · rw [if_pos h1, if_pos h1]
    · rw [if_neg h1, if_neg h1, if_neg (by omega), if_neg (by omega)]
theorem part_same {T : Th} {F m : List Int} {q k : Nat} (hq : q < m.length) (h : addsM T F m q (k + 1) (m.getD q 0) = addsM T F m q k (m.getD q 0)) : part T F m q k = part T F m q (k + 1) := by
  refine part_ext part_len part_len fun i hi => ?_
  rw [part_at hi, part_at hi]
  by_cases h1 : i < q
  · rw [if_pos h1, if_pos h1]
  · by_cases h2 : i = q
    · subst h2; rw [if_neg h1, if_pos rfl, if_neg h1, if_pos rfl, h]
    · rw [if_neg h1, if_neg h2, if_neg h1, if_neg h2]
theorem u8s_set {ex : List Value} {X : List Int} {q : Nat} {x : Int} (hq : q < X.length) : (u8s X ++ ex).set q (.int .u8 x) = u8s (X.set q x) ++ ex := by
  rw [List.set_append_left _ _ (by rw [u8s_len]; exact hq)]
  unfold u8s
  rw [List.map_set]
section
variable {K n : Nat} {A : Ka} {T : Th} {F m : List Int} {ma : Option Addr} {mc : Nat} {w w' : World}
/-- A round's memory: the row that is made, the table of conditions. -/
structure Rq (g ab : Nat) (X : List Int) (ex : List Value) (w w' : World) : Prop where
  low : Below w.heap.size w w'
  rw : Fx g 50 (u8s X ++ ex) w'
  tb : Fx ab 70 [.func (.func 44) #[] #[] , .func (.func 45) #[] #[] , .func (.func 46) #[] #[] , .func (.func 47) #[] #[]] w'
theorem Rq.go {g ab : Nat} {X : List Int} {ex : List Value} {w'' : World} (h : Rq g ab X ex w w') (hb : Below w'.heap.size w' w'') : Rq g ab X ex w w'' := ⟨h.low.trans (hb.mono h.low.size), h.rw.keep (hb.block _ h.rw.lt), h.tb.keep (hb.block _ h.tb.lt)⟩
theorem Rq.set {g ab q : Nat} {X : List Int} {ex : List Value} {x : Int} (h : Rq g ab X ex w w') (hq : q < X.length) (hg : w.heap.size ≤ g) : Rq g ab (X.set q x) ex w (w'.setCell ⟨g, q, none⟩ (.int .u8 x)) := by
  refine ⟨h.low.setCell (p := ⟨g, q, none⟩) hg _, ?_, h.tb.keep (other_set (fx_ne h.tb h.rw (by decide)))⟩
  have := h.rw.set q (.int .u8 x)
  rw [u8s_set hq] at this
  exact this
set_option maxRecDepth 100000 in
set_option maxHeartbeats 6400000 in
theorem round_any (h : Kn K A T F n m ma mc w) :
    Calls Tryz.prog 22 #[ptr K] w fun e w' => ∃ v, e = .returned v ∧ w'.ownsRow w.heap.size 50 1 v n (u8s (roundM T F m)) ∧ Below w.heap.size w w' := by
  have HK := hide h
  have hn4 := h.pf.n4
  have hml := h.ml
  have CC := hide (conditions_any (w := w))
  clear h
  go_enter Tryz.func22, Tryz.ntmps22
  go_upto_region 2 with (go_at_call 32; refine CC.out.mono ?_; rintro _ w1 ⟨rfl, hb1⟩; have HB1 := hide hb1; clear hb1)
  have hA := below_new w1 (.cells #[.func (.func 44) #[] #[] , .func (.func 45) #[] #[] , .func (.func 46) #[] #[] , .func (.func 47) #[] #[]] 70)
  have HTB : Hid (Fx w1.heap.size 70 [.func (.func 44) #[] #[] , .func (.func 45) #[] #[] , .func (.func 46) #[] #[] , .func (.func 47) #[] #[]] (w1.alloc (.cells #[.func (.func 44) #[] #[] , .func (.func 45) #[] #[] , .func (.func 46) #[] #[] , .func (.func 47) #[] #[]] 70))) := hide (heap_alloc_new w1 _)
  have HB2 := hide (HB1.out.trans (hA.mono HB1.out.size))
  have HLO : Hid (w.heap.size ≤ w1.heap.size) := hide HB1.out.size
  clear hA HB1 CC
  generalize w1.alloc (.cells #[.func (.func 44) #[] #[] , .func (.func 45) #[] #[] , .func (.func 46) #[] #[] , .func (.func 47) #[] #[]] 70) = w2 at *
  have hK2 := HK.out.go HB2.out
  have k8 := hK2.bx.get (i := 8) rfl
  have CK := hide (cloneM_any (c := mc) hK2.mm (by omega))
  rw [hml] at CK
  clear hK2
  go_upto_region 3 with (go_at_call 33; refine CK.out.mono ?_; rintro _ w3 ⟨v, rfl, hown, hb3⟩; have HOWN := hide hown; have HB3 := hide hb3; clear hb3 hown)
  clear k8 CK
  have HLO3 : Hid (w.heap.size ≤ w2.heap.size) := hide HB2.out.size
  by_cases hn0 : n = 0
  · subst hn0
    have hm0 : m = [] := List.eq_nil_of_length_eq_zero hml
    subst hm0
    obtain ⟨va, vc, rfl⟩ := owns_slice HOWN.out
    go_wp2_with fail
    go_loopw [15] (fun x wr => x = .int .i64 0 ∧ Hid (wr = w3)) (fun x _ => 0)
    case atStart => exact ⟨rfl, hide rfl⟩
    case round =>
      obtain ⟨rfl, HW⟩ := hrel
      go_wp2_with fail
      go_ret
      rw [HW.out]
      exact ⟨_, rfl, owns_down HOWN.out HLO3.out, HB2.out.trans (HB3.out.mono HB2.out.size)⟩
  · obtain ⟨hxl, hor⟩ := HOWN.out
    rcases hor with ⟨-, e0⟩ | ⟨g, cap, cur, rfl, hbg, hg, hnc, hcm, hcs, htake⟩
    · exact absurd e0 hn0
    obtain ⟨ex, hex⟩ : ∃ ex, cur.toList = u8s m ++ ex := ⟨cur.toList.drop n, by
      have := List.take_append_drop n cur.toList
      rw [Nat.mul_one] at htake
      rw [htake] at this
      exact this.symm⟩
    have HRQ : Hid (Rq g w1.heap.size (part T F m 0 0) ex w w3) := hide ⟨HB2.out.trans (HB3.out.mono HB2.out.size), by
      rw [part_start]
      unfold Fx
      rw [hg, ← hex], HTB.out.keep (HB3.out.block _ HTB.out.lt)⟩
    have HG : Hid (w.heap.size ≤ g) := hide (Nat.le_trans HLO3.out hbg)
    have HEX : Hid (cap = n + ex.length) := hide (by
      have h1 : cur.toList.length = cur.size := Array.length_toList
      rw [hex, List.length_append, u8s_len] at h1
      omega)
    have HNC := hide hnc
    have HCM := hide hcm
    clear hg hex htake hcs hxl HOWN HTB hbg
    go_wp2_with fail
    go_loopw [15] (fun x wr => ∃ q : Nat, q ≤ n ∧ x = .int .i64 q ∧ Hid (Rq g w1.heap.size (part T F m q 0) ex w wr)) (fun x _ => n - (intOf x).toNat)
    case atStart => exact ⟨0, by omega, rfl, HRQ⟩
    case round =>
      clear HRQ
      obtain ⟨q, hq, rfl, HRQ⟩ := hrel
      by_cases hlt : q < n
      · go_wp2_with fail
        go_loopw [6] (fun x wr => ∃ k : Nat, k ≤ 4 ∧ x = .int .i64 (k + 1 : Nat) ∧ Hid (Rq g w1.heap.size (part T F m q k) ex w wr)) (fun x _ => 5 - (intOf x).toNat)
        case atStart => exact ⟨0, by omega, rfl, HRQ⟩
        case round =>
          clear HRQ
          obtain ⟨k, hk4, rfl, HRQ⟩ := hrel
          by_cases hk : k < 4
          · have hq2 : q < m.length := by omega
            have r0 := HRQ.out.rw.get (i := q) (v := .int .u8 ((part T F m q k).getD q 0)) (by rw [List.getElem?_append_left (by rw [u8s_len, part_len]; exact hq2)]; exact u8s_at (by rw [part_len]; exact hq2))
            have f0 := HRQ.out.rw.frz q
            have hkn := HK.out.go HRQ.out.low
            have HXV : Hid ((part T F m q k).getD q 0 = addsM T F m q k (m.getD q 0)) := hide (part_val hq2)
            rcases (show k = 0 ∨ k = 1 ∨ k = 2 ∨ k = 3 by omega) with rfl | rfl | rfl | rfl
            · have t0 := HRQ.out.tb.get (i := 0) rfl
              have CH := hide (has_kn hkn hlt tag1 : Calls Tryz.prog 34 #[ptr K, .int .i64 q, .int .i64 1] wr _)
              have CD : Hid (∀ X, Below wr.heap.size wr X → Calls Tryz.prog 44 #[ptr K, .int .i64 q] X fun e w' => e = .returned (.bool (plusS T F m q)) ∧ Below X.heap.size X w') := hide fun X hX => plusStrict_any (hkn.go hX) hlt
              have HAD : Hid (addsM T F m q 1 (m.getD q 0) = if !hs m q 1 && plusS T F m q then orB (addsM T F m q 0 (m.getD q 0)) 1 else addsM T F m q 0 (m.getD q 0)) := hide rfl
              clear hkn
              cases ha : hs m q 1 with
              | true =>
                have HS : Hid (part T F m q 0 = part T F m q 1) := hide (part_same hq2 (by rw [HAD.out, ha]; rfl))
                rw [ha] at CH
                clear ha CD t0 HAD r0 f0 HXV
                go_wp2_with (go_at_call 34; refine CH.out.mono ?_; rintro _ w5 ⟨rfl, hb5⟩; have HB5 := hide hb5; clear hb5)
                have HN : Hid (Rq g w1.heap.size (part T F m q 1) ex w w5) := hide (by rw [← HS.out]; exact HRQ.out.go HB5.out)
                go_roundw
                case rel => exact ⟨1, by omega, by go_num, HN⟩
                case measure => simp [intOf]
              | false =>
                rw [ha] at CH
                cases hc : (plusS T F m q) with
                | false =>
                  have HS : Hid (part T F m q 0 = part T F m q 1) := hide (part_same hq2 (by rw [HAD.out, ha, hc]; rfl))
                  rw [hc] at CD
                  clear ha hc HAD r0 f0 HXV
                  go_wp2_with (first | (go_at_call 34; refine CH.out.mono ?_; rintro _ w5 ⟨rfl, hb5⟩; have t5 := cell_on t0 hb5; have HB5 := hide hb5; clear hb5) | (go_at_call 44; refine (CD.out _ HB5.out).mono ?_; rintro _ w6 ⟨rfl, hb6⟩; have HB6 := hide hb6; clear hb6))
                  have HN : Hid (Rq g w1.heap.size (part T F m q 1) ex w w6) := hide (by rw [← HS.out]; exact (HRQ.out.go HB5.out).go HB6.out)
                  go_roundw
                  case rel => exact ⟨1, by omega, by go_num, HN⟩
                  case measure => simp [intOf]
                | true =>
                  have HS : Hid ((part T F m q 0).set q (bits .or .u8 ((part T F m q 0).getD q 0) (bitM 1)) = part T F m q 1) := hide (by
                    have hps := part_set (T := T) (F := F) (k := 0) hq2
                    rw [HAD.out, ha, hc] at hps
                    rw [HXV.out]
                    exact hps)
                  rw [hc] at CD
                  have CB := hide fun W : World => bit_any (w := W) tag1
                  clear ha hc HAD HXV r0 f0
                  go_upto_region 10 with (first | (go_at_call 34; refine CH.out.mono ?_; rintro _ w5 ⟨rfl, hb5⟩; have t5 := cell_on t0 hb5; have HB5 := hide hb5; clear hb5) | (go_at_call 44; refine (CD.out _ HB5.out).mono ?_; rintro _ w6 ⟨rfl, hb6⟩; have HB6 := hide hb6; clear hb6))
                  have HR6 := hide ((HRQ.out.go HB5.out).go HB6.out)
                  have r0 := HR6.out.rw.get (i := q) (v := .int .u8 ((part T F m q 0).getD q 0)) (by rw [List.getElem?_append_left (by rw [u8s_len, part_len]; exact hq2)]; exact u8s_at (by rw [part_len]; exact hq2))
                  have f0 := HR6.out.rw.frz q
                  have HQL : Hid (q < (part T F m q 0).length) := hide (by rw [part_len]; exact hq2)
                  generalize (part T F m q 0).getD q 0 = x0 at *
                  generalize bitM 1 = y0 at *
                  clear t0 t5 CH CD HB5 HB6
                  refine region_last (by kernel_rfl) (by kernel_rfl) (by kernel_rfl) (by kernel_rfl) (by kernel_rfl) ?_
                  dsimp only [List.dropLast, List.getLast, List.cons_append, List.nil_append]
                  repeat (go_big_quiet_step ((go_at_call 35; exact Calls.quiet_of_same (CB.out _))))
                  refine wpQuiet_nil ?_
                  rintro _ ⟨nq, rfl⟩
                  have HR7 := hide ((HR6.out.go (below_drewN w6 nq)).set (x := bits .or .u8 x0 y0) HQL.out HG.out)
                  rw [HS.out] at HR7
                  have r7 : (w6.drewN nq).cell? ⟨g, q, none⟩ = some (.int .u8 x0) := r0
                  have f7 : (w6.drewN nq).frozen? ⟨g, q, none⟩ = false := f0
                  go_wp2_with fail
                  go_roundw
                  case rel => exact ⟨1, by omega, by go_num, HR7⟩
                  case measure => simp [intOf]
            · have t0 := HRQ.out.tb.get (i := 1) rfl
              have CH := hide (has_kn hkn hlt tag2 : Calls Tryz.prog 34 #[ptr K, .int .i64 q, .int .i64 2] wr _)
              have CD : Hid (∀ X, Below wr.heap.size wr X → Calls Tryz.prog 45 #[ptr K, .int .i64 q] X fun e w' => e = .returned (.bool (minusS T F m q)) ∧ Below X.heap.size X w') := hide fun X hX => minusStrict_any (hkn.go hX) hlt
              have HAD : Hid (addsM T F m q 2 (m.getD q 0) = if !hs m q 2 && minusS T F m q then orB (addsM T F m q 1 (m.getD q 0)) 2 else addsM T F m q 1 (m.getD q 0)) := hide rfl
              clear hkn
              cases ha : hs m q 2 with
              | true =>
                have HS : Hid (part T F m q 1 = part T F m q 2) := hide (part_same hq2 (by rw [HAD.out, ha]; rfl))
                rw [ha] at CH
                clear ha CD t0 HAD r0 f0 HXV
                go_wp2_with (go_at_call 34; refine CH.out.mono ?_; rintro _ w5 ⟨rfl, hb5⟩; have HB5 := hide hb5; clear hb5)
                have HN : Hid (Rq g w1.heap.size (part T F m q 2) ex w w5) := hide (by rw [← HS.out]; exact HRQ.out.go HB5.out)
                go_roundw
                case rel => exact ⟨2, by omega, by go_num, HN⟩
                case measure => simp [intOf]
              | false =>
                rw [ha] at CH
                cases hc : (minusS T F m q) with
                | false =>
                  have HS : Hid (part T F m q 1 = part T F m q 2) := hide (part_same hq2 (by rw [HAD.out, ha, hc]; rfl))
                  rw [hc] at CD
                  clear ha hc HAD r0 f0 HXV
                  go_wp2_with (first | (go_at_call 34; refine CH.out.mono ?_; rintro _ w5 ⟨rfl, hb5⟩; have t5 := cell_on t0 hb5; have HB5 := hide hb5; clear hb5) | (go_at_call 45; refine (CD.out _ HB5.out).mono ?_; rintro _ w6 ⟨rfl, hb6⟩; have HB6 := hide hb6; clear hb6))
                  have HN : Hid (Rq g w1.heap.size (part T F m q 2) ex w w6) := hide (by rw [← HS.out]; exact (HRQ.out.go HB5.out).go HB6.out)
                  go_roundw
                  case rel => exact ⟨2, by omega, by go_num, HN⟩
                  case measure => simp [intOf]
                | true =>
                  have HS : Hid ((part T F m q 1).set q (bits .or .u8 ((part T F m q 1).getD q 0) (bitM 2)) = part T F m q 2) := hide (by
                    have hps := part_set (T := T) (F := F) (k := 1) hq2
                    rw [HAD.out, ha, hc] at hps
                    rw [HXV.out]
                    exact hps)
                  rw [hc] at CD
                  have CB := hide fun W : World => bit_any (w := W) tag2
                  clear ha hc HAD HXV r0 f0
                  go_upto_region 10 with (first | (go_at_call 34; refine CH.out.mono ?_; rintro _ w5 ⟨rfl, hb5⟩; have t5 := cell_on t0 hb5; have HB5 := hide hb5; clear hb5) | (go_at_call 45; refine (CD.out _ HB5.out).mono ?_; rintro _ w6 ⟨rfl, hb6⟩; have HB6 := hide hb6; clear hb6))
                  have HR6 := hide ((HRQ.out.go HB5.out).go HB6.out)
                  have r0 := HR6.out.rw.get (i := q) (v := .int .u8 ((part T F m q 1).getD q 0)) (by rw [List.getElem?_append_left (by rw [u8s_len, part_len]; exact hq2)]; exact u8s_at (by rw [part_len]; exact hq2))
                  have f0 := HR6.out.rw.frz q
                  have HQL : Hid (q < (part T F m q 1).length) := hide (by rw [part_len]; exact hq2)
                  generalize (part T F m q 1).getD q 0 = x0 at *
                  generalize bitM 2 = y0 at *
                  clear t0 t5 CH CD HB5 HB6
                  refine region_last (by kernel_rfl) (by kernel_rfl) (by kernel_rfl) (by kernel_rfl) (by kernel_rfl) ?_
                  dsimp only [List.dropLast, List.getLast, List.cons_append, List.nil_append]
                  repeat (go_big_quiet_step ((go_at_call 35; exact Calls.quiet_of_same (CB.out _))))
                  refine wpQuiet_nil ?_
                  rintro _ ⟨nq, rfl⟩
                  have HR7 := hide ((HR6.out.go (below_drewN w6 nq)).set (x := bits .or .u8 x0 y0) HQL.out HG.out)
                  rw [HS.out] at HR7
                  have r7 : (w6.drewN nq).cell? ⟨g, q, none⟩ = some (.int .u8 x0) := r0
                  have f7 : (w6.drewN nq).frozen? ⟨g, q, none⟩ = false := f0
                  go_wp2_with fail
                  go_roundw
                  case rel => exact ⟨2, by omega, by go_num, HR7⟩
                  case measure => simp [intOf]
            · have t0 := HRQ.out.tb.get (i := 2) rfl
              have CH := hide (has_kn hkn hlt tag3 : Calls Tryz.prog 34 #[ptr K, .int .i64 q, .int .i64 3] wr _)
              have CD : Hid (∀ X, Below wr.heap.size wr X → Calls Tryz.prog 46 #[ptr K, .int .i64 q] X fun e w' => e = .returned (.bool (plusD T m q)) ∧ Below X.heap.size X w') := hide fun X hX => plusDefeasible_any (hkn.go hX) hlt
              have HAD : Hid (addsM T F m q 3 (m.getD q 0) = if !hs m q 3 && plusD T m q then orB (addsM T F m q 2 (m.getD q 0)) 3 else addsM T F m q 2 (m.getD q 0)) := hide rfl
              clear hkn
              cases ha : hs m q 3 with
              | true =>
                have HS : Hid (part T F m q 2 = part T F m q 3) := hide (part_same hq2 (by rw [HAD.out, ha]; rfl))
                rw [ha] at CH
                clear ha CD t0 HAD r0 f0 HXV
                go_wp2_with (go_at_call 34; refine CH.out.mono ?_; rintro _ w5 ⟨rfl, hb5⟩; have HB5 := hide hb5; clear hb5)
                have HN : Hid (Rq g w1.heap.size (part T F m q 3) ex w w5) := hide (by rw [← HS.out]; exact HRQ.out.go HB5.out)
                go_roundw
                case rel => exact ⟨3, by omega, by go_num, HN⟩
                case measure => simp [intOf]
              | false =>
                rw [ha] at CH
                cases hc : (plusD T m q) with
                | false =>
                  have HS : Hid (part T F m q 2 = part T F m q 3) := hide (part_same hq2 (by rw [HAD.out, ha, hc]; rfl))
                  rw [hc] at CD
                  clear ha hc HAD r0 f0 HXV
                  go_wp2_with (first | (go_at_call 34; refine CH.out.mono ?_; rintro _ w5 ⟨rfl, hb5⟩; have t5 := cell_on t0 hb5; have HB5 := hide hb5; clear hb5) | (go_at_call 46; refine (CD.out _ HB5.out).mono ?_; rintro _ w6 ⟨rfl, hb6⟩; have HB6 := hide hb6; clear hb6))
                  have HN : Hid (Rq g w1.heap.size (part T F m q 3) ex w w6) := hide (by rw [← HS.out]; exact (HRQ.out.go HB5.out).go HB6.out)
                  go_roundw
                  case rel => exact ⟨3, by omega, by go_num, HN⟩
                  case measure => simp [intOf]
                | true =>
                  have HS : Hid ((part T F m q 2).set q (bits .or .u8 ((part T F m q 2).getD q 0) (bitM 3)) = part T F m q 3) := hide (by
                    have hps := part_set (T := T) (F := F) (k := 2) hq2
                    rw [HAD.out, ha, hc] at hps
                    rw [HXV.out]
                    exact hps)
                  rw [hc] at CD
                  have CB := hide fun W : World => bit_any (w := W) tag3
                  clear ha hc HAD HXV r0 f0
                  go_upto_region 10 with (first | (go_at_call 34; refine CH.out.mono ?_; rintro _ w5 ⟨rfl, hb5⟩; have t5 := cell_on t0 hb5; have HB5 := hide hb5; clear hb5) | (go_at_call 46; refine (CD.out _ HB5.out).mono ?_; rintro _ w6 ⟨rfl, hb6⟩; have HB6 := hide hb6; clear hb6))
                  have HR6 := hide ((HRQ.out.go HB5.out).go HB6.out)
                  have r0 := HR6.out.rw.get (i := q) (v := .int .u8 ((part T F m q 2).getD q 0)) (by rw [List.getElem?_append_left (by rw [u8s_len, part_len]; exact hq2)]; exact u8s_at (by rw [part_len]; exact hq2))
                  have f0 := HR6.out.rw.frz q
                  have HQL : Hid (q < (part T F m q 2).length) := hide (by rw [part_len]; exact hq2)
                  generalize (part T F m q 2).getD q 0 = x0 at *
                  generalize bitM 3 = y0 at *
                  clear t0 t5 CH CD HB5 HB6
                  refine region_last (by kernel_rfl) (by kernel_rfl) (by kernel_rfl) (by kernel_rfl) (by kernel_rfl) ?_
                  dsimp only [List.dropLast, List.getLast, List.cons_append, List.nil_append]
                  repeat (go_big_quiet_step ((go_at_call 35; exact Calls.quiet_of_same (CB.out _))))
                  refine wpQuiet_nil ?_
                  rintro _ ⟨nq, rfl⟩
                  have HR7 := hide ((HR6.out.go (below_drewN w6 nq)).set (x := bits .or .u8 x0 y0) HQL.out HG.out)
                  rw [HS.out] at HR7
                  have r7 : (w6.drewN nq).cell? ⟨g, q, none⟩ = some (.int .u8 x0) := r0
                  have f7 : (w6.drewN nq).frozen? ⟨g, q, none⟩ = false := f0
                  go_wp2_with fail
                  go_roundw
                  case rel => exact ⟨3, by omega, by go_num, HR7⟩
                  case measure => simp [intOf]
            · have t0 := HRQ.out.tb.get (i := 3) rfl
              have CH := hide (has_kn hkn hlt tag4 : Calls Tryz.prog 34 #[ptr K, .int .i64 q, .int .i64 4] wr _)
              have CD : Hid (∀ X, Below wr.heap.size wr X → Calls Tryz.prog 47 #[ptr K, .int .i64 q] X fun e w' => e = .returned (.bool (minusD T m q)) ∧ Below X.heap.size X w') := hide fun X hX => minusDefeasible_any (hkn.go hX) hlt
              have HAD : Hid (addsM T F m q 4 (m.getD q 0) = if !hs m q 4 && minusD T m q then orB (addsM T F m q 3 (m.getD q 0)) 4 else addsM T F m q 3 (m.getD q 0)) := hide rfl
              clear hkn
              cases ha : hs m q 4 with
              | true =>
                have HS : Hid (part T F m q 3 = part T F m q 4) := hide (part_same hq2 (by rw [HAD.out, ha]; rfl))
                rw [ha] at CH
                clear ha CD t0 HAD r0 f0 HXV
                go_wp2_with (go_at_call 34; refine CH.out.mono ?_; rintro _ w5 ⟨rfl, hb5⟩; have HB5 := hide hb5; clear hb5)
                have HN : Hid (Rq g w1.heap.size (part T F m q 4) ex w w5) := hide (by rw [← HS.out]; exact HRQ.out.go HB5.out)
                go_roundw
                case rel => exact ⟨4, by omega, by go_num, HN⟩
                case measure => simp [intOf]
              | false =>
                rw [ha] at CH
                cases hc : (minusD T m q) with
                | false =>
                  have HS : Hid (part T F m q 3 = part T F m q 4) := hide (part_same hq2 (by rw [HAD.out, ha, hc]; rfl))
                  rw [hc] at CD
                  clear ha hc HAD r0 f0 HXV
                  go_wp2_with (first | (go_at_call 34; refine CH.out.mono ?_; rintro _ w5 ⟨rfl, hb5⟩; have t5 := cell_on t0 hb5; have HB5 := hide hb5; clear hb5) | (go_at_call 47; refine (CD.out _ HB5.out).mono ?_; rintro _ w6 ⟨rfl, hb6⟩; have HB6 := hide hb6; clear hb6))
                  have HN : Hid (Rq g w1.heap.size (part T F m q 4) ex w w6) := hide (by rw [← HS.out]; exact (HRQ.out.go HB5.out).go HB6.out)
                  go_roundw
                  case rel => exact ⟨4, by omega, by go_num, HN⟩
                  case measure => simp [intOf]
                | true =>
                  have HS : Hid ((part T F m q 3).set q (bits .or .u8 ((part T F m q 3).getD q 0) (bitM 4)) = part T F m q 4) := hide (by
                    have hps := part_set (T := T) (F := F) (k := 3) hq2
                    rw [HAD.out, ha, hc] at hps
                    rw [HXV.out]
                    exact hps)
                  rw [hc] at CD
                  have CB := hide fun W : World => bit_any (w := W) tag4
                  clear ha hc HAD HXV r0 f0
                  go_upto_region 10 with (first | (go_at_call 34; refine CH.out.mono ?_; rintro _ w5 ⟨rfl, hb5⟩; have t5 := cell_on t0 hb5; have HB5 := hide hb5; clear hb5) | (go_at_call 47; refine (CD.out _ HB5.out).mono ?_; rintro _ w6 ⟨rfl, hb6⟩; have HB6 := hide hb6; clear hb6))
                  have HR6 := hide ((HRQ.out.go HB5.out).go HB6.out)
                  have r0 := HR6.out.rw.get (i := q) (v := .int .u8 ((part T F m q 3).getD q 0)) (by rw [List.getElem?_append_left (by rw [u8s_len, part_len]; exact hq2)]; exact u8s_at (by rw [part_len]; exact hq2))
                  have f0 := HR6.out.rw.frz q
                  have HQL : Hid (q < (part T F m q 3).length) := hide (by rw [part_len]; exact hq2)
                  generalize (part T F m q 3).getD q 0 = x0 at *
                  generalize bitM 4 = y0 at *
                  clear t0 t5 CH CD HB5 HB6
                  refine region_last (by kernel_rfl) (by kernel_rfl) (by kernel_rfl) (by kernel_rfl) (by kernel_rfl) ?_
                  dsimp only [List.dropLast, List.getLast, List.cons_append, List.nil_append]
                  repeat (go_big_quiet_step ((go_at_call 35; exact Calls.quiet_of_same (CB.out _))))
                  refine wpQuiet_nil ?_
                  rintro _ ⟨nq, rfl⟩
                  have HR7 := hide ((HR6.out.go (below_drewN w6 nq)).set (x := bits .or .u8 x0 y0) HQL.out HG.out)
                  rw [HS.out] at HR7
                  have r7 : (w6.drewN nq).cell? ⟨g, q, none⟩ = some (.int .u8 x0) := r0
                  have f7 : (w6.drewN nq).frozen? ⟨g, q, none⟩ = false := f0
                  go_wp2_with fail
                  go_roundw
                  case rel => exact ⟨4, by omega, by go_num, HR7⟩
                  case measure => simp [intOf]
          · have HS : Hid (part T F m q k = part T F m (q + 1) 0) := hide (by rw [show k = 4 by omega]; exact part_next)
            have hk5 : k = 4 := by omega
            subst hk5
            have HN : Hid (Rq g w1.heap.size (part T F m (q + 1) 0) ex w wr) := hide (by rw [← HS.out]; exact HRQ.out)
            go_wp2_with fail
            go_roundw
            case rel => exact ⟨q + 1, by omega, by go_num, HN⟩
            case measure => simp [intOf]; omega
      · have HE : Hid (part T F m q 0 = roundM T F m) := hide (by rw [show q = m.length by omega]; exact part_end)
        go_wp2_with fail
        go_ret
        have hr := HRQ.out.rw
        rw [HE.out] at hr
        refine ⟨_, rfl, ⟨by rw [u8s_len, round_len, hml, Nat.mul_one], .inr ⟨g, cap, _, rfl, HG.out, hr, HNC.out, HCM.out, ?_, ?_⟩⟩, HRQ.out.low⟩
        · have := HEX.out
          simp only [List.size_toArray, List.length_append, u8s_len, round_len]
          omega
        · rw [Nat.mul_one]
          show List.take n (u8s (roundM T F m) ++ ex) = _
          rw [List.take_append_of_le_length (by rw [u8s_len, round_len]; omega), List.take_of_length_le (by rw [u8s_len, round_len]; omega)]
end
end Go.Proofs.YtddlhlifkhaokaaGreat
