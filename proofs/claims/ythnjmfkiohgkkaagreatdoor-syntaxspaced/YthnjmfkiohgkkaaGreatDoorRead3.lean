/- The methods of a reader that look at the next token. By program (tools/gen5.py). -/
import Derived.Test.YthnjmfkiohgkkaaGreatDoorRead2
import Derived.Test.YthnjmfkiohgkkaaGreatDoorCa
import Derived.Test.YthnjmfkiohgkkaaGreatDoorMo
import Derived.Test.YthnjmfkiohgkkaaGreatDoorShelf
import Derived.Lib.AtoiErrMem
namespace Go.Proofs.YthnjmfkiohgkkaaGreatDoor.Sy
open Go.RowKit

/-- What the other layers of the program read of a text. -/
noncomputable def FN : Fns where
  day t := Ca.parseQ ⟨t.toArray⟩
  money t := Mo.parseM (Mo.strB ⟨t.toArray⟩)
  int t := match Lib.atoiAll t with
    | .ok v => some v
    | _ => none
  point t := decide (0 ≤ Lib.indexByte t 46)
  neg x := IntKind.i64.wrap (-x)

theorem tx_le {L : List Tok} (h : ∀ t ∈ L, t.text.length ≤ 65536) (i : Nat) : (tx (kt L) i).length ≤ 65536 := by
  by_cases hi : i < L.length
  · rw [(kt_at (t := L[i]) (by simp [hi])).2]
    exact h _ (List.getElem_mem hi)
  · rw [(kt_out (by omega)).2]
    simp

section
variable (R : Nat) (L : List Tok) (N : Nat) (s : RS) (st : St9) (w : World)

set_option maxRecDepth 100000 in
set_option maxHeartbeats 1600000 in
theorem hasWord_any (t : Bytes) (h : Rd R L N s st w) (o : Out Bool) (ho : hasWord (kt L) t s = o) :
    Calls Tryz.prog 46 #[.pointer (some ⟨R, 0, none⟩), .string ⟨t.toArray⟩] w (Ends R L N st w repB o) := by
  have HO := hide ho
  have H := hide h
  have F := hide (Fq.refl R w)
  clear h ho
  have CA := hide (ahead_any R L N s st w H.out 0 (by omega))
  rw [show s.n + 0 = s.n from rfl] at CA
  have ho := ask_go HO.out
  have HW : Hid (wordAt (kt L) s.n t = (decide (kd (kt L) s.n = 1) && decide (tx (kt L) s.n = t))) := rfl
  clear HO
  by_cases hk : kd (kt L) s.n = 1
  · have hlt : s.n < L.length := kd_lt (L := L) hk (by omega)
    by_cases ht : tx (kt L) s.n = t
    · have HO := hide (ite_t ho (by rw [HW.out, hk, ht]; simp))
      rw [hk, ht] at CA
      clear ho hk ht HW
      go_enter Tryz.func46, Tryz.ntmps46
      go_wp2_with fail
      refine CA.out.mono ?_
      rintro _ w1 ⟨rfl, hb⟩
      have HB := hide (hb.alloc hb.size (.cells #[.int .i64 1, .string ⟨t.toArray⟩, .int .i64 (placeAt L N s.n)] 50))
      clear hb CA
      have H1 := hide (H.out.below HB.out)
      have F1 := hide (F.out.trans (Fq.of_below HB.out))
      clear H F HB
      have C11 := hide (take_any R L N s st _ H1.out hlt _ rfl)
      go_wp2_with fail
      refine C11.out.mono ?_
      intro e w11 he
      rcases he.split with ⟨a11, s11, v11, ho, rfl, hv11, hR, hF⟩ | ⟨c, m, ho, rfl, hF⟩
      rotate_left 1
      · exact on_panic rfl (.of_bad (bind_no HO.out ho) (F1.out.trans hF))
      have HO11 := hide (bind_go HO.out ho)
      have H11 := hide hR
      have F11 := hide (F1.out.trans hF)
      clear he ho hR hF C11 H1 F1 HO
      cases hv11
      go_wp2_with fail
      go_ret
      exact .of_ok HO11.out rfl H11.out F11.out
    · have HO := hide (ite_f ho (by rw [HW.out]; simp [ht]))
      rw [hk] at CA
      have ht' : (tx (kt L) s.n == t) = false := by simp [ht]
      clear ho hk ht HW
      go_enter Tryz.func46, Tryz.ntmps46
      go_wp2_with fail
      refine CA.out.mono ?_
      rintro _ w1 ⟨rfl, hb⟩
      have HB := hide (hb.alloc hb.size (.cells #[.int .i64 1, .string ⟨(tx (kt L) s.n).toArray⟩, .int .i64 (placeAt L N s.n)] 50))
      clear hb CA
      have H1 := hide (H.out.below HB.out)
      have F1 := hide (F.out.trans (Fq.of_below HB.out))
      clear H F HB
      go_wp2_with fail
      go_ret
      exact .of_ok HO.out rfl H1.out F1.out
  · have HO := hide (ite_f ho (by rw [HW.out]; simp [hk]))
    have hk' : ¬ ((kd (kt L) s.n : Nat) : Int) = 1 := by omega
    clear ho hk HW
    go_enter Tryz.func46, Tryz.ntmps46
    go_wp2_with fail
    refine CA.out.mono ?_
    rintro _ w1 ⟨rfl, hb⟩
    have HB := hide (hb.alloc hb.size (.cells #[.int .i64 (kd (kt L) s.n), .string ⟨(tx (kt L) s.n).toArray⟩, .int .i64 (placeAt L N s.n)] 50))
    clear hb CA
    have H1 := hide (H.out.below HB.out)
    have F1 := hide (F.out.trans (Fq.of_below HB.out))
    clear H F HB
    go_wp2_with fail
    go_ret
    exact .of_ok HO.out rfl H1.out F1.out

set_option maxRecDepth 100000 in
set_option maxHeartbeats 1600000 in
theorem name_any (h : Rd R L N s st w) (o : Out Bytes) (ho : nameM (kt L) s = o) :
    Calls Tryz.prog 72 #[.pointer (some ⟨R, 0, none⟩)] w (Ends R L N st w repS o) := by
  have HO := hide ho
  have H := hide h
  have F := hide (Fq.refl R w)
  clear h ho
  have CA := hide (ahead_any R L N s st w H.out 0 (by omega))
  rw [show s.n + 0 = s.n from rfl] at CA
  have ho := ask_go HO.out
  clear HO
  by_cases hk : kd (kt L) s.n = 1
  · have hlt : s.n < L.length := kd_lt (L := L) hk (by omega)
    have CI := hide (isWord_any ⟨(tx (kt L) s.n).toArray⟩)
    rw [ByteArray.toList_mk] at CI
    rw [hk] at CA
    by_cases hw : tx (kt L) s.n ∈ wordsL
    · have HO := hide (ite_f ho (by simp [hk, hw]))
      rw [decide_eq_true hw] at CI
      clear ho hk hw
      go_enter Tryz.func72, Tryz.ntmps72
      go_wp2_with fail
      refine CA.out.mono ?_
      rintro _ w1 ⟨rfl, hb⟩
      have HB := hide (hb.alloc hb.size (.cells #[.int .i64 1, .string ⟨(tx (kt L) s.n).toArray⟩, .int .i64 (placeAt L N s.n)] 50))
      clear hb CA
      have H1 := hide (H.out.below HB.out)
      have F1 := hide (F.out.trans (Fq.of_below HB.out))
      clear H F HB
      go_wp2_with fail
      refine (CI.out _).mono ?_
      rintro _ w2 ⟨rfl, hw2⟩
      subst w2
      have CF := hide (fail_any R L N s st _ H1.out 51)
      go_wp2_with fail
      refine CF.out.mono ?_
      rintro _ w9 ⟨rfl, hF⟩
      exact on_panic rfl (.of_bad HO.out (F1.out.trans hF))
    · have HO := hide (ite_t ho (by simp [hk, hw]))
      rw [decide_eq_false hw] at CI
      clear ho hk hw
      go_enter Tryz.func72, Tryz.ntmps72
      go_wp2_with fail
      refine CA.out.mono ?_
      rintro _ w1 ⟨rfl, hb⟩
      have HB := hide (hb.alloc hb.size (.cells #[.int .i64 1, .string ⟨(tx (kt L) s.n).toArray⟩, .int .i64 (placeAt L N s.n)] 50))
      clear hb CA
      have H1 := hide (H.out.below HB.out)
      have F1 := hide (F.out.trans (Fq.of_below HB.out))
      clear H F HB
      go_wp2_with fail
      refine (CI.out _).mono ?_
      rintro _ w2 ⟨rfl, hw2⟩
      subst w2
      have C12 := hide (take_any R L N s st _ H1.out hlt _ rfl)
      go_wp2_with fail
      refine C12.out.mono ?_
      intro e w12 he
      rcases he.split with ⟨a12, s12, v12, ho, rfl, hv12, hR, hF⟩ | ⟨c, m, ho, rfl, hF⟩
      rotate_left 1
      · exact on_panic rfl (.of_bad (ho.symm.trans HO.out) (F1.out.trans hF))
      have HO12 := hide (ho.symm.trans HO.out)
      have H12 := hide hR
      have F12 := hide (F1.out.trans hF)
      clear he ho hR hF C12 H1 F1 HO
      cases hv12
      go_wp2_with fail
      go_ret
      exact .of_ok HO12.out rfl H12.out F12.out
  · have HO := hide (ite_f ho (by simp [hk]))
    have hk' : ¬ ((kd (kt L) s.n : Nat) : Int) = 1 := by omega
    clear ho hk
    go_enter Tryz.func72, Tryz.ntmps72
    go_wp2_with fail
    refine CA.out.mono ?_
    rintro _ w1 ⟨rfl, hb⟩
    have HB := hide (hb.alloc hb.size (.cells #[.int .i64 (kd (kt L) s.n), .string ⟨(tx (kt L) s.n).toArray⟩, .int .i64 (placeAt L N s.n)] 50))
    clear hb CA
    have H1 := hide (H.out.below HB.out)
    have F1 := hide (F.out.trans (Fq.of_below HB.out))
    clear H F HB
    have CF := hide (fail_any R L N s st _ H1.out 51)
    go_wp2_with fail
    refine CF.out.mono ?_
    rintro _ w9 ⟨rfl, hF⟩
    exact on_panic rfl (.of_bad HO.out (F1.out.trans hF))

set_option maxRecDepth 100000 in
set_option maxHeartbeats 1600000 in
theorem arg_any (h : Rd R L N s st w) (o : Out Bytes) (ho : argM (kt L) s = o) :
    Calls Tryz.prog 159 #[.pointer (some ⟨R, 0, none⟩)] w (Ends R L N st w repS o) := by
  have HO := hide ho
  have H := hide h
  have F := hide (Fq.refl R w)
  clear h ho
  have CA := hide (ahead_any R L N s st w H.out 0 (by omega))
  rw [show s.n + 0 = s.n from rfl] at CA
  have ho := ask_go HO.out
  clear HO
  have f0 := fun a b c w => (fld a b c w).1
  by_cases hk : kd (kt L) s.n = 2
  · have hlt : s.n < L.length := kd_lt (L := L) hk (by omega)
    have HO := hide (ite_t ho (by simp [hk]))
    rw [hk] at CA
    clear ho hk
    go_enter Tryz.func159, Tryz.ntmps159
    go_wp2_with fail
    refine CA.out.mono ?_
    rintro _ w1 ⟨rfl, hb⟩
    have HB := hide hb
    clear hb CA
    have H1 := hide (H.out.below HB.out)
    have F1 := hide (F.out.trans (Fq.of_below HB.out))
    clear H F HB
    have C13 := hide (take_any R L N s st _ H1.out hlt _ rfl)
    go_wp2_with fail
    refine C13.out.mono ?_
    intro e w13 he
    rcases he.split with ⟨a13, s13, v13, ho, rfl, hv13, hR, hF⟩ | ⟨c, m, ho, rfl, hF⟩
    rotate_left 1
    · exact on_panic rfl (.of_bad (ho.symm.trans HO.out) (F1.out.trans hF))
    have HO13 := hide (ho.symm.trans HO.out)
    have H13 := hide hR
    have F13 := hide (F1.out.trans hF)
    clear he ho hR hF C13 H1 F1 HO
    cases hv13
    go_wp2_with fail
    go_ret
    exact .of_ok HO13.out rfl H13.out F13.out
  · have HO := hide (ite_f ho (by simp [hk]))
    have hk' : ¬ ((kd (kt L) s.n : Nat) : Int) = 2 := by omega
    clear ho hk
    go_enter Tryz.func159, Tryz.ntmps159
    go_wp2_with fail
    refine CA.out.mono ?_
    rintro _ w1 ⟨rfl, hb⟩
    have HB := hide hb
    clear hb CA
    have H1 := hide (H.out.below HB.out)
    have F1 := hide (F.out.trans (Fq.of_below HB.out))
    clear H F HB
    have C14 := hide (name_any R L N s st _ H1.out _ rfl)
    go_wp2_with fail
    refine C14.out.mono ?_
    intro e w14 he
    rcases he.split with ⟨a14, s14, v14, ho, rfl, hv14, hR, hF⟩ | ⟨c, m, ho, rfl, hF⟩
    rotate_left 1
    · exact on_panic rfl (.of_bad (ho.symm.trans HO.out) (F1.out.trans hF))
    have HO14 := hide (ho.symm.trans HO.out)
    have H14 := hide hR
    have F14 := hide (F1.out.trans hF)
    clear he ho hR hF C14 H1 F1 HO
    cases hv14
    go_wp2_with fail
    go_ret
    exact .of_ok HO14.out rfl H14.out F14.out

set_option maxRecDepth 100000 in
set_option maxHeartbeats 1600000 in
theorem quote_any (h : Rd R L N s st w) (o : Out Bytes) (ho : quoteM (kt L) s = o) :
    Calls Tryz.prog 47 #[.pointer (some ⟨R, 0, none⟩)] w (Ends R L N st w repS o) := by
  have HO := hide ho
  have H := hide h
  have F := hide (Fq.refl R w)
  clear h ho
  have CA := hide (ahead_any R L N s st w H.out 0 (by omega))
  rw [show s.n + 0 = s.n from rfl] at CA
  have ho := ask_go HO.out
  clear HO
  have f0 := fun a b c w => (fld a b c w).1
  by_cases hk : kd (kt L) s.n = 5
  · have hlt : s.n < L.length := kd_lt (L := L) hk (by omega)
    have HO := hide (ite_t ho (by simp [hk]))
    rw [hk] at CA
    clear ho hk
    go_enter Tryz.func47, Tryz.ntmps47
    go_wp2_with fail
    refine CA.out.mono ?_
    rintro _ w1 ⟨rfl, hb⟩
    have HB := hide hb
    clear hb CA
    have H1 := hide (H.out.below HB.out)
    have F1 := hide (F.out.trans (Fq.of_below HB.out))
    clear H F HB
    have C15 := hide (take_any R L N s st _ H1.out hlt _ rfl)
    go_wp2_with fail
    refine C15.out.mono ?_
    intro e w15 he
    rcases he.split with ⟨a15, s15, v15, ho, rfl, hv15, hR, hF⟩ | ⟨c, m, ho, rfl, hF⟩
    rotate_left 1
    · exact on_panic rfl (.of_bad (ho.symm.trans HO.out) (F1.out.trans hF))
    have HO15 := hide (ho.symm.trans HO.out)
    have H15 := hide hR
    have F15 := hide (F1.out.trans hF)
    clear he ho hR hF C15 H1 F1 HO
    cases hv15
    go_wp2_with fail
    go_ret
    exact .of_ok HO15.out rfl H15.out F15.out
  · have HO := hide (ite_f ho (by simp [hk]))
    have hk' : ¬ ((kd (kt L) s.n : Nat) : Int) = 5 := by omega
    clear ho hk
    go_enter Tryz.func47, Tryz.ntmps47
    go_wp2_with fail
    refine CA.out.mono ?_
    rintro _ w1 ⟨rfl, hb⟩
    have HB := hide hb
    clear hb CA
    have H1 := hide (H.out.below HB.out)
    have F1 := hide (F.out.trans (Fq.of_below HB.out))
    clear H F HB
    have CF := hide (fail_any R L N s st _ H1.out 51)
    go_wp2_with fail
    refine CF.out.mono ?_
    rintro _ w9 ⟨rfl, hF⟩
    exact on_panic rfl (.of_bad HO.out (F1.out.trans hF))

set_option maxRecDepth 100000 in
set_option maxHeartbeats 1600000 in
theorem date_any (h : Rd R L N s st w) (o : Out Int) (ho : dateM FN (kt L) s = o) :
    Calls Tryz.prog 129 #[.pointer (some ⟨R, 0, none⟩)] w (Ends R L N st w repI o) := by
  have HO := hide ho
  have H := hide h
  have F := hide (Fq.refl R w)
  clear h ho
  have CA := hide (ahead_any R L N s st w H.out 0 (by omega))
  rw [show s.n + 0 = s.n from rfl] at CA
  have ho := ask_go HO.out
  obtain ⟨d, er, hd⟩ : ∃ d er, FN.day (tx (kt L) s.n) = (d, er) := ⟨_, _, rfl⟩
  have CP := hide (Ca.parse_any ⟨(tx (kt L) s.n).toArray⟩)
  rw [show Ca.parseQ ⟨(tx (kt L) s.n).toArray⟩ = (d, er) from hd] at CP
  simp only [Ca.duo] at CP
  clear HO
  by_cases hk : kd (kt L) s.n = 4
  · have hlt : s.n < L.length := kd_lt (L := L) hk (by omega)
    rw [hk] at CA
    by_cases he : er = 0
    · have HO := hide (ask_go (ite_t ho (by simp [hk, hd, he])))
      simp only [hd] at HO
      subst he
      clear ho hk hd
      go_enter Tryz.func129, Tryz.ntmps129
      go_wp2_with fail
      refine CA.out.mono ?_
      rintro _ w1 ⟨rfl, hb⟩
      have HB := hide (hb.alloc hb.size (.cells #[.int .i64 4, .string ⟨(tx (kt L) s.n).toArray⟩, .int .i64 (placeAt L N s.n)] 50))
      clear hb CA
      have H1 := hide (H.out.below HB.out)
      have F1 := hide (F.out.trans (Fq.of_below HB.out))
      clear H F HB
      go_wp2_with fail
      refine (CP.out _).mono ?_
      rintro _ w2 ⟨rfl, hb⟩
      have H2 := hide (H1.out.below hb)
      have F2 := hide (F1.out.trans (Fq.of_below hb))
      have z0 : w2.cell? ⟨w1.heap.size, 0, none⟩ = _ := (hb.cell (by simp)).trans (cell_of_row _ _ 0 _ 50 _ (heap_alloc_new w1 _))
      simp at z0
      clear hb CP H1 F1
      have C16 := hide (take_any R L N s st _ H2.out hlt _ rfl)
      go_wp2_with fail
      refine C16.out.mono ?_
      intro e w16 he
      rcases he.split with ⟨a16, s16, v16, ho, rfl, hv16, hR, hF⟩ | ⟨c, m, ho, rfl, hF⟩
      rotate_left 1
      · exact on_panic rfl (.of_bad (bind_no HO.out ho) (F2.out.trans hF))
      have HO16 := hide (bind_go HO.out ho)
      have H16 := hide hR
      have F16 := hide (F2.out.trans hF)
      clear he ho hR hF C16 H2 F2 HO
      cases hv16
      go_wp2_with fail
      go_ret
      exact .of_ok HO16.out rfl H16.out F16.out
    · have HO := hide (ite_f ho (by simp [hd, he]))
      clear ho hk hd
      go_enter Tryz.func129, Tryz.ntmps129
      go_wp2_with fail
      refine CA.out.mono ?_
      rintro _ w1 ⟨rfl, hb⟩
      have HB := hide (hb.alloc hb.size (.cells #[.int .i64 4, .string ⟨(tx (kt L) s.n).toArray⟩, .int .i64 (placeAt L N s.n)] 50))
      clear hb CA
      have H1 := hide (H.out.below HB.out)
      have F1 := hide (F.out.trans (Fq.of_below HB.out))
      clear H F HB
      go_wp2_with fail
      refine (CP.out _).mono ?_
      rintro _ w2 ⟨rfl, hb⟩
      have H2 := hide (H1.out.below hb)
      have F2 := hide (F1.out.trans (Fq.of_below hb))
      have z0 : w2.cell? ⟨w1.heap.size, 0, none⟩ = _ := (hb.cell (by simp)).trans (cell_of_row _ _ 0 _ 50 _ (heap_alloc_new w1 _))
      simp at z0
      clear hb CP H1 F1
      have CF := hide (fail_any R L N s st _ H2.out 51)
      go_wp2_with fail
      refine CF.out.mono ?_
      rintro _ w9 ⟨rfl, hF⟩
      exact on_panic rfl (.of_bad HO.out (F2.out.trans hF))
  · have HO := hide (ite_f ho (by simp [hk]))
    have hk' : ¬ ((kd (kt L) s.n : Nat) : Int) = 4 := by omega
    clear ho hk hd
    go_enter Tryz.func129, Tryz.ntmps129
    go_wp2_with fail
    refine CA.out.mono ?_
    rintro _ w1 ⟨rfl, hb⟩
    have HB := hide (hb.alloc hb.size (.cells #[.int .i64 (kd (kt L) s.n), .string ⟨(tx (kt L) s.n).toArray⟩, .int .i64 (placeAt L N s.n)] 50))
    clear hb CA
    have H1 := hide (H.out.below HB.out)
    have F1 := hide (F.out.trans (Fq.of_below HB.out))
    clear H F HB
    go_wp2_with fail
    refine (CP.out _).mono ?_
    rintro _ w2 ⟨rfl, hb⟩
    have H2 := hide (H1.out.below hb)
    have F2 := hide (F1.out.trans (Fq.of_below hb))
    have z0 : w2.cell? ⟨w1.heap.size, 0, none⟩ = _ := (hb.cell (by simp)).trans (cell_of_row _ _ 0 _ 50 _ (heap_alloc_new w1 _))
    simp at z0
    clear hb CP H1 F1
    have CF := hide (fail_any R L N s st _ H2.out 51)
    go_wp2_with fail
    refine CF.out.mono ?_
    rintro _ w9 ⟨rfl, hF⟩
    exact on_panic rfl (.of_bad HO.out (F2.out.trans hF))

end
end Go.Proofs.YthnjmfkiohgkkaaGreatDoor.Sy
