/- A token's text: the document's. -/
import Derived.Test.YtlllgndbcagkgaaText
namespace Go.Proofs.Ytlllgndbcagkgaa
open Go.RowKit

/-- What a text that is one token is. -/
theorem text_facts {kd : Int} {tx : List UInt8} {t : Tok} (he : (lexT (writtenF kd tx)).err = 0) (ht : (lexT (writtenF kd tx)).tk = [t]) (hk : (t.kind : Int) = kd) (hx : t.text = tx) :
    t.place = 0 ∧ 1 ≤ (writtenF kd tx).length ∧ blankB ((writtenF kd tx).getD ((writtenF kd tx).length - 1) 0) = false ∧ clsB ((writtenF kd tx).getD 0 0) ≠ 8 ∧ (one (writtenF kd tx)).2.2.1 = 0 ∧ (one (writtenF kd tx)).2.1 = (writtenF kd tx).length ∧ (one (writtenF kd tx)).1 = t.kind ∧ blankB ((writtenF kd tx).getD 0 0) = false := by
  obtain ⟨_, _, hR⟩ := lexT_place he
  rw [hR] at he ht
  obtain ⟨ts, rs, h1, _, h3⟩ := cut_of_W _ _ (Nat.le_refl _) 0 [] [] he
  have h1' : ts = [t] := by
    have : (lexR (writtenF kd tx)).tk = [] ++ ts := h1
    rw [ht] at this; simpa using this.symm
  have hw : writtenF (t.kind : Int) t.text = writtenF kd tx := by rw [hk, hx]
  obtain ⟨g0, g1, g2, g3, g4, g5, g6⟩ := cut_whole h3 t h1' (by rw [hw]; exact Nat.le_refl _)
  have hkind : (one (writtenF kd tx)).1 = t.kind := by rw [g5]; rfl
  refine ⟨g1, List.length_pos_iff.2 g0, ?_, g3, g4, g6, hkind, g2⟩
  by_cases h5 : kd = 5
  · subst h5
    have e : writtenF 5 tx = (34 :: tx) ++ [34] := by unfold writtenF; rw [if_pos rfl]; simp
    rw [e]
    have e2 : ((34 :: tx) ++ [(34 : UInt8)]).length - 1 = (34 :: tx).length := by simp
    rw [e2, getD_mid]; decide
  · exact one_last g0 g4 g6 (by rw [hkind]; omega) g2

set_option maxRecDepth 100000 in
set_option maxHeartbeats 6400000 in
theorem refText_quote (tx : ByteArray) (pl : Int) (w : World) (h : tx.size ≤ 140737488351232) :
    Calls Try.prog 21 #[.agg #[.int .i64 5, .string tx, .int .i64 pl]] w fun r w' => r = .returned (textV (textF 5 tx.data.toList)) ∧ Below w.heap.size w w' := by
  have HS : Hid ((⟨#[34]⟩ ++ tx ++ ⟨#[34]⟩ : ByteArray).data.toList = writtenF 5 tx.data.toList) := by unfold Hid writtenF; rw [if_pos rfl, quoted]
  have C2 := hide (refTokens_any (⟨#[34]⟩ ++ tx ++ ⟨#[34]⟩ : ByteArray))
  rw [HS.out] at C2
  have HT : Hid (textF 5 tx.data.toList = if (lexT (writtenF 5 tx.data.toList)).err = 0 ∧ (lexT (writtenF 5 tx.data.toList)).tk.length = 1 ∧ ((tok0 (lexT (writtenF 5 tx.data.toList)).tk).kind : Int) = 5 ∧ (tok0 (lexT (writtenF 5 tx.data.toList)).tk).text = tx.data.toList then some (writtenF 5 tx.data.toList) else none) := rfl
  have HF := hide (fun (t : Tok) he ht hk hx => text_facts (kd := 5) (tx := tx.data.toList) (t := t) he ht hk hx)
  generalize lexT (writtenF 5 tx.data.toList) = Z at *
  go_enter Try.func21, Try.ntmps21
  go_wp2_with fail
  refine (C2.out _).mono ?_
  rintro _ w2 ⟨v, rfl, ho, hb2⟩
  obtain ⟨a, c, rfl, hr⟩ := own_rowT ho
  have c0 : w2.cell? ⟨w.heap.size, 0, none⟩ = some (.int .i64 5) := by
    rw [hb2.cell (p := ⟨w.heap.size, 0, none⟩) (by simp), cell_of_row _ w.heap.size 0 _ 47 (0, 0) (heap_alloc_new w _)]; rfl
  have c1 : w2.cell? ⟨w.heap.size, 1, none⟩ = some (.string tx) := by
    rw [hb2.cell (p := ⟨w.heap.size, 1, none⟩) (by simp), cell_of_row _ w.heap.size 1 _ 47 (0, 0) (heap_alloc_new w _)]; rfl
  have HB2 : Hid (Below w.heap.size w w2) := ((Below.refl _ _).alloc (Nat.le_refl _) _).trans (hb2.mono (by simp))
  have HR := hide hr
  clear hb2 hr ho C2
  have hszb : (⟨#[34]⟩ ++ tx ++ ⟨#[34]⟩ : ByteArray).size ≤ 140737488351300 := by
    rw [ByteArray.size_append, ByteArray.size_append]
    have e1 : (⟨#[34]⟩ : ByteArray).size = 1 := rfl
    omega
  generalize (⟨#[34]⟩ ++ tx ++ ⟨#[34]⟩ : ByteArray) = SB at *
  by_cases he : Z.err = 0
  · have he' : (Z.err : Int) = 0 := by omega
    rw [he']
    by_cases hl : Z.tk.length = 1
    · obtain ⟨t, ht⟩ : ∃ t, Z.tk = [t] := List.length_eq_one_iff.1 hl
      obtain ⟨b, o, rfl, r0, r1, r2⟩ := HR.out 0 t (by rw [ht]; rfl)
      rw [hl]
      simp only [ht, tok0, List.headD_cons, List.length_cons, List.length_nil] at HT
      simp only [strV, Nat.zero_mul, Nat.add_zero] at r0 r1 r2
      clear HR
      by_cases hk : (t.kind : Int) = 5
      · have hkn : ((t.kind : Int) != 5) = false := by simpa using hk
        have e2 := ByteArray.toList_eq tx
        by_cases hx : t.text = tx.data.toList
        · have hxn : (t.text == tx.toList) = true := by rw [e2, hx]; simp
          rw [if_pos ⟨he, by simp, hk, hx⟩] at HT
          obtain ⟨f0, f1, f2, f3, _, _, _, _⟩ := HF.out t he ht hk hx
          rw [← HS.out] at f1 f2 f3 HT
          have hln : SB.data.toList.length = SB.size := by simp
          rw [hln] at f1 f2
          obtain ⟨m, hm⟩ : ∃ m, SB.size = m + 1 := ⟨SB.size - 1, by omega⟩
          have hm0 : m < SB.size := by omega
          have h00 : 0 < SB.size := by omega
          rw [hm, Nat.add_sub_cancel, getD_at SB m hm0] at f2
          rw [getD_at SB 0 h00] at f3
          have n35 : ¬ (SB[0].toNat : Int) = 35 := fun h => f3 ((cls_nums SB[0].toNat).2.2.2.2.2.2.2.1.2 h)
          have CB := hide (blank_any SB[m])
          rw [f2] at CB
          rw [f0] at r2
          clear e2 hx f0 f1 f2 f3 HF HS hln
          have hmb : m ≤ 140737488351300 := by omega
          have wm : IntKind.i64.wrap (m : Int) = (m : Int) := by rw [IntKind.wrap_i64]; omega
          have b0 : (0 : Int) ≤ (m : Int) := by omega
          have b1 : (m : Int) < (m : Int) + 1 := by omega
          clear hk
          go_wp2_with fail
          go_quiet ((go_at_call 31; exact Calls.quiet_of_same (CB.out _)))
          go_wp2_with fail
          go_ret2
          rw [HT.out]
          refine ⟨?_, HB2.out.trans ((below_drewN w2 nq).mono HB2.out.size)⟩
          simp only [textV, strV_data]
          rfl
        · have hxn : (t.text == tx.toList) = false := by rw [e2]; simpa using hx
          rw [if_neg (fun h => hx h.2.2.2)] at HT
          clear e2 hx hk HF HS
          go_wp2_with fail
          go_quiet (fail)
          go_wp2_with fail
          go_ret2
          rw [HT.out]
          exact ⟨rfl, HB2.out.trans ((below_drewN w2 nq).mono HB2.out.size)⟩
      · have hn : ((t.kind : Int) != 5) = true := by simpa using hk
        rw [if_neg (fun h => hk h.2.2.1)] at HT
        clear HF HS
        go_wp2_with fail
        go_quiet (fail)
        go_wp2_with fail
        go_ret2
        rw [HT.out]
        exact ⟨rfl, HB2.out.trans ((below_drewN w2 nq).mono HB2.out.size)⟩
    · have hl' : ¬ (Z.tk.length : Int) = 1 := by omega
      have hn : ((Z.tk.length : Int) != 1) = true := by simpa using hl'
      rw [if_neg (fun h => hl h.2.1)] at HT
      clear HF HS
      go_wp2_with fail
      go_quiet (fail)
      go_wp2_with fail
      go_ret2
      rw [HT.out]
      exact ⟨rfl, HB2.out.trans ((below_drewN w2 nq).mono HB2.out.size)⟩
  · have he' : ¬ (Z.err : Int) = 0 := by omega
    have hn : ((Z.err : Int) != 0) = true := by simpa using he'
    rw [if_neg (fun h => he h.1)] at HT
    clear HF HS
    go_wp2_with fail
    go_quiet (fail)
    go_wp2_with fail
    go_ret2
    rw [HT.out]
    exact ⟨rfl, HB2.out.trans ((below_drewN w2 nq).mono HB2.out.size)⟩

set_option maxRecDepth 100000 in
set_option maxHeartbeats 6400000 in
theorem refText_plain (kd : Int) (tx : ByteArray) (pl : Int) (w : World) (h : tx.size ≤ 140737488351232) (h5 : ¬ kd = 5) :
    Calls Try.prog 21 #[.agg #[.int .i64 kd, .string tx, .int .i64 pl]] w fun r w' => r = .returned (textV (textF kd tx.data.toList)) ∧ Below w.heap.size w w' := by
  have HS : Hid (tx.data.toList = writtenF kd tx.data.toList) := by unfold Hid writtenF; rw [if_neg h5]
  have C2 := hide (refTokens_any tx)
  rw [HS.out] at C2
  have HT : Hid (textF kd tx.data.toList = if (lexT (writtenF kd tx.data.toList)).err = 0 ∧ (lexT (writtenF kd tx.data.toList)).tk.length = 1 ∧ ((tok0 (lexT (writtenF kd tx.data.toList)).tk).kind : Int) = kd ∧ (tok0 (lexT (writtenF kd tx.data.toList)).tk).text = tx.data.toList then some (writtenF kd tx.data.toList) else none) := rfl
  have HF := hide (fun (t : Tok) he ht hk hx => text_facts (kd := kd) (tx := tx.data.toList) (t := t) he ht hk hx)
  generalize lexT (writtenF kd tx.data.toList) = Z at *
  go_enter Try.func21, Try.ntmps21
  go_wp2_with fail
  refine (C2.out _).mono ?_
  rintro _ w2 ⟨v, rfl, ho, hb2⟩
  obtain ⟨a, c, rfl, hr⟩ := own_rowT ho
  have c0 : w2.cell? ⟨w.heap.size, 0, none⟩ = some (.int .i64 kd) := by
    rw [hb2.cell (p := ⟨w.heap.size, 0, none⟩) (by simp), cell_of_row _ w.heap.size 0 _ 47 (0, 0) (heap_alloc_new w _)]; rfl
  have c1 : w2.cell? ⟨w.heap.size, 1, none⟩ = some (.string tx) := by
    rw [hb2.cell (p := ⟨w.heap.size, 1, none⟩) (by simp), cell_of_row _ w.heap.size 1 _ 47 (0, 0) (heap_alloc_new w _)]; rfl
  have HB2 : Hid (Below w.heap.size w w2) := ((Below.refl _ _).alloc (Nat.le_refl _) _).trans (hb2.mono (by simp))
  have HR := hide hr
  clear hb2 hr ho C2
  have hszb : tx.size ≤ 140737488351300 := by omega
  by_cases he : Z.err = 0
  · have he' : (Z.err : Int) = 0 := by omega
    rw [he']
    by_cases hl : Z.tk.length = 1
    · obtain ⟨t, ht⟩ : ∃ t, Z.tk = [t] := List.length_eq_one_iff.1 hl
      obtain ⟨b, o, rfl, r0, r1, r2⟩ := HR.out 0 t (by rw [ht]; rfl)
      rw [hl]
      simp only [ht, tok0, List.headD_cons, List.length_cons, List.length_nil] at HT
      simp only [strV, Nat.zero_mul, Nat.add_zero] at r0 r1 r2
      clear HR
      by_cases hk : (t.kind : Int) = kd
      · have hkn : ((t.kind : Int) != kd) = false := by simpa using hk
        have e2 := ByteArray.toList_eq tx
        by_cases hx : t.text = tx.data.toList
        · have hxn : (t.text == tx.toList) = true := by rw [e2, hx]; simp
          rw [if_pos ⟨he, by simp, hk, hx⟩] at HT
          obtain ⟨f0, f1, f2, f3, _, _, _, _⟩ := HF.out t he ht hk hx
          rw [← HS.out] at f1 f2 f3 HT
          have hln : tx.data.toList.length = tx.size := by simp
          rw [hln] at f1 f2
          obtain ⟨m, hm⟩ : ∃ m, tx.size = m + 1 := ⟨tx.size - 1, by omega⟩
          have hm0 : m < tx.size := by omega
          have h00 : 0 < tx.size := by omega
          rw [hm, Nat.add_sub_cancel, getD_at tx m hm0] at f2
          rw [getD_at tx 0 h00] at f3
          have n35 : ¬ (tx[0].toNat : Int) = 35 := fun h => f3 ((cls_nums tx[0].toNat).2.2.2.2.2.2.2.1.2 h)
          have CB := hide (blank_any tx[m])
          rw [f2] at CB
          rw [f0] at r2
          clear e2 hx f0 f1 f2 f3 HF HS hln
          have hmb : m ≤ 140737488351300 := by omega
          have wm : IntKind.i64.wrap (m : Int) = (m : Int) := by rw [IntKind.wrap_i64]; omega
          have b0 : (0 : Int) ≤ (m : Int) := by omega
          have b1 : (m : Int) < (m : Int) + 1 := by omega
          have h5n : (kd != 5) = true := by simpa using h5
          clear hk
          go_wp2_with fail
          go_quiet ((go_at_call 31; exact Calls.quiet_of_same (CB.out _)))
          go_wp2_with fail
          go_ret2
          rw [HT.out]
          refine ⟨?_, HB2.out.trans ((below_drewN w2 nq).mono HB2.out.size)⟩
          simp only [textV, strV_data]
          rfl
        · have hxn : (t.text == tx.toList) = false := by rw [e2]; simpa using hx
          rw [if_neg (fun h => hx h.2.2.2)] at HT
          clear e2 hx hk HF HS
          go_wp2_with fail
          go_quiet (fail)
          go_wp2_with fail
          go_ret2
          rw [HT.out]
          exact ⟨rfl, HB2.out.trans ((below_drewN w2 nq).mono HB2.out.size)⟩
      · have hn : ((t.kind : Int) != kd) = true := by simpa using hk
        rw [if_neg (fun h => hk h.2.2.1)] at HT
        clear HF HS
        go_wp2_with fail
        go_quiet (fail)
        go_wp2_with fail
        go_ret2
        rw [HT.out]
        exact ⟨rfl, HB2.out.trans ((below_drewN w2 nq).mono HB2.out.size)⟩
    · have hl' : ¬ (Z.tk.length : Int) = 1 := by omega
      have hn : ((Z.tk.length : Int) != 1) = true := by simpa using hl'
      rw [if_neg (fun h => hl h.2.1)] at HT
      clear HF HS
      go_wp2_with fail
      go_quiet (fail)
      go_wp2_with fail
      go_ret2
      rw [HT.out]
      exact ⟨rfl, HB2.out.trans ((below_drewN w2 nq).mono HB2.out.size)⟩
  · have he' : ¬ (Z.err : Int) = 0 := by omega
    have hn : ((Z.err : Int) != 0) = true := by simpa using he'
    rw [if_neg (fun h => he h.1)] at HT
    clear HF HS
    go_wp2_with fail
    go_quiet (fail)
    go_wp2_with fail
    go_ret2
    rw [HT.out]
    exact ⟨rfl, HB2.out.trans ((below_drewN w2 nq).mono HB2.out.size)⟩

theorem refText_any (kd : Int) (tx : ByteArray) (pl : Int) (w : World) (h : tx.size ≤ 140737488351232) :
    Calls Try.prog 21 #[.agg #[.int .i64 kd, .string tx, .int .i64 pl]] w fun r w' => r = .returned (textV (textF kd tx.data.toList)) ∧ Below w.heap.size w w' := by
  by_cases h5 : kd = 5
  · subst h5; exact refText_quote tx pl w h
  · exact refText_plain kd tx pl w h h5
end Go.Proofs.Ytlllgndbcagkgaa
