/- A token's text: the program's. -/
import Derived.Test.YtlllgndbcagkgaaBuild
import Derived.Test.YtlllgndbcagkgaaCut
namespace Go.Proofs.Ytlllgndbcagkgaa
open Go.RowKit

def tok0 (l : List Tok) : Tok := l.headD ⟨0, [], 0⟩

/-- What Text answers. -/
def textF (kd : Int) (tx : List UInt8) : Option (List UInt8) :=
  if (lexT (writtenF kd tx)).err = 0 ∧ (lexT (writtenF kd tx)).tk.length = 1 ∧ ((tok0 (lexT (writtenF kd tx)).tk).kind : Int) = kd ∧ (tok0 (lexT (writtenF kd tx)).tk).text = tx then some (writtenF kd tx) else none

def textV : Option (List UInt8) → Value
  | some s => .tuple #[strV s, .int .i64 0]
  | none => .tuple #[.string ⟨#[]⟩, .int .i64 51]

theorem quoted (tx : ByteArray) : (⟨#[34]⟩ ++ tx ++ ⟨#[34]⟩ : ByteArray) = ⟨(34 :: (tx.data.toList ++ [34])).toArray⟩ := by
  apply ByteArray.ext
  apply Array.toList_inj.1
  simp

set_option maxRecDepth 100000 in
set_option maxHeartbeats 1600000 in
theorem written_any (kd : Int) (tx : ByteArray) (pl : Int) (w : World) (h : tx.size ≤ 140737488351232) :
    Calls Try.prog 30 #[.agg #[.int .i64 kd, .string tx, .int .i64 pl]] w fun r w' => r = .returned (strV (writtenF kd tx.data.toList)) ∧ Below w.heap.size w w' := by
  by_cases h5 : kd = 5
  · subst h5
    have HW : Hid (strV (writtenF 5 tx.data.toList) = .string (⟨#[34]⟩ ++ tx ++ ⟨#[34]⟩)) := by unfold Hid writtenF; rw [if_pos rfl, quoted]; rfl
    go_enter Try.func30, Try.ntmps30
    go_wp2_with fail
    go_ret
    rw [HW.out]
    exact ⟨rfl, (Below.refl _ _).alloc (Nat.le_refl _) _⟩
  · have HW : Hid (strV (writtenF kd tx.data.toList) = .string tx) := by unfold Hid writtenF; rw [if_neg h5, strV_data]
    have CC := hide (fun w => clone_any tx w (by omega))
    go_enter Try.func30, Try.ntmps30
    go_wp2_with fail
    refine (CC.out _).mono ?_
    rintro _ w1 ⟨rfl, hb⟩
    have HB := hide (((Below.refl _ _).alloc (Nat.le_refl _) _).trans (hb.mono (by simp)))
    clear hb
    go_wp2_with fail
    go_ret
    rw [HW.out]
    exact ⟨rfl, HB.out⟩

set_option maxRecDepth 100000 in
set_option maxHeartbeats 3200000 in
theorem text_any (kd : Int) (tx : ByteArray) (pl : Int) (w : World) (h : tx.size ≤ 140737488351232) :
    Calls Try.prog 20 #[.agg #[.int .i64 kd, .string tx, .int .i64 pl]] w fun r w' => r = .returned (textV (textF kd tx.data.toList)) ∧ Below w.heap.size w w' := by
  have C1 := hide (fun w => written_any kd tx pl w h)
  have C2 := hide (tokens_any ⟨(writtenF kd tx.data.toList).toArray⟩)
  have HT : Hid (textF kd tx.data.toList = if (lexT (writtenF kd tx.data.toList)).err = 0 ∧ (lexT (writtenF kd tx.data.toList)).tk.length = 1 ∧ ((tok0 (lexT (writtenF kd tx.data.toList)).tk).kind : Int) = kd ∧ (tok0 (lexT (writtenF kd tx.data.toList)).tk).text = tx.data.toList then some (writtenF kd tx.data.toList) else none) := rfl
  simp only at C2
  generalize lexT (writtenF kd tx.data.toList) = Z at *
  generalize writtenF kd tx.data.toList = S at *
  go_enter Try.func20, Try.ntmps20
  go_wp2_with fail
  refine (C1.out _).mono ?_
  rintro _ w1 ⟨rfl, hb1⟩
  have HB1 := hide hb1
  clear hb1
  go_wp2_with fail
  refine (C2.out _).mono ?_
  rintro _ w2 ⟨v, rfl, ho, hb2⟩
  obtain ⟨a, c, rfl, hr⟩ := own_rowT ho
  have c0 : w2.cell? ⟨w.heap.size, 0, none⟩ = some (.int .i64 kd) := by
    rw [hb2.cell (p := ⟨w.heap.size, 0, none⟩) (by have := HB1.out.size; simp at this; simp; omega), HB1.out.cell (p := ⟨w.heap.size, 0, none⟩) (by simp), cell_of_row _ w.heap.size 0 _ 47 (0, 0) (heap_alloc_new w _)]; rfl
  have c1 : w2.cell? ⟨w.heap.size, 1, none⟩ = some (.string tx) := by
    rw [hb2.cell (p := ⟨w.heap.size, 1, none⟩) (by have := HB1.out.size; simp at this; simp; omega), HB1.out.cell (p := ⟨w.heap.size, 1, none⟩) (by simp), cell_of_row _ w.heap.size 1 _ 47 (0, 0) (heap_alloc_new w _)]; rfl
  have HB2 : Hid (Below w.heap.size w w2) := ((Below.refl _ _).alloc (Nat.le_refl _) _).trans ((HB1.out.mono (by simp)).trans (hb2.mono (by have := HB1.out.size; simp at this; omega)))
  have HR := hide hr
  clear hb2 hr ho HB1 C1 C2
  by_cases he : Z.err = 0
  · have he' : (Z.err : Int) = 0 := by omega
    rw [he']
    by_cases hl : Z.tk.length = 1
    · obtain ⟨t, ht⟩ : ∃ t, Z.tk = [t] := List.length_eq_one_iff.1 hl
      obtain ⟨b, o, rfl, r0, r1, r2⟩ := HR.out 0 t (by rw [ht]; rfl)
      rw [hl]
      simp only [ht, tok0, List.headD_cons, List.length_cons, List.length_nil] at HT
      simp only [strV, Nat.zero_mul, Nat.add_zero] at r0 r1
      clear HR r2
      by_cases hk : (t.kind : Int) = kd
      · have hkn : ((t.kind : Int) != kd) = false := by simpa using hk
        have e2 := ByteArray.toList_eq tx
        by_cases hx : t.text = tx.data.toList
        · have hxn : (t.text == tx.toList) = true := by rw [e2, hx]; simp
          rw [if_pos ⟨he, by simp, hk, hx⟩] at HT
          clear e2 hx hk
          go_wp2_with fail
          go_quiet (fail)
          go_wp2_with fail
          go_ret2
          rw [HT.out]
          exact ⟨rfl, HB2.out.trans ((below_drewN w2 nq).mono HB2.out.size)⟩
        · have hxn : (t.text == tx.toList) = false := by rw [e2]; simpa using hx
          rw [if_neg (fun h => hx h.2.2.2)] at HT
          clear e2 hx hk
          go_wp2_with fail
          go_quiet (fail)
          go_wp2_with fail
          go_ret2
          rw [HT.out]
          exact ⟨rfl, HB2.out.trans ((below_drewN w2 nq).mono HB2.out.size)⟩
      · have hn : ((t.kind : Int) != kd) = true := by simpa using hk
        rw [if_neg (fun h => hk h.2.2.1)] at HT
        go_wp2_with fail
        go_quiet (fail)
        go_wp2_with fail
        go_ret2
        rw [HT.out]
        exact ⟨rfl, HB2.out.trans ((below_drewN w2 nq).mono HB2.out.size)⟩
    · have hl' : ¬ (Z.tk.length : Int) = 1 := by omega
      have hn : ((Z.tk.length : Int) != 1) = true := by simpa using hl'
      rw [if_neg (fun h => hl h.2.1)] at HT
      go_wp2_with fail
      go_quiet (fail)
      go_wp2_with fail
      go_ret2
      rw [HT.out]
      exact ⟨rfl, HB2.out.trans ((below_drewN w2 nq).mono HB2.out.size)⟩
  · have he' : ¬ (Z.err : Int) = 0 := by omega
    have hn : ((Z.err : Int) != 0) = true := by simpa using he'
    rw [if_neg (fun h => he h.1)] at HT
    go_wp2_with fail
    go_quiet (fail)
    go_wp2_with fail
    go_ret2
    rw [HT.out]
    exact ⟨rfl, HB2.out.trans ((below_drewN w2 nq).mono HB2.out.size)⟩
end Go.Proofs.Ytlllgndbcagkgaa
