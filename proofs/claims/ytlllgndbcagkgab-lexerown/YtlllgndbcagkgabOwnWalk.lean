/- LexerOwn, walked: whatever text, it returns true. -/
import Derived.Test.YtlllgndbcagkgabPut
import Derived.Test.YtlllgndbcagkgabWorks
namespace Go.Proofs.Ytlllgndbcagkgab
open Go.RowKit

theorem W_bound : ∀ (n : Nat) (l : List UInt8), l.length ≤ n → ∀ (i : Nat) (tk : List Tok) (rm : List (List UInt8)), (W l i tk rm).tk.length ≤ tk.length + l.length ∧ (W l i tk rm).rm.length ≤ rm.length + l.length := by
  intro n
  induction n with
  | zero => intro l hl i tk rm; have : l = [] := List.eq_nil_of_length_eq_zero (by omega); subst this; rw [W_nil]; simp
  | succ n ih =>
    intro l hl i tk rm
    cases l with
    | nil => rw [W_nil]; simp
    | cons c r =>
      have hr : r.length ≤ n := by simpa using hl
      by_cases hb : blankB c = true
      · rw [W_blank c r i tk rm hb]
        have := ih r hr (i + 1) tk rm
        simp only [List.length_cons]; omega
      · have hb' : blankB c = false := by simpa using hb
        by_cases h8 : clsB c = 8
        · rw [W_remark c r i tk rm h8]
          have := ih (r.drop (span noEnd r)) (by simp; omega) (i + 1 + span noEnd r) tk (rm ++ [r.take (span noEnd r)])
          simp only [List.length_cons, List.length_append, List.length_nil, List.length_drop] at this ⊢; omega
        · by_cases he : (one (c :: r)).2.2.1 = 0
          · have hol := one_len (l := c :: r) (by simp) he
            rw [W_tok c r i tk rm hb' h8 he]
            have := ih ((c :: r).drop (one (c :: r)).2.1) (by simp only [List.length_drop, List.length_cons]; omega) (i + (one (c :: r)).2.1) (tk ++ [tokOf (one (c :: r)).1 (one (c :: r)).2.1 (c :: r) i]) rm
            simp only [List.length_append, List.length_cons, List.length_nil, List.length_drop] at this ⊢; omega
          · rw [W_err c r i tk rm hb' h8 he]; simp

theorem lexT_bound (s : List UInt8) : (lexT s).tk.length ≤ 65536 ∧ (lexT s).rm.length ≤ 65536 := by
  unfold lexT
  split
  · simp
  · next h =>
    have := W_bound s.length s (Nat.le_refl _) 0 [] []
    unfold lexR
    simp only [List.length_nil] at this
    omega

theorem rowsT {bb N : Nat} {F e sz f : Nat} {ps : List Value} {w : World} {Z : Nat} (h : KT F e sz f bb N ps 2 Z w) :
    (N = 0 ∧ w.cell? ⟨bb, F, none⟩ = some (.slice none 0 0)) ∨
    (1 ≤ N ∧ ∃ b c g cm, w.cell? ⟨bb, F, none⟩ = some (.slice (some ⟨g, 0, none⟩) 2 cm) ∧ (∀ i j, i < 2 → j < 2 → i ≠ j → b i ≠ b j) ∧ Marking (bb + 1) e sz f g cm 2 b (fun _ => N) c w w (fun _ => ps)) := by
  obtain ⟨r, b, c, V, h1, h2, h3⟩ := h
  by_cases hN : N = 0
  · left
    rw [if_pos hN] at h2
    exact ⟨hN, by rw [h1.cell, h1.nil h2]⟩
  · right
    rw [if_neg hN] at h2
    subst h2
    obtain ⟨g, cm, rfl, _⟩ := own_some h1.cont (by omega) (by decide)
    exact ⟨by omega, b, c, g, cm, h1.cell, h1.dis, ⟨Below.refl _ _, h1.cont, h1.own, fun _ _ _ => rfl⟩⟩

/-- The tokens' lists are apart, and marking the others' left them. -/
theorem apart_all (bb NT NS : Nat) (pT pS : List Value) (Z : Nat) (w : World) (hNT : NT ≤ 65536) (hNS : NS ≤ 65536) (hE : Empty2 bb w) (hT : KT 13 64 3 49 bb NT pT 2 Z w) (hS : KT 2 9 1 53 bb NS pS 2 Z w) :
    Calls Try.prog 9 #[.pointer (some ⟨bb, 0, none⟩)] w fun e w' => e = .returned (.bool true) ∧ Below (bb + 1) w w' := by
  refine apart_two bb (bb + 1) w (fun w1 => KT 13 64 3 49 bb NT pT 2 w1.heap.size w1) (by omega) hE ?_ ?_
  · rcases rowsT hS with ⟨h0, hc⟩ | ⟨h0, b, c, g, cm, hc, hd, hM⟩
    · refine (nilStrings bb w hc).mono ?_
      rintro e w' ⟨rfl, rfl⟩
      exact ⟨rfl, Below.refl _ _, hT.now⟩
    · refine (apartStrings_some bb (bb + 1) g cm 2 b (fun _ => NS) c (fun _ => pS) w (by omega) (by omega) (fun j _ => ⟨h0, by omega⟩) hd hc hM).mono ?_
      rintro e w' ⟨rfl, hb, hk⟩
      refine ⟨rfl, hb, ?_⟩
      obtain ⟨r, b', c', V, k1, k2, k3⟩ := hT
      have same : ∀ {t s : Nat} {v : Value} {n : Nat} {xs : List Value}, t ≠ 9 → w.ownsRow (bb + 1) t s v n xs → w'.ownsRow (bb + 1) t s v n xs := fun {t s v n xs} ht hv =>
        own_same hv fun k hk' => hk k (hv.lt k hk').2 fun j hj e1 => by
          rcases own_apart (hM.own j hj) hv (Ne.symm ht) with h2 | h2
          · rw [hk'] at h2; cases h2
          · exact h2 (by rw [hk', e1]; rfl)
      have hK : KeptOne 13 64 3 49 bb (bb + 1) NT pT w' r b' c' V := ⟨(hb.cell (p := ⟨bb, 13, none⟩) (by simp)).trans k1.cell, (hb.frozen (p := ⟨bb, 13, none⟩) (by simp)).trans k1.frz, same (by decide) k1.cont, fun j hj => same (by decide) (k1.own j hj), k1.dis, k1.nil⟩
      exact ⟨r, b', c', V, hK, k2, fun j hj => ((hK.own j hj).lt (b' j) rfl).2⟩
  · intro w1 h1
    rcases rowsT h1 with ⟨h0, hc⟩ | ⟨h0, b, c, g, cm, hc, hd, hM⟩
    · refine (nilTokens bb w1 hc).mono ?_
      rintro e w' ⟨rfl, rfl⟩
      exact ⟨rfl, Below.refl _ _⟩
    · refine (apartTokens_some bb (bb + 1) g cm 2 b (fun _ => NT) c (fun _ => pT) w1 (by omega) (by omega) (fun j _ => ⟨h0, by omega⟩) hd hc hM).mono ?_
      rintro e w' ⟨rfl, hb, _⟩
      exact ⟨rfl, hb⟩

set_option maxRecDepth 100000 in
set_option maxHeartbeats 4000000 in
theorem own_walk (s : ByteArray) (w : World) (_hs : s.size ≤ 140737488351232) : Calls Try.prog 3 #[.string s] w fun e w' => e = .returned (.bool true) ∧ Below w.heap.size w w' := by
  have CW := hide works_any
  have CT := hide (tokens_any s)
  have CR := hide (remarks_any s)
  have hbd := lexT_bound s.data.toList
  generalize lexT s.data.toList = L at CT CR hbd
  obtain ⟨tk, rm, er, pl⟩ := L
  obtain ⟨hbT, hbS⟩ := hbd
  simp only at hbT hbS CT CR
  obtain ⟨NT, hNT⟩ : ∃ N, N = tk.length := ⟨_, rfl⟩
  obtain ⟨NS, hNS⟩ : ∃ N, N = rm.length := ⟨_, rfl⟩
  rw [← hNT] at CT hbT
  rw [← hNS] at CR hbS
  generalize cellsT tk = pT at CT
  generalize List.map strV rm = pS at CR
  clear hNT hNS
  go_enter Try.func3, Try.ntmps3
  go_wp2_with fail
  refine (CW.out _).mono ?_
  rintro _ w1 ⟨rfl, hb1⟩
  have HB1 := hide hb1
  clear hb1
  go_wp2_with fail
  have hwb : w.heap.size ≤ w1.heap.size := HB1.out.size
  generalize hA : w1.alloc (.cells #[.slice none 0 0, .slice none 0 0, .slice none 0 0, .slice none 0 0, .slice none 0 0, .slice none 0 0, .slice none 0 0, .slice none 0 0, .slice none 0 0, .slice none 0 0, .slice none 0 0, .slice none 0 0, .slice none 0 0, .slice none 0 0, .slice none 0 0, .slice none 0 0, .slice none 0 0, .slice none 0 0, .slice none 0 0, .slice none 0 0, .slice none 0 0, .slice none 0 0, .slice none 0 0, .slice none 0 0] 48) = wA
  have hAs : wA.heap.size = w1.heap.size + 1 := by rw [← hA]; simp
  have HA1 : Hid (Below w.heap.size w wA) := by unfold Hid; rw [← hA]; exact HB1.out.alloc HB1.out.size _
  have HA2 : Hid (∀ f, f < 24 → wA.cell? ⟨w1.heap.size, f, none⟩ = some (.slice none 0 0)) := by
    intro f hf
    rw [← hA, cell_of_row _ _ _ _ _ _ (heap_alloc_new w1 _)]
    rcases (show f = 0 ∨ f = 1 ∨ f = 2 ∨ f = 3 ∨ f = 4 ∨ f = 5 ∨ f = 6 ∨ f = 7 ∨ f = 8 ∨ f = 9 ∨ f = 10 ∨ f = 11 ∨ f = 12 ∨ f = 13 ∨ f = 14 ∨ f = 15 ∨ f = 16 ∨ f = 17 ∨ f = 18 ∨ f = 19 ∨ f = 20 ∨ f = 21 ∨ f = 22 ∨ f = 23 by omega) with rfl | rfl | rfl | rfl | rfl | rfl | rfl | rfl | rfl | rfl | rfl | rfl | rfl | rfl | rfl | rfl | rfl | rfl | rfl | rfl | rfl | rfl | rfl | rfl <;> rfl
  have HA3 : Hid (∀ f, wA.frozen? ⟨w1.heap.size, f, none⟩ = false) := by
    intro f
    have hq := heap_alloc_new w1 (.cells #[.slice none 0 0, .slice none 0 0, .slice none 0 0, .slice none 0 0, .slice none 0 0, .slice none 0 0, .slice none 0 0, .slice none 0 0, .slice none 0 0, .slice none 0 0, .slice none 0 0, .slice none 0 0, .slice none 0 0, .slice none 0 0, .slice none 0 0, .slice none 0 0, .slice none 0 0, .slice none 0 0, .slice none 0 0, .slice none 0 0, .slice none 0 0, .slice none 0 0, .slice none 0 0, .slice none 0 0] 48)
    rw [hA] at hq
    unfold World.frozen?
    simp only [hq]
    simp
  clear hA HB1
  generalize w1.heap.size = bb at *
  have start : ∀ F e sz f N ps, F < 24 → KT F e sz f bb N ps 0 wA.heap.size wA := fun F e sz f N ps hF =>
    ⟨0, fun _ => 0, fun _ => 0, .slice none 0 0, ⟨HA2.out F hF, HA3.out F, World.ownsRow_nil _ _ _ _, fun j hj => by omega, fun i' j' hi' => by omega, fun _ => rfl⟩, by split <;> rfl, fun j hj => by omega⟩
  have HKT := hide (start 13 64 3 49 NT pT (by decide))
  have HKS := hide (start 2 9 1 53 NS pS (by decide))
  have HE : Hid (Empty2 bb wA) := fun f hf _ _ => HA2.out f hf
  clear start HA2 HA3
  go_loopw [4] (fun x wr => ∃ i : Nat, i ≤ 2 ∧ x = .int .i64 i ∧ bb + 1 ≤ wr.heap.size ∧ Hid (Below w.heap.size w wr) ∧ Hid (Empty2 bb wr) ∧ Hid (KT 13 64 3 49 bb NT pT i wr.heap.size wr) ∧ Hid (KT 2 9 1 53 bb NS pS i wr.heap.size wr)) (fun x _ => 2 - (intOf x).toNat)
  case atStart => exact ⟨0, by omega, rfl, by omega, HA1, HE, HKT, HKS⟩
  case round =>
    clear HA1 HE HKT HKS hAs
    obtain ⟨i, hi, rfl, hsz, HB, HE, HT, HS⟩ := hrel
    by_cases hlt : i < 2
    · go_wp2_with fail
      refine (CT.out _).mono ?_
      rintro _ w2 ⟨v, rfl, ho2, hb2⟩
      have HO2 := hide ho2
      have HB2 := hide hb2
      clear ho2 hb2
      go_wp2_with fail
      refine (CR.out _).mono ?_
      rintro _ w3 ⟨v3, rfl, ho3, hb3⟩
      have HZ : Hid (wr.heap.size ≤ w3.heap.size) := Nat.le_trans HB2.out.size hb3.size
      have HB3 : Hid (Below wr.heap.size wr w3) := HB2.out.trans (hb3.mono HB2.out.size)
      have HO2' : Hid (w3.ownsRow wr.heap.size 64 3 v NT pT) := own_below' HO2.out hb3 (Nat.le_refl _)
      have HO3 : Hid (w3.ownsRow wr.heap.size 9 1 v3 NS pS) := own_base3 ho3 HB2.out.size
      have HT3 := hide (HT.out.below (by omega) HB3.out)
      have HS3 := hide (HS.out.below (by omega) HB3.out)
      have HE3 : Hid (Empty2 bb w3) := HE.out.below HB3.out (by omega)
      have HW3 : Hid (Below w.heap.size w w3) := HB.out.trans (HB3.out.mono HB.out.size)
      have CP := hide (putT_any (by omega) HT3.out HS3.out (by decide) (by decide) (by decide) HE3.out hsz HZ.out v HO2'.out)
      clear ho3 hb3 HO2 HB2
      go_wp2_with fail
      refine CP.out.mono ?_
      rintro _ w4 ⟨rfl, hT4, hS4, hE4, hb4, hk4⟩
      have HT4 := hide hT4
      have HE4 := hide hE4
      have HB4 := hide hb4
      have HZ4 : Hid (wr.heap.size ≤ w4.heap.size) := Nat.le_trans HZ.out hb4.size
      have HO4 : Hid (w4.ownsRow wr.heap.size 9 1 v3 NS pS) := hk4 _ _ _ _ _ _ hsz (by decide) HO3.out
      have CQ := hide (putS_any (by omega) hS4 hT4 (by decide) (by decide) (by decide) hE4 hsz HZ4.out v3 HO4.out)
      clear hT4 hS4 hE4 hb4 hk4
      go_wp2_with fail
      refine CQ.out.mono ?_
      rintro _ w5 ⟨rfl, hS5, hT5, hE5, hb5, _⟩
      have HT5 := hide hT5.now
      have HS5 := hide hS5
      have HE5 := hide hE5
      have HW5 : Hid (Below w.heap.size w w5) := HW3.out.trans ((HB4.out.trans hb5).mono hwb)
      have hsz5 : bb + 1 ≤ w5.heap.size := by have := HZ4.out; have := hb5.size; omega
      clear hT5 hS5 hE5 hb5
      go_wp2_with fail
      go_roundw
      case rel => exact ⟨i + 1, by omega, by go_num, hsz5, HW5, HE5, HT5, HS5⟩
      case measure => simp [intOf]; omega
    · have hie : i = 2 := by omega
      subst hie
      have CA := hide (apart_all bb NT NS pT pS wr.heap.size wr hbT hbS HE.out HT.out HS.out)
      go_wp2_with fail
      refine CA.out.mono ?_
      rintro _ w4 ⟨rfl, hb4⟩
      go_wp2_with fail
      go_ret
      exact ⟨rfl, HB.out.trans (hb4.mono (by omega))⟩

end Go.Proofs.Ytlllgndbcagkgab
