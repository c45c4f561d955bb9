/- Steps in memory that may be read; within, mayBe. -/
import Derived.Test.YtagpdceaononkaaWMem
import Derived.Test.YtagpdceaononkaaWMod
import Derived.WalkKit
namespace Go.Proofs.Ytagpdceaononkaa
open Go.RowKit

/-- Choices in blocks below. -/
def ChN (N : Nat) (w : World) (a : Option Addr) (l : List (Int × Int)) : Prop := ∀ (i : Nat) x, l[i]? = some x → ∃ g o, a = some ⟨g, o, none⟩ ∧ g < N ∧ w.cell? ⟨g, o + i * 2, none⟩ = some (.int .i64 x.1) ∧ w.cell? ⟨g, o + i * 2 + 1, none⟩ = some (.int .i64 x.2)
/-- Steps that may be read. -/
def Sts (N : Nat) (w : World) (l : List StM) (a : Option Addr) : Prop := ∀ (i : Nat) s, l[i]? = some s → ∃ (g o : Nat) (ca : Option Addr) (cc : Nat), a = some ⟨g, o, none⟩ ∧ g < N ∧ w.cell? ⟨g, o + i * 5, none⟩ = some (.int .i64 s.tag) ∧ w.cell? ⟨g, o + i * 5 + 1, none⟩ = some (.int .i64 s.lit) ∧ w.cell? ⟨g, o + i * 5 + 2, none⟩ = some (.int .i64 s.how) ∧ w.cell? ⟨g, o + i * 5 + 3, none⟩ = some (.int .i64 s.rule) ∧ w.cell? ⟨g, o + i * 5 + 4, none⟩ = some (.slice ca s.ch.length cc) ∧ s.ch.length ≤ 140737488351232 ∧ ChN N w ca s.ch
def stc (s : StM) (ca : Option Addr) (cc : Nat) : List Value := [.int .i64 s.tag, .int .i64 s.lit, .int .i64 s.how, .int .i64 s.rule, .slice ca s.ch.length cc]
def stv (s : StM) (ca : Option Addr) (cc : Nat) : Value := .agg #[.int .i64 s.tag, .int .i64 s.lit, .int .i64 s.how, .int .i64 s.rule, .slice ca s.ch.length cc]
section
variable {N N' : Nat} {w w' : World} {l : List StM} {a : Option Addr} {c : List (Int × Int)}
theorem ChN.keep (h : ChN N w a c) (hk : ∀ g, g < N → w'.heap[g]? = w.heap[g]?) : ChN N w' a c := fun i x hi => by
  obtain ⟨g, o, e, hg, c0, c1⟩ := h i x hi
  exact ⟨g, o, e, hg, (World.cell?_of_block (hk _ hg)).trans c0, (World.cell?_of_block (hk _ hg)).trans c1⟩
theorem ChN.up (h : ChN N w a c) (hn : N ≤ N') : ChN N' w a c := fun i x hi => by
  obtain ⟨g, o, e, hg, c0, c1⟩ := h i x hi
  exact ⟨g, o, e, by omega, c0, c1⟩
theorem Sts.keep (h : Sts N w l a) (hk : ∀ g, g < N → w'.heap[g]? = w.heap[g]?) : Sts N w' l a := by
  intro i s hi
  obtain ⟨g, o, ca, cc, e, hg, c0, c1, c2, c3, c4, hl, hc⟩ := h i s hi
  have kc : ∀ {p : Addr} {u : Value}, p.block < N → w.cell? p = some u → w'.cell? p = some u := fun hp hu => (World.cell?_of_block (hk _ hp)).trans hu
  exact ⟨g, o, ca, cc, e, hg, kc hg c0, kc hg c1, kc hg c2, kc hg c3, kc hg c4, hl, hc.keep hk⟩
theorem Sts.up (h : Sts N w l a) (hn : N ≤ N') : Sts N' w l a := by
  intro i s hi
  obtain ⟨g, o, ca, cc, e, hg, c0, c1, c2, c3, c4, hl, hc⟩ := h i s hi
  exact ⟨g, o, ca, cc, e, by omega, c0, c1, c2, c3, c4, hl, hc.up hn⟩
end
theorem nf {b : Bool} (h : ¬ b = false) : b = true := by cases b <;> simp_all
set_option maxHeartbeats 1600000 in
theorem within_any (n a b : Int) (w : World) : Calls Try.prog 34 #[.int .i64 n, .int .i64 a, .int .i64 b] w fun e w' => e = .returned (.bool (wiM n a b)) ∧ w' = w := by
  by_cases h : a ≤ n
  · have HR : Hid (wiM n a b = decide (n ≤ b)) := hide (by unfold wiM; rw [decide_eq_true h, Bool.true_and])
    go_enter Try.func34, Try.ntmps34
    go_wp2_with fail
    go_ret
    exact ⟨ret_bool HR.out.symm, rfl⟩
  · have HR : Hid (wiM n a b = false) := hide (by unfold wiM; rw [decide_eq_false h, Bool.false_and])
    go_enter Try.func34, Try.ntmps34
    go_wp2_with fail
    go_ret
    exact ⟨ret_bool HR.out.symm, rfl⟩
theorem within_is {n a b : Int} {v : Bool} (h : wiM n a b = v) (w : World) : Calls Try.prog 34 #[.int .i64 n, .int .i64 a, .int .i64 b] w fun e w' => e = .returned (.bool v) ∧ w' = w := h ▸ within_any n a b w
theorem five_cells {w : World} {g T : Nat} {v0 v1 v2 v3 v4 : Value} (h : Fx g T [v0, v1, v2, v3, v4] w) : w.cell? ⟨g, 0, none⟩ = some v0 ∧ w.cell? ⟨g, 1, none⟩ = some v1 ∧ w.cell? ⟨g, 2, none⟩ = some v2 ∧ w.cell? ⟨g, 3, none⟩ = some v3 ∧ w.cell? ⟨g, 4, none⟩ = some v4 := ⟨h.get rfl, h.get rfl, h.get rfl, h.get rfl, h.get rfl⟩
theorem may_no {s : StM} (h : wiM s.tag 1 4 = false ∨ wiM s.how 1 5 = false ∨ wiM s.lit 0 4095 = false ∨ wiM s.rule (-1) 4095 = false ∨ 4096 < s.ch.length) : mayM s = false := by
  unfold mayM
  rcases h with h | h | h | h | h
  · simp [h]
  · simp [h]
  · simp [h]
  · simp [h]
  · have : decide (s.ch.length ≤ 4096) = false := decide_eq_false (by omega)
    simp [this]
set_option maxRecDepth 100000 in
set_option maxHeartbeats 6400000 in
theorem mayBe_any {N : Nat} {w : World} {s : StM} {ca : Option Addr} {cc : Nat} (hN : N ≤ w.heap.size) (hl : s.ch.length ≤ 140737488351232) (h : ChN N w ca s.ch) :
    Calls Try.prog 21 #[stv s ca cc] w fun e w' => e = .returned (.bool (mayM s)) ∧ Below w.heap.size w w' := by
  have hB := below_new w (.cells (stc s ca cc).toArray 52)
  have hF := five_cells (fx_new w (stc s ca cc) 52)
  obtain ⟨o, ho⟩ : ∃ o, mayM s = o := ⟨_, rfl⟩
  rw [ho]
  have HB := hide hB
  have HC := hide h
  have HO := hide ho
  have HN := hide hN
  clear hB h ho hN
  unfold stv
  go_enter Try.func21, Try.ntmps21
  go_upto_region 1 with fail
  unfold stc at HB hF
  generalize w.alloc (.cells [.int .i64 s.tag, .int .i64 s.lit, .int .i64 s.how, .int .i64 s.rule, .slice ca s.ch.length cc].toArray 52) = W at *
  obtain ⟨c0, c1, c2, c3, c4⟩ := hF
  have HW : Hid (w.heap.size < W.heap.size) := hide (World.block_lt_of_cell? W ⟨w.heap.size, 0, none⟩ c0)
  by_cases ht : wiM s.tag 1 4 = false
  · have HR : Hid (o = false) := hide (by rw [← HO.out]; exact may_no (.inl ht))
    have C1 := hide (within_is ht)
    go_wp2_with (go_at_call 34; refine (C1.out _).mono ?_; rintro _ w1 ⟨rfl, hw⟩; subst w1; clear C1)
    go_ret
    exact ⟨ret_bool HR.out.symm, HB.out⟩
  by_cases hh : wiM s.how 1 5 = false
  · have HR : Hid (o = false) := hide (by rw [← HO.out]; exact may_no (.inr (.inl hh)))
    have C1 := hide (within_is (nf ht))
    have C2 := hide (within_is hh)
    go_wp2_with (first | (go_at_call 34; refine (C1.out _).mono ?_; rintro _ w1 ⟨rfl, hw⟩; subst w1; clear C1) | (go_at_call 34; refine (C2.out _).mono ?_; rintro _ w1 ⟨rfl, hw⟩; subst w1; clear C2))
    go_ret
    exact ⟨ret_bool HR.out.symm, HB.out⟩
  have C1 := hide (within_is (nf ht))
  have C2 := hide (within_is (nf hh))
  go_upto_region 3 with (first | (go_at_call 34; refine (C1.out _).mono ?_; rintro _ w1 ⟨rfl, hw⟩; subst w1; clear C1) | (go_at_call 34; refine (C2.out _).mono ?_; rintro _ w1 ⟨rfl, hw⟩; subst w1; clear C2))
  by_cases hi : wiM s.lit 0 4095 = false
  · have HR : Hid (o = false) := hide (by rw [← HO.out]; exact may_no (.inr (.inr (.inl hi))))
    have C1 := hide (within_is hi)
    go_wp2_with (go_at_call 34; refine (C1.out _).mono ?_; rintro _ w1 ⟨rfl, hw⟩; subst w1; clear C1)
    go_ret
    exact ⟨ret_bool HR.out.symm, HB.out⟩
  by_cases hr : wiM s.rule (-1) 4095 = false
  · have HR : Hid (o = false) := hide (by rw [← HO.out]; exact may_no (.inr (.inr (.inr (.inl hr)))))
    have C1 := hide (within_is (nf hi))
    have C2 := hide (within_is hr)
    go_wp2_with (first | (go_at_call 34; refine (C1.out _).mono ?_; rintro _ w1 ⟨rfl, hw⟩; subst w1; clear C1) | (go_at_call 34; refine (C2.out _).mono ?_; rintro _ w1 ⟨rfl, hw⟩; subst w1; clear C2))
    go_ret
    exact ⟨ret_bool HR.out.symm, HB.out⟩
  have C1 := hide (within_is (nf hi))
  have C2 := hide (within_is (nf hr))
  by_cases hc : 4096 < s.ch.length
  · have HR : Hid (o = false) := hide (by rw [← HO.out]; exact may_no (.inr (.inr (.inr (.inr hc)))))
    go_wp2_with (first | (go_at_call 34; refine (C1.out _).mono ?_; rintro _ w1 ⟨rfl, hw⟩; subst w1; clear C1) | (go_at_call 34; refine (C2.out _).mono ?_; rintro _ w1 ⟨rfl, hw⟩; subst w1; clear C2))
    go_ret
    exact ⟨ret_bool HR.out.symm, HB.out⟩
  have HO2 : Hid ((s.ch.drop 0).all chM = o) := hide (by
    rw [← HO.out]
    unfold mayM
    rw [nf ht, nf hh, nf hi, nf hr, decide_eq_true (show s.ch.length ≤ 4096 by omega), List.drop_zero]
    rfl)
  clear ht hh hi hr HO
  go_wp2_with (first | (go_at_call 34; refine (C1.out _).mono ?_; rintro _ w1 ⟨rfl, hw⟩; subst w1; clear C1) | (go_at_call 34; refine (C2.out _).mono ?_; rintro _ w1 ⟨rfl, hw⟩; subst w1; clear C2))
  clear c0 c1 c2 c3 c4
  go_loopw [34] (fun x wr => ∃ (k : Nat), k ≤ s.ch.length ∧ x = .int .i64 k ∧ Hid ((s.ch.drop k).all chM = o) ∧ Hid (Below w.heap.size w wr)) (fun x _ => s.ch.length - (intOf x).toNat)
  case atStart => exact ⟨0, by omega, rfl, HO2, HB⟩
  case round =>
    clear HO2 HB
    obtain ⟨k, hk, rfl, HK, HB⟩ := hrel
    by_cases hlt : k < s.ch.length
    · obtain ⟨x, hx⟩ := get_at hlt
      obtain ⟨g, of, rfl, -, d0, d1⟩ := (HC.out.keep (w' := wr) fun g hg => HB.out.block g (by have := HN.out; omega)) k x hx
      have HS : Hid ((chM x && (s.ch.drop (k + 1)).all chM) = o) := hide (by have := HK.out; rw [drop_at hx, List.all_cons] at this; exact this)
      have hA := below_new wr (.cells #[.int .i64 x.1, .int .i64 x.2] 54)
      have hX := fx_new wr [.int .i64 x.1, .int .i64 x.2] 54
      have HB2 := hide (HB.out.trans (hA.mono HB.out.size))
      clear hx HK hA
      go_upto_region 8 with fail
      generalize wr.alloc (.cells #[.int .i64 x.1, .int .i64 x.2] 54) = w2 at *
      have q0 : w2.cell? ⟨wr.heap.size, 0, none⟩ = some (.int .i64 x.1) := Fx.get hX rfl
      have q1 : w2.cell? ⟨wr.heap.size, 1, none⟩ = some (.int .i64 x.2) := Fx.get hX rfl
      clear hX d0 d1
      generalize wr.heap.size = b at *
      by_cases h1 : wiM x.1 (-1) 15 = false
      · have HR : Hid (o = false) := hide (by rw [← HS.out]; unfold chM; rw [h1]; rfl)
        have C1 := hide (within_is h1)
        clear HS
        go_wp2_with (go_at_call 34; refine (C1.out _).mono ?_; rintro _ w1 ⟨rfl, hw⟩; subst w1; clear C1)
        go_ret
        exact ⟨ret_bool HR.out.symm, HB2.out⟩
      have C1 := hide (within_is (nf h1))
      by_cases h2 : wiM x.2 (-1) 4095 = false
      · have HR : Hid (o = false) := hide (by rw [← HS.out]; unfold chM; rw [h2, Bool.and_false]; rfl)
        have C2 := hide (within_is h2)
        clear HS
        go_wp2_with (first | (go_at_call 34; refine (C1.out _).mono ?_; rintro _ w1 ⟨rfl, hw⟩; subst w1; clear C1) | (go_at_call 34; refine (C2.out _).mono ?_; rintro _ w1 ⟨rfl, hw⟩; subst w1; clear C2))
        go_ret
        exact ⟨ret_bool HR.out.symm, HB2.out⟩
      have C2 := hide (within_is (nf h2))
      have HN2 : Hid ((s.ch.drop (k + 1)).all chM = o) := hide (by rw [← HS.out]; unfold chM; rw [nf h1, nf h2]; rfl)
      clear HS
      go_wp2_with (first | (go_at_call 34; refine (C1.out _).mono ?_; rintro _ w1 ⟨rfl, hw⟩; subst w1; clear C1) | (go_at_call 34; refine (C2.out _).mono ?_; rintro _ w1 ⟨rfl, hw⟩; subst w1; clear C2))
      go_roundw
      case rel => exact ⟨k + 1, by omega, by go_num, HN2, HB2⟩
      case measure => simp [intOf]; omega
    · have HR : Hid (true = o) := hide (by have := HK.out; rw [drop_end (by omega)] at this; exact this)
      clear HK
      go_wp2_with fail
      go_ret
      exact ⟨ret_bool HR.out, HB.out⟩
end Go.Proofs.Ytagpdceaononkaa
