/- FastLinear, walked. -/
import Derived.Test.YthifoamnmhlghaaSiz
import Derived.Test.YthifoamnmhlghaaWks
namespace Go.Proofs.Ythifoamnmhlghaa.Fa
open Go.RowKit

theorem coh_tableL : ∀ x : _root_.Fin 16, ((hb (x.val : Int) 1 && hb (x.val : Int) 2) || (hb (x.val : Int) 3 && hb (x.val : Int) 4) || (hb (x.val : Int) 1 && !hb (x.val : Int) 3) || (hb (x.val : Int) 4 && !hb (x.val : Int) 2) || [0, 2, 4, 5, 6, 10].contains x.val) = true := by decide +kernel
/-- Which marks a literal may have. -/
theorem coh_valL {T : Th} {F m : List Int} {n i q : Nat} (hp : Pf T F n) (h : Sol T F m i) (hq : q < n) : m.getD q 0 = 0 ∨ m.getD q 0 = 2 ∨ m.getD q 0 = 4 ∨ m.getD q 0 = 5 ∨ m.getD q 0 = 6 ∨ m.getD q 0 = 10 := by
  have hb0 := sol_bys h q
  have hlt : m.getD q 0 < 16 := by rw [h.1]; exact Mk_small q
  have e : ∀ t, hs m (q : Int) t = hb (m.getD q 0) t := fun t => by unfold hs; rw [Int.toNat_natCast]
  have q0 : (0 : Int) ≤ (q : Int) := by omega
  have q1 : (q : Int) < (n : Int) := by omega
  have h1 := sol_strict hp h q0
  have h2 := sol_defeas hp h q0
  have h3 := sol_up hp h q0 q1
  have h4 := sol_down hp h q0 q1
  rw [e, e] at h1 h2 h3 h4
  obtain ⟨x, hx⟩ := Int.eq_ofNat_of_zero_le hb0.1
  rw [hx] at hlt h1 h2 h3 h4 ⊢
  have ht := coh_tableL ⟨x, by omega⟩
  simp only [Bool.or_eq_true, Bool.and_eq_true, Bool.not_eq_true'] at ht
  rcases ht with ⟨⟨⟨⟨a, b⟩ | ⟨a, b⟩⟩ | ⟨a, b⟩⟩ | ⟨a, b⟩⟩ | a
  · exact (h1 a b).elim
  · exact (h2 a b).elim
  · rw [h3 a] at b; cases b
  · rw [h4 a] at b; cases b
  · simp at a
    omega
/-- How many tags a byte says. -/
def tgs (x : Int) : Nat := b2n (hb x 1) + b2n (hb x 2) + b2n (hb x 3) + b2n (hb x 4)
theorem tgs_vals : tgs 0 = 0 ∧ tgs 1 = 1 ∧ tgs 2 = 1 ∧ tgs 3 = 2 ∧ tgs 4 = 1 ∧ tgs 5 = 2 ∧ tgs 6 = 2 ∧ tgs 10 = 2 := by decide +kernel
theorem cntT_tgs {m : List Int} {q : Nat} : cntT m q = tgs (m.getD q 0) := by
  unfold cntT tgs hs
  rw [Int.toNat_natCast]
/-- A run keeps count. -/
def Lin (T : Th) (F : List Int) (n : Nat) (e : Es) : Prop := CB T n (layE T F n) e ∧ ∃ l, e.td = (layE T F n).td ++ l
theorem lin_start {T : Th} {F : List Int} {n : Nat} : Lin T F n (layE T F n) := ⟨CB.refl, [], by simp⟩
theorem lin_step {T : Th} {F : List Int} {n : Nat} {e : Es} (hp : Pf T F n) (h : Lin T F n e) (htok : Tok n e) (hlt : e.tk < e.td.length) : Lin T F n (stepE T F e) := by
  refine ⟨h.1.trans (CB.step hp htok hlt), ?_⟩
  obtain ⟨l, hl⟩ := h.2
  have hg : Gro (takeE e) (stepE T F e) := (Gro.refl (e := takeE e) htok.by_).does
  obtain ⟨l2, hl2⟩ := hg.td
  exact ⟨l ++ l2, by rw [hl2, show (takeE e).td = e.td from rfl, hl, List.append_assoc]⟩
/-- What Counted tells of itself. -/
theorem lin_end {T : Th} {F m : List Int} {n k : Nat} {e : Es} (hp : Pf T F n) (hs_ : Sol T F m k) (h : Alls T F n m e) (htk : e.tk = e.td.length) (htok : Tok n e) (hl : Lin T F n e) : e.td.length = cntF m n ∧ 0 ≤ e.up ∧ e.up ≤ 4 * ((n : Int) + preS T + (pairsM T : Int)) :=
  ⟨told_len hp hs_ h htk htok, linear_all hp hs_ h htk htok hl.1 hl.2 (start_all hp hs_).td⟩
set_option maxRecDepth 100000 in
set_option maxHeartbeats 6400000 in
theorem linear_any {w : World} {T : Th} {F : List Int} {fa ra ba ea : Option Addr} {fc rc bc ec : Nat} (h : TA w.heap.size w T fa fc ra rc ba bc) (hF : Ints w.heap.size w F (.slice ea F.length ec)) :
    Calls Try.prog 4 #[tv T fa fc ra rc ba bc, .slice ea F.length ec] w fun e w' => e = .returned (.bool true) ∧ Below w.heap.size w w' := by
  have hB := below_new w (.cells #[.int .i64 T.lits, .slice fa T.foes.length fc, .slice ra T.rules.length rc, .slice ba T.beats.length bc] 25)
  have hX := heap_alloc_new w (.cells #[.int .i64 T.lits, .slice fa T.foes.length fc, .slice ra T.rules.length rc, .slice ba T.beats.length bc] 25)
  have HTA := hide (TR.go hB h)
  have HF := hide (Ints.go hB hF)
  have HB := hide hB
  have HX := hide hX
  clear h hB hF
  go_enter Try.func4, Try.ntmps4
  go_upto_region 1 with fail
  generalize w.alloc (.cells #[.int .i64 T.lits, .slice fa T.foes.length fc, .slice ra T.rules.length rc, .slice ba T.beats.length bc] 25) = W at *
  clear hX
  have CA := hide (works_any (w := W))
  go_upto_region 3 with (go_at_call 8; refine CA.out.mono ?_; rintro _ w1 ⟨rfl, hw1⟩; have HW1 := hide hw1; clear hw1)
  have HX1 := hide ((HW1.out.block _ (loc_lt HX.out)).trans HX.out)
  have HTA1 := hide (TR.go HW1.out HTA.out)
  have HF1 := hide (Ints.go HW1.out HF.out)
  have HB1 := hide (HB.out.trans (HW1.out.mono HB.out.size))
  clear CA HX HTA HF HB HW1
  obtain ⟨-, c0, c1, c2, c3⟩ := Bt.of HX1.out
  by_cases hf : faultM T F = 0
  · have HP := hide (pf_of hf)
    have CS := hide (Counted_ok (P := Lin T F T.lits.toNat) HTA1.out HF1.out hf lin_start fun e hl ht hlt => lin_step HP.out hl ht hlt)
    have HCK : Hid ((checkM T).1 = 0) := hide (by
      unfold faultM at hf
      by_cases hc : (checkM T).1 ≠ 0
      · rw [if_pos hc] at hf; exact absurd hf hc
      · exact Classical.not_not.1 hc)
    clear hf
    go_upto_region 4 with (go_at_call 10; refine CS.out.mono ?_; rintro _ w2 ⟨v, m, i, e, rfl, hs, hown, hal, htok, hlin, hw2⟩; have HS := hide hs; have HO := hide hown; have HW2 := hide hw2; have HE := hide (lin_end HP.out hs hal.1 hal.2 htok hlin); clear hs hown hw2 hal htok hlin)
    have hA := below_new w2 (.cells #[.int .i64 (e.td.length : Nat), .int .i64 e.up] 35)
    have hQ := heap_alloc_new w2 (.cells #[.int .i64 (e.td.length : Nat), .int .i64 e.up] 35)
    have hW3 := HW2.out.trans (hA.mono HW2.out.size)
    have HB3 := hide (HB1.out.trans (hW3.mono HB1.out.size))
    have HX3 := hide ((hW3.block _ (loc_lt HX1.out)).trans HX1.out)
    have HTA3 := hide (TR.go hW3 HTA1.out)
    have HO3 := hide (owns_keep HO.out fun g hg => hA.block g (owns_lt HO.out hg))
    have HQ := hide hQ
    clear c0 c1 c2 c3 CS HTA1 HF1 HB1 HX1 HW2 HO hA hQ hW3
    obtain ⟨-, hu0, hu1⟩ := HE.out
    have HLN := hide HE.out.1
    generalize hq2 : w2.heap.size = q2 at *
    generalize w2.alloc (.cells #[.int .i64 (e.td.length : Nat), .int .i64 e.up] 35) = W3 at *
    generalize e.up = u at *
    generalize e.td.length = tl at *
    clear HE hq2
    obtain ⟨-, c0, c1, c2, c3⟩ := Bt.of HX3.out
    have CZ := hide (Size_ok HTA3.out HCK.out)
    have hps := (preK_in HP.out.ok (k := T.rules.length) (Nat.le_refl _))
    rw [show preK T T.rules.length = preS T from rfl] at hps
    have hpr := HP.out.ok.pr
    have hrl := HP.out.ok.rl
    obtain ⟨n, hn⟩ : ∃ n, T.lits.toNat = n := ⟨_, rfl⟩
    have HML : Hid (m.length = n) := hide (by rw [← hn]; exact sol_len HP.out HS.out)
    rw [hn] at HO3 HP HLN hu1
    have hn4 := HP.out.n4
    have HTL := hide HP.out.ln
    rw [HTL.out] at CZ
    clear hn
    generalize preS T = ps at *
    generalize pairsM T = pm at *
    obtain ⟨va, vc, rfl⟩ := owns_slice HO3.out
    go_upto_region 9 with (go_at_call 11; refine CZ.out.mono ?_; rintro _ w4 ⟨rfl, hw4⟩; have HW4 := hide hw4; clear hw4)
    have HO4 := hide (owns_keep HO3.out fun g hg => HW4.out.block g (owns_lt HO3.out hg))
    have hq4 := (HW4.out.block _ (loc_lt HQ.out)).trans HQ.out
    have q0 : w4.cell? ⟨q2, 0, none⟩ = some (.int .i64 (tl : Nat)) := Fx.get (vs := [.int .i64 (tl : Nat), .int .i64 u]) hq4 rfl
    have q1 : w4.cell? ⟨q2, 1, none⟩ = some (.int .i64 u) := Fx.get (vs := [.int .i64 (tl : Nat), .int .i64 u]) hq4 rfl
    have HB4 := hide (HB3.out.trans (HW4.out.mono HB3.out.size))
    clear c0 c1 c2 c3 CZ HTA3 HB3 HX3 HW4 HO3 hq4 HQ HCK
    go_loop [12, 13] (fun t x => ∃ k : Nat, k ≤ n ∧ x = .int .i64 k ∧ t = .int .i64 (cntF m k : Nat)) (fun _ x => n - (intOf x).toNat)
    case atStart => exact ⟨0, by omega, rfl, rfl⟩
    case round =>
      obtain ⟨k, hk, rfl, rfl⟩ := hrel
      by_cases hlt : k < n
      · obtain ⟨g, o, rfl, a0⟩ := owns_at1 HO4.out k _ (u8s_at (by rw [HML.out]; exact hlt))
        have hv := coh_valL HP.out HS.out hlt
        have HC : Hid (cntF m k + tgs (m.getD k 0) = cntF m (k + 1)) := hide (by rw [← cntT_tgs]; rfl)
        have hc4 := cntF_le (m := m) (k := k + 1)
        obtain ⟨tot, htot⟩ : ∃ tot, cntF m (k + 1) = tot := ⟨_, rfl⟩
        have HTT := hide htot
        rw [htot] at HC hc4
        clear htot
        generalize m.getD k 0 = x at *
        generalize cntF m k = s0 at *
        go_wp2_with fail
        go_loop [12, 14] (fun t x => ∃ (y : Int) (s : Nat), x = .int .u8 y ∧ t = .int .i64 (s : Nat) ∧ (y = 0 ∨ y = 1 ∨ y = 2 ∨ y = 3 ∨ y = 4 ∨ y = 5 ∨ y = 6 ∨ y = 10) ∧ Hid (s + tgs y = tot)) (fun _ x => (intOf x).toNat)
        case atStart => exact ⟨x, s0, rfl, rfl, by omega, HC⟩
        case round =>
          obtain ⟨y, s, rfl, rfl, hy, HY⟩ := hrel
          have hs4 : s ≤ tot := by have := HY.out; omega
          obtain ⟨t0, t1, t2, t3, t4, t5, t6, t10⟩ := tgs_vals
          rcases hy with rfl | rfl | rfl | rfl | rfl | rfl | rfl | rfl
          · rw [t0] at HY
            clear t0 t1 t2 t3 t4 t5 t6 t10
            go_wp2_with fail
            go_round
            case rel => exact ⟨k + 1, by omega, by go_num, by have := HY.out; rw [HTT.out, ← this]; rfl⟩
            case measure => simp [intOf]; omega
          · rw [t1] at HY
            have HN : Hid (s + 1 + tgs 0 = tot) := hide (by rw [t0]; have := HY.out; omega)
            clear t0 t1 t2 t3 t4 t5 t6 t10
            go_wp2_with fail
            go_round
            case rel => exact ⟨0, s + 1, by go_num, by go_num, by decide, HN⟩
            case measure => simp [intOf]
          · rw [t2] at HY
            have HN : Hid (s + 0 + tgs 1 = tot) := hide (by rw [t1]; have := HY.out; omega)
            clear t0 t1 t2 t3 t4 t5 t6 t10
            go_wp2_with fail
            go_round
            case rel => exact ⟨1, s + 0, by go_num, by go_num, by decide, HN⟩
            case measure => simp [intOf]
          · rw [t3] at HY
            have HN : Hid (s + 1 + tgs 1 = tot) := hide (by rw [t1]; have := HY.out; omega)
            clear t0 t1 t2 t3 t4 t5 t6 t10
            go_wp2_with fail
            go_round
            case rel => exact ⟨1, s + 1, by go_num, by go_num, by decide, HN⟩
            case measure => simp [intOf]
          · rw [t4] at HY
            have HN : Hid (s + 0 + tgs 2 = tot) := hide (by rw [t2]; have := HY.out; omega)
            clear t0 t1 t2 t3 t4 t5 t6 t10
            go_wp2_with fail
            go_round
            case rel => exact ⟨2, s + 0, by go_num, by go_num, by decide, HN⟩
            case measure => simp [intOf]
          · rw [t5] at HY
            have HN : Hid (s + 1 + tgs 2 = tot) := hide (by rw [t2]; have := HY.out; omega)
            clear t0 t1 t2 t3 t4 t5 t6 t10
            go_wp2_with fail
            go_round
            case rel => exact ⟨2, s + 1, by go_num, by go_num, by decide, HN⟩
            case measure => simp [intOf]
          · rw [t6] at HY
            have HN : Hid (s + 0 + tgs 3 = tot) := hide (by rw [t3]; have := HY.out; omega)
            clear t0 t1 t2 t3 t4 t5 t6 t10
            go_wp2_with fail
            go_round
            case rel => exact ⟨3, s + 0, by go_num, by go_num, by decide, HN⟩
            case measure => simp [intOf]
          · rw [t10] at HY
            have HN : Hid (s + 0 + tgs 5 = tot) := hide (by rw [t5]; have := HY.out; omega)
            clear t0 t1 t2 t3 t4 t5 t6 t10
            go_wp2_with fail
            go_round
            case rel => exact ⟨5, s + 0, by go_num, by go_num, by decide, HN⟩
            case measure => simp [intOf]
      · have hkn : k = n := by omega
        subst hkn
        rw [← HLN.out]
        go_wp2_with fail
        go_ret
        exact ⟨rfl, HB4.out⟩
  · have CS := hide (Counted_bad HTA1.out HF1.out hf)
    have hne : (faultM T F != 0) = true := by simpa using hf
    clear hf
    generalize faultM T F = e0 at *
    go_upto_region 5 with (go_at_call 10; refine CS.out.mono ?_; rintro _ w2 ⟨rfl, hw2⟩; have HW2 := hide hw2; clear hw2)
    have hA := below_new w2 (.cells #[.int .i64 0, .int .i64 0] 35)
    have hQ := heap_alloc_new w2 (.cells #[.int .i64 0, .int .i64 0] 35)
    have HB3 := hide (HB1.out.trans ((HW2.out.trans (hA.mono HW2.out.size)).mono HB1.out.size))
    have q0 : (w2.alloc (.cells #[.int .i64 0, .int .i64 0] 35)).cell? ⟨w2.heap.size, 0, none⟩ = some (.int .i64 0) := Fx.get (vs := [.int .i64 0, .int .i64 0]) hQ rfl
    have q1 : (w2.alloc (.cells #[.int .i64 0, .int .i64 0] 35)).cell? ⟨w2.heap.size, 1, none⟩ = some (.int .i64 0) := Fx.get (vs := [.int .i64 0, .int .i64 0]) hQ rfl
    generalize w2.alloc (.cells #[.int .i64 0, .int .i64 0] 35) = W3 at *
    clear hA hQ HW2 CS c0 c1 c2 c3 HX1 HTA1 HF1 HB1
    go_wp2_with fail
    go_ret
    exact ⟨rfl, HB3.out⟩
end Go.Proofs.Ythifoamnmhlghaa.Fa
