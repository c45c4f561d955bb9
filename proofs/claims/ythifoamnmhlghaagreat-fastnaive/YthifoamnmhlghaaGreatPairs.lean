/- pairsOf, pairFault. -/
import Derived.Test.YthifoamnmhlghaaGreatFix
namespace Go.Proofs.YthifoamnmhlghaaGreat
open Go.RowKit

/-- Counting: the box, the row of counts. -/
structure Pq (w : World) (v0 v1 v2 v3 : Value) (C : List Int) (wr : World) : Prop where
  low : Below w.heap.size w wr
  bx : wr.heap[w.heap.size]? = some (.cells #[v0, v1, v2, v3] 25 (0, 0))
  fx : Fx (w.heap.size + 1) 3 (ints C) wr
section
variable {w wr wd : World} {v0 v1 v2 v3 : Value} {C : List Int}
theorem Pq.call (h : Pq w v0 v1 v2 v3 C wr) (hb : Below wr.heap.size wr wd) : Pq w v0 v1 v2 v3 C wd := ⟨h.low.trans (hb.mono h.low.size), (hb.block _ (loc_lt h.bx)).trans h.bx, h.fx.keep (hb.block _ h.fx.lt)⟩
theorem Pq.set (h : Pq w v0 v1 v2 v3 C wr) (i : Nat) (z : Int) : Pq w v0 v1 v2 v3 (C.set i z) (wr.setCell ⟨w.heap.size + 1, i, none⟩ (.int .i64 z)) :=
  ⟨h.low.setCell (p := ⟨w.heap.size + 1, i, none⟩) (by show w.heap.size ≤ w.heap.size + 1; omega) _, (other_set (by omega)).trans h.bx, by rw [← ints_set]; exact h.fx.set i _⟩
end
set_option maxRecDepth 100000 in
set_option maxHeartbeats 12800000 in
theorem pairsOf_any {w : World} {T : Th} {fa ra ba : Option Addr} {fc rc bc : Nat} (h : TA w.heap.size w T fa fc ra rc ba bc) (h0 : 0 ≤ T.lits) (h1 : T.lits ≤ 4096) (hf : (foeM T).1 = 0) (hru : (ruleM T).1 = 0) :
    Calls Tryz.prog 48 #[tv T fa fc ra rc ba bc] w fun e w' => e = .returned (.int .i64 (pairsM T : Nat)) ∧ Below w.heap.size w w' := by
  obtain ⟨iI, hiI, zI0, zI1, zI2⟩ := info_parts infoI
  obtain ⟨f1, f2⟩ := foe_ok hf
  obtain ⟨r1, r2⟩ := rule_ok hru
  have hpos : ∀ r ∈ T.rules, 0 ≤ r.head := fun r hr => (r2 r hr).2.2.1
  have h64 : ∀ l ∈ T.foes, l.length ≤ 64 := fun l hl => by
    obtain ⟨i, hi, rfl⟩ := List.mem_iff_getElem.1 hl
    exact (f2 i _ (List.getElem?_eq_getElem hi)).1
  have HPB : Hid (pairsM T ≤ T.foes.length * 1073741824) := hide (pairsFrom_le r1 h64)
  obtain ⟨P, hP⟩ : ∃ P, pairsM T = P := ⟨_, rfl⟩
  rw [hP] at HPB ⊢
  have HP : Hid (0 + pairsFrom T 0 (T.foes.drop 0) = P) := hide (by rw [List.drop_zero, Nat.zero_add]; exact hP)
  obtain ⟨n, hn⟩ := Int.eq_ofNat_of_zero_le h0
  have hnf1 : n ≤ T.foes.length := by omega
  have hnf2 : T.foes.length ≤ n := by omega
  have hn4 : n ≤ 4096 := by omega
  have HN0 := hide hn
  have hB := below_new w (.cells #[.int .i64 T.lits, .slice fa T.foes.length fc, .slice ra T.rules.length rc, .slice ba T.beats.length bc] 25)
  have hX := heap_alloc_new w (.cells #[.int .i64 T.lits, .slice fa T.foes.length fc, .slice ra T.rules.length rc, .slice ba T.beats.length bc] 25)
  have PQ0 : Hid (Pq w (.int .i64 T.lits) (.slice fa T.foes.length fc) (.slice ra T.rules.length rc) (.slice ba T.beats.length bc) (cntL n (T.rules.take 0)) ((w.alloc (.cells #[.int .i64 T.lits, .slice fa T.foes.length fc, .slice ra T.rules.length rc, .slice ba T.beats.length bc] 25)).alloc (.cells (Array.replicate n (.int .i64 0)) 3))) := hide (by
    refine ⟨hB.alloc hB.size _, (Below.heap_alloc _ _ _ (by simp)).trans hX, ?_⟩
    have e := heap_alloc_new (w.alloc (.cells #[.int .i64 T.lits, .slice fa T.foes.length fc, .slice ra T.rules.length rc, .slice ba T.beats.length bc] 25)) (.cells (Array.replicate n (.int .i64 0)) 3)
    have e2 : cntL n (T.rules.take 0) = List.replicate n 0 := by simp [cntL]
    unfold Fx
    rw [e2, ← ints_rep]
    simpa using e)
  have hc0 : (w.alloc (.cells #[.int .i64 T.lits, .slice fa T.foes.length fc, .slice ra T.rules.length rc, .slice ba T.beats.length bc] 25)).cell? ⟨w.heap.size, 0, none⟩ = some (.int .i64 T.lits) := cell_of_row _ _ 0 _ _ _ hX
  have HH := hide h
  have HF2 := hide f2
  have HR2 := hide r2
  have HPos := hide hpos
  have HF1 := hide f1
  have hrl := h.rules.lim
  have hfl := h.foes.lim
  clear h hf hru f1 f2 r2 hP hpos h64 hX hB hn h0 h1
  go_enter Tryz.func48, Tryz.ntmps48
  go_upto_region 1 with fail
  generalize hW : w.alloc (.cells #[.int .i64 T.lits, .slice fa T.foes.length fc, .slice ra T.rules.length rc, .slice ba T.beats.length bc] 25) = W at *
  have hWs : W.heap.size = w.heap.size + 1 := by rw [← hW]; simp
  have HWs := hide hWs
  clear hW hWs
  go_upto_region 2 with (at_make; go_must (refine wpList_make_fix _ rfl _ _ 26 rfl 3 iI _ Tryz.underlying26 hiI zI0 zI1 rfl _ _ n rfl rfl HN0.out HN0.out (by rw [zI2]; omega) (by unfold maxLen; omega) ?_))
  rw [HWs.out]
  generalize W.alloc (.cells (Array.replicate n (.int .i64 0)) 3) = W1 at *
  clear HWs hc0
  obtain ⟨-, c0, c1, c2, c3⟩ := Bt.of PQ0.out.bx
  go_wp2_with fail
  clear c0 c1 c2 c3
  go_loopw [17] (fun x wr => ∃ k : Nat, k ≤ T.rules.length ∧ x = .int .i64 k ∧ Hid (Pq w (.int .i64 T.lits) (.slice fa T.foes.length fc) (.slice ra T.rules.length rc) (.slice ba T.beats.length bc) (cntL n (T.rules.take k)) wr)) (fun x _ => T.rules.length - (intOf x).toNat)
  case atStart => exact ⟨0, by omega, rfl, PQ0⟩
  case round =>
    clear PQ0
    obtain ⟨k, hk, rfl, PQ⟩ := hrel
    by_cases hlt : k < T.rules.length
    · obtain ⟨x, hx⟩ := get_at hlt
      obtain ⟨g, of, a2, d2, rfl, -, k0, k1, k2, -, -, -⟩ := at_R (HH.out.rules.keep PQ.out.low.block) hx
      have hA := below_new wr (.cells #[.int .i64 x.kind, .int .i64 x.head, .slice a2 x.body.length d2] 36)
      have hXr := heap_alloc_new wr (.cells #[.int .i64 x.kind, .int .i64 x.head, .slice a2 x.body.length d2] 36)
      have PA := hide (PQ.out.call hA)
      obtain ⟨-, -, hh0, hh1, -, -⟩ := HR2.out x (List.mem_of_getElem? hx)
      obtain ⟨m, hm⟩ := Int.eq_ofNat_of_zero_le hh0
      have HS := hide (cntL_snoc (n := n) hx)
      have hcn := cntL_le (n := n) (z := m) (rs := T.rules.take k) (by have := HN0.out; omega) (fun r hr => HPos.out r (List.mem_of_mem_take hr))
      rw [List.length_take] at hcn
      have hmn : m < n := by have := HN0.out; omega
      have HI := hide (ints_at (l := cntL n (T.rules.take k)) (i := m) (by rw [cntL_len]; have := HN0.out; omega))
      have HU : Hid (upM (cntL n (T.rules.take k)) x.head = (cntL n (T.rules.take k)).set m ((cntL n (T.rules.take k)).getD m 0 + 1)) := hide (by unfold upM; rw [show x.head.toNat = m by omega])
      rw [hm] at k1 hXr hA PA
      clear hx hA
      generalize x.head = hd at *
      subst hd
      go_upto_region 5 with fail
      generalize wr.alloc (.cells #[.int .i64 x.kind, .int .i64 m, .slice a2 x.body.length d2] 36) = W2 at *
      have r1' := cell_of_row W2 _ 1 _ _ _ hXr
      simp only [List.getElem?_toArray, List.getElem?_cons_zero, List.getElem?_cons_succ] at r1'
      generalize hC : (cntL n (T.rules.take k)).getD m 0 = cv at *
      have hcv0 : 0 ≤ cv := hcn.1
      have hcv1 : cv ≤ 4096 := by have := hcn.2; omega
      have kcell := PA.out.fx.get HI.out
      have kfr := PA.out.fx.frz m
      have PS := hide (PA.out.set m (cv + 1))
      rw [← HU.out, ← HS.out] at PS
      clear hXr k0 k1 k2 PQ PA HI HU HS hC
      go_wp2_with fail
      go_roundw
      case rel => exact ⟨k + 1, by omega, by go_num, PS⟩
      case measure => simp [intOf]; omega
    · have hkn : k = T.rules.length := by omega
      rw [hkn, List.take_length] at PQ
      clear hkn
      obtain ⟨-, c0, c1, c2, c3⟩ := Bt.of PQ.out.bx
      have HL := hide (HH.out.foes.keep PQ.out.low.block)
      have HLow := hide PQ.out.low
      have HCell : Hid (∀ z : Nat, z < n → wr.cell? ⟨w.heap.size + 1, z, none⟩ = some (.int .i64 (cntM T z : Nat))) := hide fun z hz => by
        have := PQ.out.fx.get (ints_at (l := cntL n T.rules) (i := z) (by rw [cntL_len]; omega))
        rw [cntL_at hz HPos.out] at this
        exact this
      clear PQ HH
      go_wp2_with fail
      go_loop [6, 31] (fun y x => ∃ (k s : Nat), k ≤ n ∧ x = .int .i64 k ∧ y = .int .i64 s ∧ Hid (s + pairsFrom T k (T.foes.drop k) = P)) (fun _ x => n - (intOf x).toNat)
      case atStart => exact ⟨0, 0, by omega, rfl, rfl, HP⟩
      case round =>
        clear HP
        rename_i k9
        clear hlt hk
        obtain ⟨k, s, hk, rfl, rfl, HK⟩ := hrel
        by_cases hlt : k < n
        · obtain ⟨l, hl⟩ := get_at (l := T.foes) (i := k) (by omega)
          obtain ⟨g, of, a2, d2, rfl, -, kc, hc2, hll, hI⟩ := at_L HL.out hl
          have kcell := HCell.out k hlt
          have HA1 := hide hI.at1
          obtain ⟨-, hri, -, -⟩ := HF2.out k l hl
          have HMem : Hid (∀ f ∈ l, 0 ≤ f ∧ f < (n : Int)) := hide fun f hf => by have := (rises_iff.1 hri).1 f hf; have := HN0.out; omega
          have HSt : Hid (s + (pairsRow T k (l.drop 0) + pairsFrom T (k + 1) (T.foes.drop (k + 1))) = P) := hide (by have := HK.out; rw [drop_at hl] at this; rw [List.drop_zero]; exact this)
          have hA4 : cntM T k ≤ 4096 := Nat.le_trans cntM_le r1
          clear hl hI hri HK
          generalize hA : cntM T k = A at *
          have HA := hide hA
          clear hA
          go_wp2_with fail
          go_loop [6, 42] (fun y x => ∃ (j s2 : Nat), j ≤ l.length ∧ x = .int .i64 j ∧ y = .int .i64 s2 ∧ Hid (s2 + (pairsRow T k (l.drop j) + pairsFrom T (k + 1) (T.foes.drop (k + 1))) = P)) (fun _ x => l.length - (intOf x).toNat)
          case atStart => exact ⟨0, s, by omega, rfl, rfl, HSt⟩
          case round =>
            clear HSt
            obtain ⟨j, s2, hj, rfl, rfl, HJ⟩ := hrel
            by_cases hlj : j < l.length
            · obtain ⟨x, hx⟩ := get_at hlj
              obtain ⟨g3, o3, rfl, kc3⟩ := HA1.out.get hx
              obtain ⟨hx0, hx1⟩ := HMem.out x (List.mem_of_getElem? hx)
              obtain ⟨m, rfl⟩ := Int.eq_ofNat_of_zero_le hx0
              have kc4 := HCell.out m (by omega)
              have hB4 : cntM T m ≤ 4096 := Nat.le_trans cntM_le r1
              have HN : Hid (s2 + A * cntM T m + (pairsRow T k (l.drop (j + 1)) + pairsFrom T (k + 1) (T.foes.drop (k + 1))) = P) := hide (by
                have := HJ.out
                rw [drop_at hx, pairsRow, HA.out] at this
                omega)
              clear hx hx0 HJ
              generalize cntM T (m : Int) = B at *
              obtain ⟨M, hM⟩ : ∃ M, A * B = M := ⟨_, rfl⟩
              have hM2 : (A : Int) * (B : Int) = (M : Int) := by rw [← hM]; simp
              have hMb : M ≤ 16777216 := by rw [← hM]; exact Nat.mul_le_mul hA4 hB4
              have hs2 : s2 + M ≤ 4398046511104 := by have h1 := HN.out; have h2 := HPB.out; rw [hM] at h1; omega
              rw [hM] at HN
              clear hM
              go_wp2_with fail
              go_round
              case rel => exact ⟨j + 1, s2 + M, by omega, by go_num, by go_num, HN⟩
              case measure => simp [intOf]; omega
            · have HN : Hid (s2 + pairsFrom T (k + 1) (T.foes.drop (k + 1)) = P) := hide (by have := HJ.out; rw [drop_end (by omega)] at this; simpa [pairsRow] using this)
              clear HJ
              go_wp2_with fail
              go_round
              case rel => exact ⟨k + 1, s2, by omega, by go_num, rfl, HN⟩
              case measure => simp [intOf]; omega
        · have HN : Hid (s = P) := hide (by have := HK.out; rw [drop_end (by omega)] at this; simpa [pairsFrom] using this)
          clear HK
          go_wp2_with fail
          go_ret
          exact ⟨by rw [HN.out]; rfl, HLow.out⟩
end Go.Proofs.YthifoamnmhlghaaGreat
