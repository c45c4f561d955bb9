/- Rows of a fixed length that are written. -/
import Derived.Test.YtdmnoeooljofcaaFoe
namespace Go.Proofs.Ytdmnoeooljofcaa
open Go.RowKit

theorem made_one (z : Value) (n : Nat) : madeCells #[z] n = Array.replicate n z := by
  apply Array.ext
  · simp [madeCells]
  · intro i h1 h2
    simp [madeCells, Nat.mod_one]
theorem wpList_make_fix {P : Program} (w : World) {ops : Array Oper} {rest : List Oper} {o : Oper} {a : Act} {Q : Exit → Act → World → Prop}
    (hg : o.guard = none) (l c : Operand) (t : TypeId) (hop : o.op = Op.makeSlice t l c) (e : TypeId) (i : TypeInfo) (z : Value) (h1 : P.underlying t = some (.slice e)) (h2 : P.info? e = some i) (h3 : i.zero = some z) (h4 : i.size = 1) (h5 : z.cells = #[z])
    (L C : Int) (n : Nat) (hl : a.eval l = .int .i64 L) (hc : a.eval c = .int .i64 C) (hL : L = (n : Int)) (hC : C = (n : Int)) (b2 : i.bytes * n ≤ 281474976710656) (b3 : n ≤ maxLen)
    (hK : wpList P ops Q rest (a.put o.dst (.slice (some ⟨w.heap.size, 0, none⟩) n n)) (w.alloc (.cells (Array.replicate n z) e))) :
    wpList P ops Q (o :: rest) a w := by
  refine wpList_plain hg fun K hK' => ?_
  have hb' : (i.bytes : Int) * (n : Int) ≤ 281474976710656 := by
    have h : ((i.bytes * n : Nat) : Int) ≤ 281474976710656 := by omega
    rwa [Int.natCast_mul] at h
  have h63' : (n : Int) ≤ 9223372036854775807 := by
    have h := b3
    simp [maxLen] at h
    omega
  have hrun := run_make (P := P) w t e i z h1 h2 h3 .i64 .i64 n n (by omega) (Int.le_refl _) hb' h63'
  rw [h4, Nat.mul_one, h5, made_one] at hrun
  subst hL
  subst hC
  unfold Oper.wp
  simp [execOp, hop, hl, hc, hrun, Result.andThen]
  exact hK' _ _ hK
def Fx (g T : Nat) (vs : List Value) (w : World) : Prop := w.heap[g]? = some (.cells vs.toArray T (0, 0))
section
variable {g T i : Nat} {vs : List Value} {w w' : World} {v : Value}
theorem Fx.get (h : Fx g T vs w) (hi : vs[i]? = some v) : w.cell? ⟨g, i, none⟩ = some v := by
  rw [cell_of_row w g i _ _ _ h]
  simpa using hi
theorem Fx.frz (h : Fx g T vs w) (i : Nat) : w.frozen? ⟨g, i, none⟩ = false := frozen_of_row w g i _ _ h
theorem Fx.set (h : Fx g T vs w) (i : Nat) (v : Value) : Fx g T (vs.set i v) (w.setCell ⟨g, i, none⟩ v) := by
  unfold Fx
  rw [loc_set h, List.setIfInBounds_toArray]
theorem Fx.keep (h : Fx g T vs w) (hb : w'.heap[g]? = w.heap[g]?) : Fx g T vs w' := hb.trans h
theorem Fx.lt (h : Fx g T vs w) : g < w.heap.size := loc_lt h
end
theorem ints_set {l : List Int} {i : Nat} {z : Int} : (ints l).set i (.int .i64 z) = ints (l.set i z) := by unfold ints; rw [List.map_set]
theorem bools_set {l : List Bool} {i : Nat} {z : Bool} : (bools l).set i (.bool z) = bools (l.set i z) := by unfold bools; rw [List.map_set]
theorem ints_rep {n : Nat} : Array.replicate n (.int .i64 0) = (ints (List.replicate n 0)).toArray := by unfold ints; simp
theorem bools_rep {n : Nat} : Array.replicate n (.bool false) = (bools (List.replicate n false)).toArray := by unfold bools; simp
theorem other_set {w : World} {g i k : Nat} {v : Value} (h : k ≠ g) : (w.setCell ⟨g, i, none⟩ v).heap[k]? = w.heap[k]? := heap_setCell_other w ⟨g, i, none⟩ k v h

/-! Counting rules. -/
def upM (C : List Int) (z : Int) : List Int := C.set z.toNat (C.getD z.toNat 0 + 1)
def cntL (n : Nat) (rs : List RuleM) : List Int := rs.foldl (fun C r => upM C r.head) (List.replicate n 0)
theorem cntL_snoc {n : Nat} {rs : List RuleM} {k : Nat} {x : RuleM} (h : rs[k]? = some x) : cntL n (rs.take (k + 1)) = upM (cntL n (rs.take k)) x.head := by
  unfold cntL
  rw [take_snoc h, List.foldl_append]
  rfl
theorem up_len {C : List Int} {z : Int} : (upM C z).length = C.length := by unfold upM; simp
theorem cntF_len : ∀ {rs : List RuleM} {C : List Int}, (rs.foldl (fun C r => upM C r.head) C).length = C.length
  | [], C => rfl
  | r :: rs, C => by rw [List.foldl_cons, cntF_len, up_len]
theorem cntL_len {n : Nat} {rs : List RuleM} : (cntL n rs).length = n := by unfold cntL; rw [cntF_len]; simp
theorem cntF_at {z : Nat} : ∀ {rs : List RuleM} {C : List Int}, z < C.length → (∀ r ∈ rs, 0 ≤ r.head) → (rs.foldl (fun C r => upM C r.head) C).getD z 0 = C.getD z 0 + ((rs.filter fun r => decide (r.head = (z : Int))).length : Nat)
  | [], C, _, _ => by simp
  | r :: rs, C, hz, h => by
    rw [List.foldl_cons, cntF_at (by rw [up_len]; exact hz) fun r hr => h r (by simp [hr]), List.filter_cons]
    have hr := h r (by simp)
    unfold upM
    by_cases e : r.head = (z : Int)
    · have e2 : r.head.toNat = z := by omega
      rw [if_pos (by simpa using e), e2]
      have : (C.set z (C.getD z 0 + 1)).getD z 0 = C.getD z 0 + 1 := by simp [List.getD, hz]
      rw [this, List.length_cons]
      omega
    · have e2 : r.head.toNat ≠ z := by omega
      rw [if_neg (by simpa using e)]
      have : (C.set r.head.toNat (C.getD r.head.toNat 0 + 1)).getD z 0 = C.getD z 0 := by simp [List.getD, List.getElem?_set_ne e2]
      rw [this]
theorem cntL_at {T : Th} {n z : Nat} (hz : z < n) (h : ∀ r ∈ T.rules, 0 ≤ r.head) : (cntL n T.rules).getD z 0 = (cntM T z : Nat) := by
  unfold cntL
  rw [cntF_at (by simpa using hz) h]
  have : (List.replicate n (0 : Int)).getD z 0 = 0 := by simp [List.getD, hz]
  rw [this]
  unfold cntM
  omega
theorem cntL_le {n z : Nat} {rs : List RuleM} (hz : z < n) (h : ∀ r ∈ rs, 0 ≤ r.head) : 0 ≤ (cntL n rs).getD z 0 ∧ (cntL n rs).getD z 0 ≤ rs.length := by
  unfold cntL
  rw [cntF_at (by simpa using hz) h]
  have : (List.replicate n (0 : Int)).getD z 0 = 0 := by simp [List.getD, hz]
  rw [this]
  have := List.length_filter_le (fun r : RuleM => decide (r.head = (z : Int))) rs
  omega
theorem cntM_le {T : Th} {z : Int} : cntM T z ≤ T.rules.length := List.length_filter_le _ _
theorem pairsRow_le {T : Th} {i : Nat} (hr : T.rules.length ≤ 4096) : ∀ {l : List Int}, pairsRow T i l ≤ l.length * 16777216
  | [] => by simp [pairsRow]
  | f :: r => by
    have h1 : cntM T i ≤ 4096 := Nat.le_trans cntM_le hr
    have h2 : cntM T f ≤ 4096 := Nat.le_trans cntM_le hr
    have := Nat.mul_le_mul h1 h2
    have := pairsRow_le hr (i := i) (l := r)
    unfold pairsRow
    simp only [List.length_cons]
    omega
theorem pairsFrom_le {T : Th} (hr : T.rules.length ≤ 4096) : ∀ {F : List (List Int)} {i : Nat}, (∀ l ∈ F, l.length ≤ 64) → pairsFrom T i F ≤ F.length * 1073741824
  | [], i, _ => by simp [pairsFrom]
  | l :: F, i, h => by
    have h1 := h l (by simp)
    have := pairsRow_le hr (i := i) (l := l)
    have := pairsFrom_le hr (F := F) (i := i + 1) fun l hl => h l (by simp [hl])
    unfold pairsFrom
    simp only [List.length_cons]
    omega
end Go.Proofs.Ytdmnoeooljofcaa
/- pairsOf, pairFault. -/
namespace Go.Proofs.Ytdmnoeooljofcaa
open Go.RowKit

/-- Counting: the box, the row of counts. -/
structure Pq (w : World) (v0 v1 v2 v3 : Value) (C : List Int) (wr : World) : Prop where
  low : Below w.heap.size w wr
  bx : wr.heap[w.heap.size]? = some (.cells #[v0, v1, v2, v3] 27 (0, 0))
  fx : Fx (w.heap.size + 1) 3 (ints C) wr
section
variable {w wr wd : World} {v0 v1 v2 v3 : Value} {C : List Int}
theorem Pq.call (h : Pq w v0 v1 v2 v3 C wr) (hb : Below wr.heap.size wr wd) : Pq w v0 v1 v2 v3 C wd := ⟨h.low.trans (hb.mono h.low.size), (hb.block _ (loc_lt h.bx)).trans h.bx, h.fx.keep (hb.block _ h.fx.lt)⟩
theorem Pq.set (h : Pq w v0 v1 v2 v3 C wr) (i : Nat) (z : Int) : Pq w v0 v1 v2 v3 (C.set i z) (wr.setCell ⟨w.heap.size + 1, i, none⟩ (.int .i64 z)) :=
  ⟨h.low.setCell (p := ⟨w.heap.size + 1, i, none⟩) (by show w.heap.size ≤ w.heap.size + 1; omega) _, (other_set (by omega)).trans h.bx, by rw [← ints_set]; exact h.fx.set i _⟩
end
set_option maxRecDepth 100000 in
set_option maxHeartbeats 12800000 in
theorem pairsOf_any {w : World} {T : Th} {fa ra ba : Option Addr} {fc rc bc : Nat} (h : TA w.heap.size w T fa fc ra rc ba bc) (h0 : 0 ≤ T.lits) (h1 : T.lits ≤ 4096) (hf : (foeM T).1 = 0) (hru : (ruleM T).1 = 0) :
    Calls Try.prog 34 #[tv T fa fc ra rc ba bc] w fun e w' => e = .returned (.int .i64 (pairsM T : Nat)) ∧ Below w.heap.size w w' := by
  obtain ⟨iI, hiI, zI0, zI1, zI2⟩ := info_parts infoI
  obtain ⟨f1, f2⟩ := foe_ok hf
  obtain ⟨r1, r2⟩ := rule_ok hru
  have hpos : ∀ r ∈ T.rules, 0 ≤ r.head := fun r hr => (r2 r hr).2.2.1
  have h64 : ∀ l ∈ T.foes, l.length ≤ 64 := fun l hl => by
    obtain ⟨i, hi, rfl⟩ := List.mem_iff_getElem.1 hl
    exact (f2 i _ (List.getElem?_eq_getElem hi)).1
  have HPB : Hid (pairsM T ≤ T.foes.length * 1073741824) := hide (pairsFrom_le r1 h64)
  obtain ⟨P, hP⟩ : ∃ P, pairsM T = P := ⟨_, rfl⟩
  rw [hP] at HPB ⊢
  have HP : Hid (0 + pairsFrom T 0 (T.foes.drop 0) = P) := hide (by rw [List.drop_zero, Nat.zero_add]; exact hP)
  obtain ⟨n, hn⟩ := Int.eq_ofNat_of_zero_le h0
  have hnf1 : n ≤ T.foes.length := by omega
  have hnf2 : T.foes.length ≤ n := by omega
  have hn4 : n ≤ 4096 := by omega
  have HN0 := hide hn
  have hB := below_new w (.cells #[.int .i64 T.lits, .slice fa T.foes.length fc, .slice ra T.rules.length rc, .slice ba T.beats.length bc] 27)
  have hX := heap_alloc_new w (.cells #[.int .i64 T.lits, .slice fa T.foes.length fc, .slice ra T.rules.length rc, .slice ba T.beats.length bc] 27)
  have PQ0 : Hid (Pq w (.int .i64 T.lits) (.slice fa T.foes.length fc) (.slice ra T.rules.length rc) (.slice ba T.beats.length bc) (cntL n (T.rules.take 0)) ((w.alloc (.cells #[.int .i64 T.lits, .slice fa T.foes.length fc, .slice ra T.rules.length rc, .slice ba T.beats.length bc] 27)).alloc (.cells (Array.replicate n (.int .i64 0)) 3))) := hide (by
    refine ⟨hB.alloc hB.size _, (Below.heap_alloc _ _ _ (by simp)).trans hX, ?_⟩
    have e := heap_alloc_new (w.alloc (.cells #[.int .i64 T.lits, .slice fa T.foes.length fc, .slice ra T.rules.length rc, .slice ba T.beats.length bc] 27)) (.cells (Array.replicate n (.int .i64 0)) 3)
    have e2 : cntL n (T.rules.take 0) = List.replicate n 0 := by simp [cntL]
    unfold Fx
    rw [e2, ← ints_rep]
    simpa using e)
  have hc0 : (w.alloc (.cells #[.int .i64 T.lits, .slice fa T.foes.length fc, .slice ra T.rules.length rc, .slice ba T.beats.length bc] 27)).cell? ⟨w.heap.size, 0, none⟩ = some (.int .i64 T.lits) := cell_of_row _ _ 0 _ _ _ hX
  have HH := hide h
  have HF2 := hide f2
  have HR2 := hide r2
  have HPos := hide hpos
  have HF1 := hide f1
  have hrl := h.rules.lim
  have hfl := h.foes.lim
  clear h hf hru f1 f2 r2 hP hpos h64 hX hB hn h0 h1
  go_enter Try.func34, Try.ntmps34
  go_upto_region 1 with fail
  generalize hW : w.alloc (.cells #[.int .i64 T.lits, .slice fa T.foes.length fc, .slice ra T.rules.length rc, .slice ba T.beats.length bc] 27) = W at *
  have hWs : W.heap.size = w.heap.size + 1 := by rw [← hW]; simp
  have HWs := hide hWs
  clear hW hWs
  go_upto_region 2 with (at_make; go_must (refine wpList_make_fix _ rfl _ _ 38 rfl 3 iI _ Try.underlying38 hiI zI0 zI1 rfl _ _ n rfl rfl HN0.out HN0.out (by rw [zI2]; omega) (by unfold maxLen; omega) ?_))
  rw [HWs.out]
  generalize W.alloc (.cells (Array.replicate n (.int .i64 0)) 3) = W1 at *
  clear HWs hc0
  obtain ⟨-, c0, c1, c2, c3⟩ := Bt.of PQ0.out.bx
  go_wp2_with fail
  clear c0 c1 c2 c3
  go_loopw [17] (fun x wr => ∃ k : Nat, k ≤ T.rules.length ∧ x = .int .i64 k ∧ Hid (Pq w (.int .i64 T.lits) (.slice fa T.foes.length fc) (.slice ra T.rules.length rc) (.slice ba T.beats.length bc) (cntL n (T.rules.take k)) wr)) (fun x _ => T.rules.length - (intOf x).toNat)
  case atStart => exact ⟨0, by omega, rfl, PQ0⟩
  case round =>
    clear PQ0
    obtain ⟨k, hk, rfl, PQ⟩ := hrel
    by_cases hlt : k < T.rules.length
    · obtain ⟨x, hx⟩ := get_at hlt
      obtain ⟨g, of, a2, d2, rfl, -, k0, k1, k2, -, -, -⟩ := at_R (HH.out.rules.keep PQ.out.low.block) hx
      have hA := below_new wr (.cells #[.int .i64 x.kind, .int .i64 x.head, .slice a2 x.body.length d2] 70)
      have hXr := heap_alloc_new wr (.cells #[.int .i64 x.kind, .int .i64 x.head, .slice a2 x.body.length d2] 70)
      have PA := hide (PQ.out.call hA)
      obtain ⟨-, -, hh0, hh1, -, -⟩ := HR2.out x (List.mem_of_getElem? hx)
      obtain ⟨m, hm⟩ := Int.eq_ofNat_of_zero_le hh0
      have HS := hide (cntL_snoc (n := n) hx)
      have hcn := cntL_le (n := n) (z := m) (rs := T.rules.take k) (by have := HN0.out; omega) (fun r hr => HPos.out r (List.mem_of_mem_take hr))
      rw [List.length_take] at hcn
      have hmn : m < n := by have := HN0.out; omega
      have HI := hide (ints_at (l := cntL n (T.rules.take k)) (i := m) (by rw [cntL_len]; have := HN0.out; omega))
      have HU : Hid (upM (cntL n (T.rules.take k)) x.head = (cntL n (T.rules.take k)).set m ((cntL n (T.rules.take k)).getD m 0 + 1)) := hide (by unfold upM; rw [show x.head.toNat = m by omega])
      rw [hm] at k1 hXr hA PA
      clear hx hA
      generalize x.head = hd at *
      subst hd
      go_upto_region 5 with fail
      generalize wr.alloc (.cells #[.int .i64 x.kind, .int .i64 m, .slice a2 x.body.length d2] 70) = W2 at *
      have r1' := cell_of_row W2 _ 1 _ _ _ hXr
      simp only [List.getElem?_toArray, List.getElem?_cons_zero, List.getElem?_cons_succ] at r1'
      generalize hC : (cntL n (T.rules.take k)).getD m 0 = cv at *
      have hcv0 : 0 ≤ cv := hcn.1
      have hcv1 : cv ≤ 4096 := by have := hcn.2; omega
      have kcell := PA.out.fx.get HI.out
      have kfr := PA.out.fx.frz m
      have PS := hide (PA.out.set m (cv + 1))
      rw [← HU.out, ← HS.out] at PS
      clear hXr k0 k1 k2 PQ PA HI HU HS hC
      go_wp2_with fail
      go_roundw
      case rel => exact ⟨k + 1, by omega, by go_num, PS⟩
      case measure => simp [intOf]; omega
    · have hkn : k = T.rules.length := by omega
      rw [hkn, List.take_length] at PQ
      clear hkn
      obtain ⟨-, c0, c1, c2, c3⟩ := Bt.of PQ.out.bx
      have HL := hide (HH.out.foes.keep PQ.out.low.block)
      have HLow := hide PQ.out.low
      have HCell : Hid (∀ z : Nat, z < n → wr.cell? ⟨w.heap.size + 1, z, none⟩ = some (.int .i64 (cntM T z : Nat))) := hide fun z hz => by
        have := PQ.out.fx.get (ints_at (l := cntL n T.rules) (i := z) (by rw [cntL_len]; omega))
        rw [cntL_at hz HPos.out] at this
        exact this
      clear PQ HH
      go_wp2_with fail
      go_loop [6, 31] (fun y x => ∃ (k s : Nat), k ≤ n ∧ x = .int .i64 k ∧ y = .int .i64 s ∧ Hid (s + pairsFrom T k (T.foes.drop k) = P)) (fun _ x => n - (intOf x).toNat)
      case atStart => exact ⟨0, 0, by omega, rfl, rfl, HP⟩
      case round =>
        clear HP
        rename_i k9
        clear hlt hk
        obtain ⟨k, s, hk, rfl, rfl, HK⟩ := hrel
        by_cases hlt : k < n
        · obtain ⟨l, hl⟩ := get_at (l := T.foes) (i := k) (by omega)
          obtain ⟨g, of, a2, d2, rfl, -, kc, hc2, hll, hI⟩ := at_L HL.out hl
          have kcell := HCell.out k hlt
          have HA1 := hide hI.at1
          obtain ⟨-, hri, -, -⟩ := HF2.out k l hl
          have HMem : Hid (∀ f ∈ l, 0 ≤ f ∧ f < (n : Int)) := hide fun f hf => by have := (rises_iff.1 hri).1 f hf; have := HN0.out; omega
          have HSt : Hid (s + (pairsRow T k (l.drop 0) + pairsFrom T (k + 1) (T.foes.drop (k + 1))) = P) := hide (by have := HK.out; rw [drop_at hl] at this; rw [List.drop_zero]; exact this)
          have hA4 : cntM T k ≤ 4096 := Nat.le_trans cntM_le r1
          clear hl hI hri HK
          generalize hA : cntM T k = A at *
          have HA := hide hA
          clear hA
          go_wp2_with fail
          go_loop [6, 42] (fun y x => ∃ (j s2 : Nat), j ≤ l.length ∧ x = .int .i64 j ∧ y = .int .i64 s2 ∧ Hid (s2 + (pairsRow T k (l.drop j) + pairsFrom T (k + 1) (T.foes.drop (k + 1))) = P)) (fun _ x => l.length - (intOf x).toNat)
          case atStart => exact ⟨0, s, by omega, rfl, rfl, HSt⟩
          case round =>
            clear HSt
            obtain ⟨j, s2, hj, rfl, rfl, HJ⟩ := hrel
            by_cases hlj : j < l.length
            · obtain ⟨x, hx⟩ := get_at hlj
              obtain ⟨g3, o3, rfl, kc3⟩ := HA1.out.get hx
              obtain ⟨hx0, hx1⟩ := HMem.out x (List.mem_of_getElem? hx)
              obtain ⟨m, rfl⟩ := Int.eq_ofNat_of_zero_le hx0
              have kc4 := HCell.out m (by omega)
              have hB4 : cntM T m ≤ 4096 := Nat.le_trans cntM_le r1
              have HN : Hid (s2 + A * cntM T m + (pairsRow T k (l.drop (j + 1)) + pairsFrom T (k + 1) (T.foes.drop (k + 1))) = P) := hide (by
                have := HJ.out
                rw [drop_at hx, pairsRow, HA.out] at this
                omega)
              clear hx hx0 HJ
              generalize cntM T (m : Int) = B at *
              obtain ⟨M, hM⟩ : ∃ M, A * B = M := ⟨_, rfl⟩
              have hM2 : (A : Int) * (B : Int) = (M : Int) := by rw [← hM]; simp
              have hMb : M ≤ 16777216 := by rw [← hM]; exact Nat.mul_le_mul hA4 hB4
              have hs2 : s2 + M ≤ 4398046511104 := by have h1 := HN.out; have h2 := HPB.out; rw [hM] at h1; omega
              rw [hM] at HN
              clear hM
              go_wp2_with fail
              go_round
              case rel => exact ⟨j + 1, s2 + M, by omega, by go_num, by go_num, HN⟩
              case measure => simp [intOf]; omega
            · have HN : Hid (s2 + pairsFrom T (k + 1) (T.foes.drop (k + 1)) = P) := hide (by have := HJ.out; rw [drop_end (by omega)] at this; simpa [pairsRow] using this)
              clear HJ
              go_wp2_with fail
              go_round
              case rel => exact ⟨k + 1, s2, by omega, by go_num, rfl, HN⟩
              case measure => simp [intOf]; omega
        · have HN : Hid (s = P) := hide (by have := HK.out; rw [drop_end (by omega)] at this; simpa [pairsFrom] using this)
          clear HK
          go_wp2_with fail
          go_ret
          exact ⟨by rw [HN.out]; rfl, HLow.out⟩
end Go.Proofs.Ytdmnoeooljofcaa
/- pairFault, allFoes, beatFault. -/
namespace Go.Proofs.Ytdmnoeooljofcaa
open Go.RowKit

set_option maxRecDepth 100000 in
set_option maxHeartbeats 6400000 in
theorem pairFault_any {w : World} {T : Th} {fa ra ba : Option Addr} {fc rc bc : Nat} (h : TA w.heap.size w T fa fc ra rc ba bc) (h0 : 0 ≤ T.lits) (h1 : T.lits ≤ 4096) (hf : (foeM T).1 = 0) (hru : (ruleM T).1 = 0) :
    Calls Try.prog 52 #[tv T fa fc ra rc ba bc] w fun e w' => e = .returned (dup (pairM T)) ∧ Below w.heap.size w w' := by
  have hB := below_new w (.cells #[.int .i64 T.lits, .slice fa T.foes.length fc, .slice ra T.rules.length rc, .slice ba T.beats.length bc] 27)
  have hX := heap_alloc_new w (.cells #[.int .i64 T.lits, .slice fa T.foes.length fc, .slice ra T.rules.length rc, .slice ba T.beats.length bc] 27)
  have CP := hide (pairsOf_any (TR.go hB h) h0 h1 hf hru)
  obtain ⟨r, hr⟩ : ∃ r, pairM T = r := ⟨_, rfl⟩
  rw [hr]
  unfold pairM at hr
  have HB := hide hB
  generalize pairsM T = P at *
  clear h hf hru hB h0 h1
  go_enter Try.func52, Try.ntmps52
  go_upto_region 1 with fail
  generalize w.alloc (.cells #[.int .i64 T.lits, .slice fa T.foes.length fc, .slice ra T.rules.length rc, .slice ba T.beats.length bc] 27) = W at *
  obtain ⟨-, c0, c1, c2, c3⟩ := Bt.of hX
  clear hX
  by_cases hp : 65536 < P
  · rw [if_pos hp] at hr
    have HR := hide hr
    clear hr
    go_wp2_with (go_at_call 34; refine CP.out.mono ?_; rintro _ w1 ⟨rfl, hw1⟩; have HX1 := hide (HB.out.trans (hw1.mono HB.out.size)); clear hw1)
    go_ret2
    exact ⟨ret_dup HR.out, HX1.out⟩
  · rw [if_neg hp] at hr
    have HR := hide hr
    clear hr
    go_wp2_with (go_at_call 34; refine CP.out.mono ?_; rintro _ w1 ⟨rfl, hw1⟩; have HX1 := hide (HB.out.trans (hw1.mono HB.out.size)); clear hw1)
    go_ret2
    exact ⟨ret_dup HR.out, HX1.out⟩

theorem head_at {T : Th} {z : Int} {x : RuleM} (h : T.rules[z.toNat]? = some x) : headOf T z = x.head := by unfold headOf; rw [h]; rfl
set_option maxRecDepth 100000 in
set_option maxHeartbeats 6400000 in
theorem allFoes_any {w : World} {T : Th} {fa ra ba : Option Addr} {fc rc bc i : Nat} {l : List Int} (h : TA w.heap.size w T fa fc ra rc ba bc) (hf : (foeM T).1 = 0) (hru : (ruleM T).1 = 0) (hi : T.beats[i]? = some l) (hir : i < T.rules.length) (hr : ∀ f ∈ l, 0 ≤ f ∧ f < (T.rules.length : Int)) :
    Calls Try.prog 65 #[tv T fa fc ra rc ba bc, .int .i64 i] w fun e w' => e = .returned (.bool (l.all fun b => decide (headOf T b ∈ row T.foes (headOf T i)))) ∧ Below w.heap.size w w' := by
  obtain ⟨f1, f2⟩ := foe_ok hf
  obtain ⟨r1, r2⟩ := rule_ok hru
  have hB := below_new w (.cells #[.int .i64 T.lits, .slice fa T.foes.length fc, .slice ra T.rules.length rc, .slice ba T.beats.length bc] 27)
  have hX := heap_alloc_new w (.cells #[.int .i64 T.lits, .slice fa T.foes.length fc, .slice ra T.rules.length rc, .slice ba T.beats.length bc] 27)
  have hL := TR.go hB h
  have hfl := h.foes.lim
  have hrl := h.rules.lim
  have hbl := h.beats.lim
  have hil : i < T.beats.length := (List.getElem?_eq_some_iff.1 hi).1
  obtain ⟨x, hx⟩ := get_at hir
  obtain ⟨-, -, hh0, hh1, -, -⟩ := r2 x (List.mem_of_getElem? hx)
  obtain ⟨m, hm⟩ := Int.eq_ofNat_of_zero_le hh0
  have hmf : m < T.foes.length := by omega
  obtain ⟨fl, hfl2⟩ := get_at hmf
  have hhead : headOf T (i : Int) = m := by rw [head_at (x := x) (by simpa using hx), hm]
  have hrow : row T.foes (m : Int) = fl := row_at (by simpa using hfl2)
  rw [hhead, hrow]
  have hsort := (rises_iff.1 (f2 m fl hfl2).2.1).2
  obtain ⟨o, ho⟩ : ∃ o, (l.all fun b => decide (headOf T b ∈ fl)) = o := ⟨_, rfl⟩
  rw [ho]
  have HO : Hid ((l.drop 0).all (fun b => decide (headOf T b ∈ fl)) = o) := hide (by rw [List.drop_zero]; exact ho)
  clear h ho f2 hhead hrow f1
  go_enter Try.func65, Try.ntmps65
  go_upto_region 1 with fail
  generalize w.alloc (.cells #[.int .i64 T.lits, .slice fa T.foes.length fc, .slice ra T.rules.length rc, .slice ba T.beats.length bc] 27) = W at *
  obtain ⟨-, c0, c1, c2, c3⟩ := Bt.of hX
  obtain ⟨g1, o1, a1, d1, rfl, -, k1, -, hfll, hI1⟩ := at_L hL.foes hfl2
  obtain ⟨g2, o2, a2, d2, rfl, -, k20, k21, k22, -, -, -⟩ := at_R hL.rules hx
  obtain ⟨g3, o3, a3, d3, rfl, -, k3, -, hll, hI3⟩ := at_L hL.beats hi
  rw [hm] at k21
  have CS := hide (fun (t : Int) (q : Nat) => search_any (w := W.drewN q) (c := d1) (hI1.at1.below (below_drewN W q)) hfll hsort t)
  have HI3 := hide hI3.at1
  have HRu := hide hL.rules
  have HB := hide hB
  have HR := hide hr
  have HR2 := hide r2
  clear hL hB hX hi hr hI1 hI3 hx hh0 hh1 hm hfl2 hsort r2
  go_wp2_with fail
  go_quiet (fail)
  go_wp2_with fail
  go_loopw [26] (fun z wr => ∃ (k q : Nat), k ≤ l.length ∧ z = .int .i64 k ∧ wr = W.drewN q ∧ Hid ((l.drop k).all (fun b => decide (headOf T b ∈ fl)) = o)) (fun z _ => l.length - (intOf z).toNat)
  case atStart => exact ⟨0, _, by omega, rfl, rfl, HO⟩
  case round =>
    clear HO
    obtain ⟨k, q, hk, rfl, rfl, HK⟩ := hrel
    by_cases hlt : k < l.length
    · obtain ⟨y, hy⟩ := get_at hlt
      obtain ⟨g4, o4, rfl, kc4⟩ := HI3.out.get hy
      obtain ⟨hy0, hy1⟩ := HR.out y (List.mem_of_getElem? hy)
      obtain ⟨p, rfl⟩ := Int.eq_ofNat_of_zero_le hy0
      have hp : p < T.rules.length := by omega
      obtain ⟨x2, hx2⟩ := get_at hp
      obtain ⟨_, _, a5, d5, e5, -, j0, j1, j2, -, -, -⟩ := at_R HRu.out hx2
      cases e5
      have CC := hide (CS.out x2.head q)
      have HS : Hid ((l.drop k).all (fun b => decide (headOf T b ∈ fl)) = (decide (x2.head ∈ fl) && (l.drop (k + 1)).all (fun b => decide (headOf T b ∈ fl)))) := hide (by rw [all_step hy, head_at (x := x2) (by simpa using hx2)])
      clear hy hx2 hy0 hy1
      by_cases hin : x2.head ∈ fl
      · have HN : Hid ((l.drop (k + 1)).all (fun b => decide (headOf T b ∈ fl)) = o) := hide (by have := HK.out; rw [HS.out, decide_eq_true hin, Bool.true_and] at this; exact this)
        have CD : Hid (Calls Try.prog 73 #[.slice a1 fl.length d1, .int .i64 x2.head] (W.drewN q) fun e w' => ∃ z : Int, e = .returned (.tuple #[.int .i64 z, .bool true]) ∧ w' = W.drewN q) := hide (CC.out.mono fun e w' ⟨⟨z, hz⟩, hw⟩ => ⟨z, by rw [hz, decide_eq_true hin], hw⟩)
        clear HK HS CC hin
        go_wp2_with (go_at_call 73; refine CD.out.mono ?_; rintro _ w1 ⟨z1, rfl, hw⟩; subst w1)
        go_roundw
        case rel => exact ⟨k + 1, q, by omega, by go_num, rfl, HN⟩
        case measure => simp [intOf]; omega
      · have HN : Hid (false = o) := hide (by have := HK.out; rw [HS.out, decide_eq_false hin, Bool.false_and] at this; exact this)
        have CD : Hid (Calls Try.prog 73 #[.slice a1 fl.length d1, .int .i64 x2.head] (W.drewN q) fun e w' => ∃ z : Int, e = .returned (.tuple #[.int .i64 z, .bool false]) ∧ w' = W.drewN q) := hide (CC.out.mono fun e w' ⟨⟨z, hz⟩, hw⟩ => ⟨z, by rw [hz, decide_eq_false hin], hw⟩)
        clear HK HS CC hin
        go_wp2_with (go_at_call 73; refine CD.out.mono ?_; rintro _ w1 ⟨z1, rfl, hw⟩; subst w1)
        go_ret
        exact ⟨ret_bool HN.out, HB.out.trans ((below_drewN W q).mono HB.out.size)⟩
    · have HN : Hid (true = o) := hide (by have := HK.out; rw [drop_end (by omega)] at this; exact this)
      go_wp2_with fail
      go_ret
      exact ⟨ret_bool HN.out, HB.out.trans ((below_drewN W q).mono HB.out.size)⟩

set_option maxRecDepth 100000 in
set_option maxHeartbeats 12800000 in
theorem beatFault_any {w : World} {T : Th} {fa ra ba : Option Addr} {fc rc bc : Nat} (h : TA w.heap.size w T fa fc ra rc ba bc) (hf : (foeM T).1 = 0) (hru : (ruleM T).1 = 0) :
    Calls Try.prog 53 #[tv T fa fc ra rc ba bc] w fun e w' => e = .returned (dup (beatM T)) ∧ Below w.heap.size w w' := by
  have hB := below_new w (.cells #[.int .i64 T.lits, .slice fa T.foes.length fc, .slice ra T.rules.length rc, .slice ba T.beats.length bc] 27)
  have hL := TR.go hB h
  have hX := Bt.new w (.int .i64 T.lits) (.slice fa T.foes.length fc) (.slice ra T.rules.length rc) (.slice ba T.beats.length bc)
  have hfl := h.rules.lim
  have hbl := h.beats.lim
  obtain ⟨r, hr⟩ : ∃ r, beatM T = r := ⟨_, rfl⟩
  rw [hr]
  unfold beatM at hr
  clear h
  by_cases hne : T.beats.length ≠ T.rules.length
  · rw [if_pos hne] at hr
    have HR := hide hr
    have hnb : ((T.beats.length : Int) != T.rules.length) = true := by simp; omega
    have hnb2 : ¬ T.beats.length = T.rules.length := hne
    clear hr hne
    have HB := hide hB
    clear hB hL
    go_enter Try.func53, Try.ntmps53
    go_upto_region 1 with fail
    generalize w.alloc (.cells #[.int .i64 T.lits, .slice fa T.foes.length fc, .slice ra T.rules.length rc, .slice ba T.beats.length bc] 27) = W at *
    obtain ⟨-, c0, c1, c2, c3⟩ := hX
    go_wp2_with fail
    go_ret2
    exact ⟨ret_dup HR.out, HB.out⟩
  · rw [if_neg hne] at hr
    have hlen : T.beats.length = T.rules.length := Decidable.byContradiction hne
    have HO : Hid (atM 123 (firstB (badBeat T) 0 (T.beats.drop 0)) = r) := hide (by rw [List.drop_zero]; exact hr)
    have hle : T.beats.length ≤ T.rules.length := by omega
    have hge : T.rules.length ≤ T.beats.length := by omega
    have hnb : ((T.beats.length : Int) != T.rules.length) = false := by simp; omega
    clear hr hne hlen
    go_enter Try.func53, Try.ntmps53
    go_upto_region 1 with fail
    generalize w.alloc (.cells #[.int .i64 T.lits, .slice fa T.foes.length fc, .slice ra T.rules.length rc, .slice ba T.beats.length bc] 27) = W at *
    obtain ⟨hbx, c0, c1, c2, c3⟩ := hX
    have HL := hide hL
    have HB := hide hB
    have HX := hide hbx
    have HF := hide hf
    have HRU := hide hru
    clear hL hB hbx hf hru
    go_wp2_with fail
    go_loopw [16] (fun x wr => ∃ k : Nat, k ≤ T.beats.length ∧ x = .int .i64 k ∧ Hid (atM 123 (firstB (badBeat T) k (T.beats.drop k)) = r) ∧ Hid (Below W.heap.size W wr)) (fun x _ => T.beats.length - (intOf x).toNat)
    case atStart => exact ⟨0, by omega, rfl, HO, hide (Below.refl _ _)⟩
    case round =>
      clear HO c0 c1 c2 c3
      obtain ⟨k, hk, rfl, HK, HW⟩ := hrel
      have hbw : wr.heap[w.heap.size]? = some (.cells #[.int .i64 T.lits, .slice fa T.foes.length fc, .slice ra T.rules.length rc, .slice ba T.beats.length bc] 27 (0, 0)) := (HW.out.block _ (loc_lt HX.out)).trans HX.out
      obtain ⟨-, c0, c1, c2, c3⟩ := Bt.of hbw
      have hLw := TR.go HW.out HL.out
      have HBW := hide (HB.out.trans (HW.out.mono HB.out.size))
      clear hbw
      by_cases hlt : k < T.beats.length
      · obtain ⟨l, hl⟩ := get_at hlt
        have HLW := hide hLw
        obtain ⟨g, of, a2, d2, rfl, -, kc, hc2, hll, hI⟩ := at_L hLw.beats hl
        have CR := hide (rising_any (c := d2) hI.at1 hll T.rules.length)
        have HY := hide (first_yes (p := badBeat T) hl)
        have HN := hide (first_no (p := badBeat T) hl)
        have HGet := hide hl
        have HW2 := hide (fun (X : World) (hX : Below wr.heap.size wr X) => HW.out.trans (hX.mono HW.out.size))
        have HBX := hide (fun (X : World) (hX : Below wr.heap.size wr X) => HBW.out.trans (hX.mono HBW.out.size))
        clear hl hI hLw
        cases hri : risesM l T.rules.length with
        | false =>
          have HE : Hid ((123, (k : Int)) = r) := hide (by have := HK.out; rw [HY.out (by simp [badBeat, hri])] at this; exact this)
          rw [hri] at CR
          clear HK HY HN hri
          go_wp2_with (go_at_call 61; refine CR.out.mono ?_; rintro _ w1 ⟨rfl, hw⟩; subst w1)
          go_ret2
          exact ⟨ret_dup HE.out, HBW.out⟩
        | true =>
          have hmem : ∀ f ∈ l, 0 ≤ f ∧ f < (T.rules.length : Int) := fun f hf => by
            have := (rises_iff.1 hri).1 f hf
            omega
          have CT := hide (allFoes_any HLW.out HF.out HRU.out HGet.out (by omega) hmem)
          rw [hri] at CR
          cases hre : (l.all fun b => decide (headOf T b ∈ row T.foes (headOf T k))) with
          | false =>
            have HE : Hid ((123, (k : Int)) = r) := hide (by have := HK.out; rw [HY.out (by unfold badBeat; rw [hre]; simp)] at this; exact this)
            rw [hre] at CT
            clear HK HY HN hri hmem hre
            go_wp2_with (first | (go_at_call 61; refine CR.out.mono ?_; rintro _ w1 ⟨rfl, hw⟩; subst w1) | (go_at_call 65; refine CT.out.mono ?_; rintro _ w1 ⟨rfl, hw1⟩; have HX1 := hide (HBX.out w1 hw1); clear hw1))
            go_ret2
            exact ⟨ret_dup HE.out, HX1.out⟩
          | true =>
            have HE : Hid (atM 123 (firstB (badBeat T) (k + 1) (T.beats.drop (k + 1))) = r) := hide (by have := HK.out; rw [HN.out (by unfold badBeat; rw [hre, hri]; rfl)] at this; exact this)
            rw [hre] at CT
            clear HK HY HN hri hmem hre
            go_wp2_with (first | (go_at_call 61; refine CR.out.mono ?_; rintro _ w1 ⟨rfl, hw⟩; subst w1) | (go_at_call 65; refine CT.out.mono ?_; rintro _ w1 ⟨rfl, hw1⟩; have HX1 := hide (HW2.out w1 hw1); clear hw1))
            go_roundw
            case rel => exact ⟨k + 1, by omega, by go_num, HE, HX1⟩
            case measure => simp [intOf]; omega
      · have HE : Hid ((0, 0) = r) := hide (by have := HK.out; rw [drop_end (by omega)] at this; exact this)
        go_wp2_with fail
        go_ret2
        exact ⟨ret_dup HE.out, HBW.out⟩
end Go.Proofs.Ytdmnoeooljofcaa
