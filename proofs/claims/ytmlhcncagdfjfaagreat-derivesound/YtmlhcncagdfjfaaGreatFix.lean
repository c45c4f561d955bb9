import Derived.Test.YtmlhcncagdfjfaaGreatFoe
namespace Go.Proofs.YtmlhcncagdfjfaaGreat
open Go.RowKit
theorem qS (z : Value) (n : Nat) : madeCells #[z] n = Array.replicate n z := by
 apply Array.ext
 ·simp [madeCells]
 intro i h1 h2
 simp [madeCells, Nat.mod_one]
theorem nj {P : Program} (w : World) {ops : Array Oper} {rest : List Oper} {o : Oper} {a : Act} {Q : Exit → Act → World → Prop}
    (hg : o.guard = none) (l c : Operand) (t : TypeId) (hop : o.op = Op.makeSlice t l c) (e : TypeId) (i : TypeInfo) (z : Value) (h1 : P.underlying t = some (.slice e)) (h2 : P.info? e = some i) (h3 : i.zero = some z) (h4 : i.size = 1) (h5 : z.cells = #[z])
    (L C : Int) (n : Nat) (hl : a.eval l = .int .i64 L) (hc : a.eval c = .int .i64 C) (hL : L = (n : Int)) (hC : C = (n : Int)) (b2 : i.bytes * n ≤ 281474976710656) (b3 : n ≤ maxLen)
    (hK : wpList P ops Q rest (a.put o.dst (.slice (some ⟨w.heap.size, 0, none⟩) n n)) (w.alloc (.cells (Array.replicate n z) e))) :
    wpList P ops Q (o :: rest) a w := by
 refine wpList_plain hg fun K hK' => ?_
 have hb' : (i.bytes : Int) * (n : Int) ≤ 281474976710656 := by
  have h : ((i.bytes * n : Nat) : Int) ≤ 281474976710656 := by omega
  rwa [Int.natCast_mul] at h
 have h63' : (n : Int) ≤ 9223372036854775807 := by
  have h := b3
  simp [maxLen] at h
  omega
 have Aa := run_make (P := P) w t e i z h1 h2 h3 .i64 .i64 n n (by omega) (Int.le_refl _) hb' h63'
 rw [h4, Nat.mul_one, h5, qS] at Aa
 subst hL
 subst hC
 unfold Oper.wp
 simp [execOp, hop, hl, hc, Aa, Result.andThen]
 exact hK' _ _ hK
def Fx (g T : Nat) (vs : List Value) (w : World) : Prop := w.heap[g]? = some (.cells vs.toArray T (0, 0))
section
variable {g T i : Nat} {vs : List Value} {w w' : World} {v : Value}
theorem Fx.get (h : Fx g T vs w) (hi : vs[i]? = some v) : w.cell? ⟨g, i, none⟩ = some v := by
 rw [cell_of_row w g i _ _ _ h]
 simpa using hi
theorem Fx.frz (h : Fx g T vs w) (i : Nat) : w.frozen? ⟨g, i, none⟩ = false := frozen_of_row w g i _ _ h
theorem Fx.set (h : Fx g T vs w) (i : Nat) (v : Value) : Fx g T (vs.set i v) (w.setCell ⟨g, i, none⟩ v) := by
 unfold Fx
 rw [xB h, List.setIfInBounds_toArray]
theorem Fx.keep (h : Fx g T vs w) (hb : w'.heap[g]? = w.heap[g]?) : Fx g T vs w' := hb.trans h
theorem Fx.lt (h : Fx g T vs w) : g < w.heap.size := aD h
end
theorem mn {l : List Int} {i : Nat} {z : Int} : (aq l).set i (.int .i64 z) = aq (l.set i z) := by unfold aq; rw [List.map_set]
theorem pj {l : List Bool} {i : Nat} {z : Bool} : (ew l).set i (.bool z) = ew (l.set i z) := by unfold ew; rw [List.map_set]
theorem mI {n : Nat} : Array.replicate n (.int .i64 0) = (aq (List.replicate n 0)).toArray := by unfold aq; simp
theorem pv {n : Nat} : Array.replicate n (.bool false) = (ew (List.replicate n false)).toArray := by unfold ew; simp
theorem other_set {w : World} {g i k : Nat} {v : Value} (h : k ≠ g) : (w.setCell ⟨g, i, none⟩ v).heap[k]? = w.heap[k]? := heap_setCell_other w ⟨g, i, none⟩ k v h
def nh (C : List Int) (z : Int) : List Int := C.set z.toNat (C.getD z.toNat 0 + 1)
def dM (n : Nat) (rs : List RuleM) : List Int := rs.foldl (fun C r => nh C r.head) (List.replicate n 0)
theorem tB {n : Nat} {rs : List RuleM} {k : Nat} {x : RuleM} (h : rs[k]? = some x) : dM n (rs.take (k + 1)) = nh (dM n (rs.take k)) x.head := by
 unfold dM
 rw [bD h, List.foldl_append]
 rfl
theorem tR {C : List Int} {z : Int} : (nh C z).length = C.length := by unfold nh; simp
theorem pY : ∀ {rs : List RuleM} {C : List Int}, (rs.foldl (fun C r => nh C r.head) C).length = C.length
 | [], C => rfl
 | r :: rs, C => by rw [List.foldl_cons, pY, tR]
theorem qY {n : Nat} {rs : List RuleM} : (dM n rs).length = n := by unfold dM; rw [pY]; simp
theorem oq {z : Nat} : ∀ {rs : List RuleM} {C : List Int}, z < C.length → (∀ r ∈ rs, 0 ≤ r.head) → (rs.foldl (fun C r => nh C r.head) C).getD z 0 = C.getD z 0 + ((rs.filter fun r => decide (r.head = (z : Int))).length : Nat)
 | [], C, _, _ => by simp
 | r :: rs, C, hz, h => by
  rw [List.foldl_cons, oq (by rw [tR]; exact hz) fun r hr => h r (by simp [hr]), List.filter_cons]
  have hr := h r (by simp)
  unfold nh
  by_cases e : r.head = (z : Int)
  ·have e2 : r.head.toNat = z := by omega
   rw [if_pos (by simpa using e), e2]
   have : (C.set z (C.getD z 0 + 1)).getD z 0 = C.getD z 0 + 1 := by simp [List.getD, hz]
   rw [this, List.length_cons]
   omega
  have e2 : r.head.toNat ≠ z := by omega
  rw [if_neg (by simpa using e)]
  have : (C.set r.head.toNat (C.getD r.head.toNat 0 + 1)).getD z 0 = C.getD z 0 := by simp [List.getD, List.getElem?_set_ne e2]
  rw [this]
theorem yc {T : Th} {n z : Nat} (hz : z < n) (h : ∀ r ∈ T.rules, 0 ≤ r.head) : (dM n T.rules).getD z 0 = (cntM T z : Nat) := by
 unfold dM
 rw [oq (by simpa using hz) h]
 have : (List.replicate n (0 : Int)).getD z 0 = 0 := by simp [List.getD, hz]
 rw [this]
 unfold cntM
 omega
theorem xM {n z : Nat} {rs : List RuleM} (hz : z < n) (h : ∀ r ∈ rs, 0 ≤ r.head) : 0 ≤ (dM n rs).getD z 0 ∧ (dM n rs).getD z 0 ≤ rs.length := by
 unfold dM
 rw [oq (by simpa using hz) h]
 have : (List.replicate n (0 : Int)).getD z 0 = 0 := by simp [List.getD, hz]
 rw [this]
 have := List.length_filter_le (fun r : RuleM => decide (r.head = (z : Int))) rs
 omega
theorem lC {T : Th} {z : Int} : cntM T z ≤ T.rules.length := List.length_filter_le _ _
theorem lS {T : Th} {i : Nat} (hr : T.rules.length ≤ 4096) : ∀ {l : List Int}, dH T i l ≤ l.length * 16777216
 | [] => by simp [dH]
 | f :: r => by
  have h1 : cntM T i ≤ 4096 := Nat.le_trans lC hr
  have h2 : cntM T f ≤ 4096 := Nat.le_trans lC hr
  have := Nat.mul_le_mul h1 h2
  have := lS hr (i := i) (l := r)
  unfold dH
  simp only [List.length_cons]
  omega
theorem kz {T : Th} (hr : T.rules.length ≤ 4096) : ∀ {F : List (List Int)} {i : Nat}, (∀ l ∈ F, l.length ≤ 64) → cj T i F ≤ F.length * 1073741824
 | [], i, _ => by simp [cj]
 | l :: F, i, h => by
  have h1 := h l (by simp)
  have := lS hr (i := i) (l := l)
  have := kz hr (F := F) (i := i + 1) fun l hl => h l (by simp [hl])
  unfold cj
  simp only [List.length_cons]
  omega
set_option maxRecDepth 100000
set_option maxHeartbeats 12800000
structure Pq (w : World) (v0 v1 v2 v3 : Value) (C : List Int) (wr : World) : Prop where
 low : Below w.heap.size w wr
 bx : wr.heap[w.heap.size]? = some (.cells #[v0, v1, v2, v3] 25 (0, 0))
 fx : Fx (w.heap.size + 1) 3 (aq C) wr
section
variable {w wr wd : World} {v0 v1 v2 v3 : Value} {C : List Int}
theorem Pq.call (h : Pq w v0 v1 v2 v3 C wr) (hb : Below wr.heap.size wr wd) : Pq w v0 v1 v2 v3 C wd := ⟨h.low.trans (hb.mono h.low.size), (hb.block _ (aD h.bx)).trans h.bx, h.fx.keep (hb.block _ h.fx.lt)⟩
theorem Pq.set (h : Pq w v0 v1 v2 v3 C wr) (i : Nat) (z : Int) : Pq w v0 v1 v2 v3 (C.set i z) (wr.setCell ⟨w.heap.size + 1, i, none⟩ (.int .i64 z)) :=
 ⟨h.low.setCell (p := ⟨w.heap.size + 1, i, none⟩) (by show w.heap.size ≤ w.heap.size + 1; omega) _, (other_set (by omega)).trans h.bx, by rw [← mn]; exact h.fx.set i _⟩
end
theorem rn {w : World} {T : Th} {fa ra ba : Option Addr} {fc rc bc : Nat} (h : TA w.heap.size w T fa fc ra rc ba bc) (h0 : 0 ≤ T.lits) (h1 : T.lits ≤ 4096) (hf : (gh T).1 = 0) (hru : (dL T).1 = 0) :
    Calls Tryz.prog 105 #[tv T fa fc ra rc ba bc] w fun e w' => e = .returned (.int .i64 (pairsM T : Nat)) ∧ Below w.heap.size w w' := by
 obtain ⟨iI, Aq, Ap, An, Am⟩ := info_parts gB
 obtain ⟨f1, f2⟩ := qQ hf
 obtain ⟨r1, r2⟩ := lI hru
 have Ae : ∀ r ∈ T.rules, 0 ≤ r.head := fun r hr => (r2 r hr).2.2.1
 have Aj : ∀ l ∈ T.foes, l.length ≤ 64 := fun l hl => by
  obtain ⟨i, hi, rfl⟩ := List.mem_iff_getElem.1 hl
  exact (f2 i _ (List.getElem?_eq_getElem hi)).1
 have Ah : Hid (pairsM T ≤ T.foes.length * 1073741824) := hide (kz r1 Aj)
 obtain ⟨P, hP⟩ : ∃ P, pairsM T = P := ⟨_, rfl⟩
 rw [hP] at Ah ⊢
 have HP : Hid (0 + cj T 0 (T.foes.drop 0) = P) := hide (by rw [List.drop_zero, Nat.zero_add]; exact hP)
 obtain ⟨n, hn⟩ := Int.eq_ofNat_of_zero_le h0
 have Ay : n ≤ T.foes.length := by omega
 have Ax : T.foes.length ≤ n := by omega
 have AG : n ≤ 4096 := by omega
 have Aa := hide hn
 have hB := ae w (.cells #[.int .i64 T.lits, .slice fa T.foes.length fc, .slice ra T.rules.length rc, .slice ba T.beats.length bc] 25)
 have hX := heap_alloc_new w (.cells #[.int .i64 T.lits, .slice fa T.foes.length fc, .slice ra T.rules.length rc, .slice ba T.beats.length bc] 25)
 have Ac : Hid (Pq w (.int .i64 T.lits) (.slice fa T.foes.length fc) (.slice ra T.rules.length rc) (.slice ba T.beats.length bc) (dM n (T.rules.take 0)) ((w.alloc (.cells #[.int .i64 T.lits, .slice fa T.foes.length fc, .slice ra T.rules.length rc, .slice ba T.beats.length bc] 25)).alloc (.cells (Array.replicate n (.int .i64 0)) 3))) := hide (by
  refine ⟨hB.alloc hB.size _, (Below.heap_alloc _ _ _ (by simp)).trans hX, ?_⟩
  have e := heap_alloc_new (w.alloc (.cells #[.int .i64 T.lits, .slice fa T.foes.length fc, .slice ra T.rules.length rc, .slice ba T.beats.length bc] 25)) (.cells (Array.replicate n (.int .i64 0)) 3)
  have e2 : dM n (T.rules.take 0) = List.replicate n 0 := by simp [dM]
  unfold Fx
  rw [e2, ← mI]
  simpa using e)
 have Av : (w.alloc (.cells #[.int .i64 T.lits, .slice fa T.foes.length fc, .slice ra T.rules.length rc, .slice ba T.beats.length bc] 25)).cell? ⟨w.heap.size, 0, none⟩ = some (.int .i64 T.lits) := cell_of_row _ _ 0 _ _ _ hX
 have HH := hide h
 have Aw := hide f2
 have Ar := hide r2
 have HPos := hide Ae
 have AJ := hide f1
 have AI := h.rules.lim
 have AM := h.foes.lim
 clear h hf hru f1 f2 r2 hP Ae Aj hX hB hn h0 h1
 go_enter Tryz.func105, Tryz.ntmps105
 go_upto_region 1 with fail
 generalize hW : w.alloc (.cells #[.int .i64 T.lits, .slice fa T.foes.length fc, .slice ra T.rules.length rc, .slice ba T.beats.length bc] 25) = W at *
 have Ai : W.heap.size = w.heap.size + 1 := by rw [← hW]; simp
 have HWs := hide Ai
 clear hW Ai
 go_upto_region 2 with (at_make; go_must (refine nj _ rfl _ _ 26 rfl 3 iI _ Tryz.underlying26 Aq Ap An rfl _ _ n rfl rfl Aa.out Aa.out (by rw [Am]; omega) (by unfold maxLen; omega) ?_))
 rw [HWs.out]
 generalize W.alloc (.cells (Array.replicate n (.int .i64 0)) 3) = W1 at *
 clear HWs Av
 obtain ⟨-, c0, c1, c2, c3⟩ := Bt.of Ac.out.bx
 go_wp2_with fail
 clear c0 c1 c2 c3
 go_loopw [17] (fun x wr => ∃ k : Nat, k ≤ T.rules.length ∧ x = .int .i64 k ∧ Hid (Pq w (.int .i64 T.lits) (.slice fa T.foes.length fc) (.slice ra T.rules.length rc) (.slice ba T.beats.length bc) (dM n (T.rules.take k)) wr)) (fun x _ => T.rules.length - (intOf x).toNat)
 case atStart => exact ⟨0, by omega, rfl, Ac⟩
 clear Ac
 obtain ⟨k, hk, rfl, PQ⟩ := hrel
 by_cases hlt : k < T.rules.length
 ·obtain ⟨x, hx⟩ := am hlt
  obtain ⟨g, of, a2, d2, rfl, -, k0, k1, k2, -, -, -⟩ := dG (HH.out.rules.keep PQ.out.low.block) hx
  have hA := ae wr (.cells #[.int .i64 x.kind, .int .i64 x.head, .slice a2 x.body.length d2] 114)
  have Ad := heap_alloc_new wr (.cells #[.int .i64 x.kind, .int .i64 x.head, .slice a2 x.body.length d2] 114)
  have PA := hide (PQ.out.call hA)
  obtain ⟨-, -, At, AH, -, -⟩ := Ar.out x (List.mem_of_getElem? hx)
  obtain ⟨m, hm⟩ := Int.eq_ofNat_of_zero_le At
  have HS := hide (tB (n := n) hx)
  have Ab := xM (n := n) (z := m) (rs := T.rules.take k) (by have := Aa.out; omega) (fun r hr => HPos.out r (List.mem_of_mem_take hr))
  rw [List.length_take] at Ab
  have AD : m < n := by have := Aa.out; omega
  have HI := hide (cJ (l := dM n (T.rules.take k)) (i := m) (by rw [qY]; have := Aa.out; omega))
  have HU : Hid (nh (dM n (T.rules.take k)) x.head = (dM n (T.rules.take k)).set m ((dM n (T.rules.take k)).getD m 0 + 1)) := hide (by unfold nh; rw [show x.head.toNat = m by omega])
  rw [hm] at k1 Ad hA PA
  clear hx hA
  generalize x.head = hd at *
  subst hd
  go_upto_region 5 with fail
  generalize wr.alloc (.cells #[.int .i64 x.kind, .int .i64 m, .slice a2 x.body.length d2] 114) = W2 at *
  have r1' := cell_of_row W2 _ 1 _ _ _ Ad
  simp only [List.getElem?_toArray, List.getElem?_cons_zero, List.getElem?_cons_succ] at r1'
  generalize hC : (dM n (T.rules.take k)).getD m 0 = cv at *
  have AA : 0 ≤ cv := Ab.1
  have Az : cv ≤ 4096 := by have := Ab.2; omega
  have Af := PA.out.fx.get HI.out
  have AF := PA.out.fx.frz m
  have PS := hide (PA.out.set m (cv + 1))
  rw [← HU.out, ← HS.out] at PS
  clear Ad k0 k1 k2 PQ PA HI HU HS hC
  go_wp2_with fail
  go_roundw
  case rel => exact ⟨k + 1, by omega, by go_num, PS⟩
  case measure => simp [intOf]; omega
 have Ak : k = T.rules.length := by omega
 rw [Ak, List.take_length] at PQ
 clear Ak
 obtain ⟨-, c0, c1, c2, c3⟩ := Bt.of PQ.out.bx
 have HL := hide (HH.out.foes.keep PQ.out.low.block)
 have HLow := hide PQ.out.low
 have HCell : Hid (∀ z : Nat, z < n → wr.cell? ⟨w.heap.size + 1, z, none⟩ = some (.int .i64 (cntM T z : Nat))) := hide fun z hz => by
  have := PQ.out.fx.get (cJ (l := dM n T.rules) (i := z) (by rw [qY]; omega))
  rw [yc hz HPos.out] at this
  exact this
 clear PQ HH
 go_wp2_with fail
 go_loop [6, 31] (fun y x => ∃ (k s : Nat), k ≤ n ∧ x = .int .i64 k ∧ y = .int .i64 s ∧ Hid (s + cj T k (T.foes.drop k) = P)) (fun _ x => n - (intOf x).toNat)
 case atStart => exact ⟨0, 0, by omega, rfl, rfl, HP⟩
 clear HP
 rename_i k9
 clear hlt hk
 obtain ⟨k, s, hk, rfl, rfl, HK⟩ := hrel
 by_cases hlt : k < n
 ·obtain ⟨l, hl⟩ := am (l := T.foes) (i := k) (by omega)
  obtain ⟨g, of, a2, d2, rfl, -, kc, AC, AK, hI⟩ := bH HL.out hl
  have Af := HCell.out k hlt
  have Au := hide hI.at1
  obtain ⟨-, Ag, -, -⟩ := Aw.out k l hl
  have HMem : Hid (∀ f ∈ l, 0 ≤ f ∧ f < (n : Int)) := hide fun f hf => by have := (fH.1 Ag).1 f hf; have := Aa.out; omega
  have HSt : Hid (s + (dH T k (l.drop 0) + cj T (k + 1) (T.foes.drop (k + 1))) = P) := hide (by have := HK.out; rw [aM hl] at this; rw [List.drop_zero]; exact this)
  have As : cntM T k ≤ 4096 := Nat.le_trans lC r1
  clear hl hI Ag HK
  generalize hA : cntM T k = A at *
  have HA := hide hA
  clear hA
  go_wp2_with fail
  go_loop [6, 42] (fun y x => ∃ (j s2 : Nat), j ≤ l.length ∧ x = .int .i64 j ∧ y = .int .i64 s2 ∧ Hid (s2 + (dH T k (l.drop j) + cj T (k + 1) (T.foes.drop (k + 1))) = P)) (fun _ x => l.length - (intOf x).toNat)
  case atStart => exact ⟨0, s, by omega, rfl, rfl, HSt⟩
  clear HSt
  obtain ⟨j, s2, hj, rfl, rfl, HJ⟩ := hrel
  by_cases hlj : j < l.length
  ·obtain ⟨x, hx⟩ := am hlj
   obtain ⟨g3, o3, rfl, AO⟩ := Au.out.get hx
   obtain ⟨Al, AP⟩ := HMem.out x (List.mem_of_getElem? hx)
   obtain ⟨m, rfl⟩ := Int.eq_ofNat_of_zero_le Al
   have AB := HCell.out m (by omega)
   have Ao : cntM T m ≤ 4096 := Nat.le_trans lC r1
   have HN : Hid (s2 + A * cntM T m + (dH T k (l.drop (j + 1)) + cj T (k + 1) (T.foes.drop (k + 1))) = P) := hide (by
    have := HJ.out
    rw [aM hx, dH, HA.out] at this
    omega)
   clear hx Al HJ
   generalize cntM T (m : Int) = B at *
   obtain ⟨M, hM⟩ : ∃ M, A * B = M := ⟨_, rfl⟩
   have AE : (A : Int) * (B : Int) = (M : Int) := by rw [← hM]; simp
   have AN : M ≤ 16777216 := by rw [← hM]; exact Nat.mul_le_mul As Ao
   have AL : s2 + M ≤ 4398046511104 := by have h1 := HN.out; have h2 := Ah.out; rw [hM] at h1; omega
   rw [hM] at HN
   clear hM
   go_wp2_with fail
   go_round
   case rel => exact ⟨j + 1, s2 + M, by omega, by go_num, by go_num, HN⟩
   case measure => simp [intOf]; omega
  have HN : Hid (s2 + cj T (k + 1) (T.foes.drop (k + 1)) = P) := hide (by have := HJ.out; rw [bV (by omega)] at this; simpa [dH] using this)
  clear HJ
  go_wp2_with fail
  go_round
  case rel => exact ⟨k + 1, s2, by omega, by go_num, rfl, HN⟩
  case measure => simp [intOf]; omega
 have HN : Hid (s = P) := hide (by have := HK.out; rw [bV (by omega)] at this; simpa [cj] using this)
 clear HK
 go_wp2_with fail
 go_ret
 exact ⟨by rw [HN.out]; rfl, HLow.out⟩
set_option maxRecDepth 100000
set_option maxHeartbeats 12800000
theorem pC {w : World} {T : Th} {fa ra ba : Option Addr} {fc rc bc : Nat} (h : TA w.heap.size w T fa fc ra rc ba bc) (h0 : 0 ≤ T.lits) (h1 : T.lits ≤ 4096) (hf : (gh T).1 = 0) (hru : (dL T).1 = 0) :
    Calls Tryz.prog 73 #[tv T fa fc ra rc ba bc] w fun e w' => e = .returned (iN (gC T)) ∧ Below w.heap.size w w' := by
 have hB := ae w (.cells #[.int .i64 T.lits, .slice fa T.foes.length fc, .slice ra T.rules.length rc, .slice ba T.beats.length bc] 25)
 have hX := heap_alloc_new w (.cells #[.int .i64 T.lits, .slice fa T.foes.length fc, .slice ra T.rules.length rc, .slice ba T.beats.length bc] 25)
 have CP := hide (rn (TR.go hB h) h0 h1 hf hru)
 obtain ⟨r, hr⟩ : ∃ r, gC T = r := ⟨_, rfl⟩
 rw [hr]
 unfold gC at hr
 have HB := hide hB
 generalize pairsM T = P at *
 clear h hf hru hB h0 h1
 go_enter Tryz.func73, Tryz.ntmps73
 go_upto_region 1 with fail
 generalize w.alloc (.cells #[.int .i64 T.lits, .slice fa T.foes.length fc, .slice ra T.rules.length rc, .slice ba T.beats.length bc] 25) = W at *
 obtain ⟨-, c0, c1, c2, c3⟩ := Bt.of hX
 clear hX
 by_cases hp : 65536 < P
 ·rw [if_pos hp] at hr
  have HR := hide hr
  clear hr
  go_wp2_with (go_at_call 105; refine CP.out.mono ?_; rintro _ w1 ⟨rfl, Aa⟩; have Ab := hide (HB.out.trans (Aa.mono HB.out.size)); clear Aa)
  go_ret2
  exact ⟨aU HR.out, Ab.out⟩
 rw [if_neg hp] at hr
 have HR := hide hr
 clear hr
 go_wp2_with (go_at_call 105; refine CP.out.mono ?_; rintro _ w1 ⟨rfl, Aa⟩; have Ab := hide (HB.out.trans (Aa.mono HB.out.size)); clear Aa)
 go_ret2
 exact ⟨aU HR.out, Ab.out⟩
theorem rX {T : Th} {z : Int} {x : RuleM} (h : T.rules[z.toNat]? = some x) : aj T z = x.head := by unfold aj; rw [h]; rfl
theorem ri {w : World} {T : Th} {fa ra ba : Option Addr} {fc rc bc i : Nat} {l : List Int} (h : TA w.heap.size w T fa fc ra rc ba bc) (hf : (gh T).1 = 0) (hru : (dL T).1 = 0) (hi : T.beats[i]? = some l) (hir : i < T.rules.length) (hr : ∀ f ∈ l, 0 ≤ f ∧ f < (T.rules.length : Int)) :
    Calls Tryz.prog 106 #[tv T fa fc ra rc ba bc, .int .i64 i] w fun e w' => e = .returned (.bool (l.all fun b => decide (aj T b ∈ row T.foes (aj T i)))) ∧ Below w.heap.size w w' := by
 obtain ⟨f1, f2⟩ := qQ hf
 obtain ⟨r1, r2⟩ := lI hru
 have hB := ae w (.cells #[.int .i64 T.lits, .slice fa T.foes.length fc, .slice ra T.rules.length rc, .slice ba T.beats.length bc] 25)
 have hX := heap_alloc_new w (.cells #[.int .i64 T.lits, .slice fa T.foes.length fc, .slice ra T.rules.length rc, .slice ba T.beats.length bc] 25)
 have hL := TR.go hB h
 have Ax := h.foes.lim
 have Au := h.rules.lim
 have Aq := h.beats.lim
 have At : i < T.beats.length := (List.getElem?_eq_some_iff.1 hi).1
 obtain ⟨x, hx⟩ := am hir
 obtain ⟨-, -, Ah, Al, -, -⟩ := r2 x (List.mem_of_getElem? hx)
 obtain ⟨m, hm⟩ := Int.eq_ofNat_of_zero_le Ah
 have Am : m < T.foes.length := by omega
 obtain ⟨fl, Aa⟩ := am Am
 have Ac : aj T (i : Int) = m := by rw [rX (x := x) (by simpa using hx), hm]
 have Ad : row T.foes (m : Int) = fl := bn (by simpa using Aa)
 rw [Ac, Ad]
 have Ab := (fH.1 (f2 m fl Aa).2.1).2
 obtain ⟨o, ho⟩ : ∃ o, (l.all fun b => decide (aj T b ∈ fl)) = o := ⟨_, rfl⟩
 rw [ho]
 have HO : Hid ((l.drop 0).all (fun b => decide (aj T b ∈ fl)) = o) := hide (by rw [List.drop_zero]; exact ho)
 clear h ho f2 Ac Ad f1
 go_enter Tryz.func106, Tryz.ntmps106
 go_upto_region 1 with fail
 generalize w.alloc (.cells #[.int .i64 T.lits, .slice fa T.foes.length fc, .slice ra T.rules.length rc, .slice ba T.beats.length bc] 25) = W at *
 obtain ⟨-, c0, c1, c2, c3⟩ := Bt.of hX
 obtain ⟨g1, o1, a1, d1, rfl, -, k1, -, Aj, Ai⟩ := bH hL.foes Aa
 obtain ⟨g2, o2, a2, d2, rfl, -, Ar, An, Aw, -, -, -⟩ := dG hL.rules hx
 obtain ⟨g3, o3, a3, d3, rfl, -, k3, -, Av, Af⟩ := bH hL.beats hi
 rw [hm] at An
 have CS := hide (fun (t : Int) (q : Nat) => jS (w := W.drewN q) (c := d1) (Ai.at1.below (ah W q)) Aj Ab t)
 have Ao := hide Af.at1
 have HRu := hide hL.rules
 have HB := hide hB
 have HR := hide hr
 have As := hide r2
 clear hL hB hX hi hr Ai Af hx Ah Al hm Aa Ab r2
 go_wp2_with fail
 go_quiet (fail)
 go_wp2_with fail
 go_loopw [26] (fun z wr => ∃ (k q : Nat), k ≤ l.length ∧ z = .int .i64 k ∧ wr = W.drewN q ∧ Hid ((l.drop k).all (fun b => decide (aj T b ∈ fl)) = o)) (fun z _ => l.length - (intOf z).toNat)
 case atStart => exact ⟨0, _, by omega, rfl, rfl, HO⟩
 clear HO
 obtain ⟨k, q, hk, rfl, rfl, HK⟩ := hrel
 by_cases hlt : k < l.length
 ·obtain ⟨y, hy⟩ := am hlt
  obtain ⟨g4, o4, rfl, Ap⟩ := Ao.out.get hy
  obtain ⟨Ag, Ak⟩ := HR.out y (List.mem_of_getElem? hy)
  obtain ⟨p, rfl⟩ := Int.eq_ofNat_of_zero_le Ag
  have hp : p < T.rules.length := by omega
  obtain ⟨x2, Ae⟩ := am hp
  obtain ⟨_, _, a5, d5, e5, -, j0, j1, j2, -, -, -⟩ := dG HRu.out Ae
  cases e5
  have CC := hide (CS.out x2.head q)
  have HS : Hid ((l.drop k).all (fun b => decide (aj T b ∈ fl)) = (decide (x2.head ∈ fl) && (l.drop (k + 1)).all (fun b => decide (aj T b ∈ fl)))) := hide (by rw [qV hy, rX (x := x2) (by simpa using Ae)])
  clear hy Ae Ag Ak
  by_cases hin : x2.head ∈ fl
  ·have HN : Hid ((l.drop (k + 1)).all (fun b => decide (aj T b ∈ fl)) = o) := hide (by have := HK.out; rw [HS.out, decide_eq_true hin, Bool.true_and] at this; exact this)
   have CD : Hid (Calls Tryz.prog 140 #[.slice a1 fl.length d1, .int .i64 x2.head] (W.drewN q) fun e w' => ∃ z : Int, e = .returned (.tuple #[.int .i64 z, .bool true]) ∧ w' = W.drewN q) := hide (CC.out.mono fun e w' ⟨⟨z, hz⟩, hw⟩ => ⟨z, by rw [hz, decide_eq_true hin], hw⟩)
   clear HK HS CC hin
   go_wp2_with (go_at_call 140; refine CD.out.mono ?_; rintro _ w1 ⟨z1, rfl, hw⟩; subst w1)
   go_roundw
   case rel => exact ⟨k + 1, q, by omega, by go_num, rfl, HN⟩
   case measure => simp [intOf]; omega
  have HN : Hid (false = o) := hide (by have := HK.out; rw [HS.out, decide_eq_false hin, Bool.false_and] at this; exact this)
  have CD : Hid (Calls Tryz.prog 140 #[.slice a1 fl.length d1, .int .i64 x2.head] (W.drewN q) fun e w' => ∃ z : Int, e = .returned (.tuple #[.int .i64 z, .bool false]) ∧ w' = W.drewN q) := hide (CC.out.mono fun e w' ⟨⟨z, hz⟩, hw⟩ => ⟨z, by rw [hz, decide_eq_false hin], hw⟩)
  clear HK HS CC hin
  go_wp2_with (go_at_call 140; refine CD.out.mono ?_; rintro _ w1 ⟨z1, rfl, hw⟩; subst w1)
  go_ret
  exact ⟨bC HN.out, HB.out.trans ((ah W q).mono HB.out.size)⟩
 have HN : Hid (true = o) := hide (by have := HK.out; rw [bV (by omega)] at this; exact this)
 go_wp2_with fail
 go_ret
 exact ⟨bC HN.out, HB.out.trans ((ah W q).mono HB.out.size)⟩
theorem pF {w : World} {T : Th} {fa ra ba : Option Addr} {fc rc bc : Nat} (h : TA w.heap.size w T fa fc ra rc ba bc) (hf : (gh T).1 = 0) (hru : (dL T).1 = 0) :
    Calls Tryz.prog 74 #[tv T fa fc ra rc ba bc] w fun e w' => e = .returned (iN (dY T)) ∧ Below w.heap.size w w' := by
 have hB := ae w (.cells #[.int .i64 T.lits, .slice fa T.foes.length fc, .slice ra T.rules.length rc, .slice ba T.beats.length bc] 25)
 have hL := TR.go hB h
 have hX := Bt.new w (.int .i64 T.lits) (.slice fa T.foes.length fc) (.slice ra T.rules.length rc) (.slice ba T.beats.length bc)
 have At := h.rules.lim
 have Aq := h.beats.lim
 obtain ⟨r, hr⟩ : ∃ r, dY T = r := ⟨_, rfl⟩
 rw [hr]
 unfold dY at hr
 clear h
 by_cases hne : T.beats.length ≠ T.rules.length
 ·rw [if_pos hne] at hr
  have HR := hide hr
  have Al : ((T.beats.length : Int) != T.rules.length) = true := by simp; omega
  have Ao : ¬ T.beats.length = T.rules.length := hne
  clear hr hne
  have HB := hide hB
  clear hB hL
  go_enter Tryz.func74, Tryz.ntmps74
  go_upto_region 1 with fail
  generalize w.alloc (.cells #[.int .i64 T.lits, .slice fa T.foes.length fc, .slice ra T.rules.length rc, .slice ba T.beats.length bc] 25) = W at *
  obtain ⟨-, c0, c1, c2, c3⟩ := hX
  go_wp2_with fail
  go_ret2
  exact ⟨aU HR.out, HB.out⟩
 rw [if_neg hne] at hr
 have Ah : T.beats.length = T.rules.length := Decidable.byContradiction hne
 have HO : Hid (iY 123 (bQ (em T) 0 (T.beats.drop 0)) = r) := hide (by rw [List.drop_zero]; exact hr)
 have As : T.beats.length ≤ T.rules.length := by omega
 have Ap : T.rules.length ≤ T.beats.length := by omega
 have Al : ((T.beats.length : Int) != T.rules.length) = false := by simp; omega
 clear hr hne Ah
 go_enter Tryz.func74, Tryz.ntmps74
 go_upto_region 1 with fail
 generalize w.alloc (.cells #[.int .i64 T.lits, .slice fa T.foes.length fc, .slice ra T.rules.length rc, .slice ba T.beats.length bc] 25) = W at *
 obtain ⟨Af, c0, c1, c2, c3⟩ := hX
 have HL := hide hL
 have HB := hide hB
 have HX := hide Af
 have HF := hide hf
 have Aj := hide hru
 clear hL hB Af hf hru
 go_wp2_with fail
 go_loopw [16] (fun x wr => ∃ k : Nat, k ≤ T.beats.length ∧ x = .int .i64 k ∧ Hid (iY 123 (bQ (em T) k (T.beats.drop k)) = r) ∧ Hid (Below W.heap.size W wr)) (fun x _ => T.beats.length - (intOf x).toNat)
 case atStart => exact ⟨0, by omega, rfl, HO, hide (Below.refl _ _)⟩
 clear HO c0 c1 c2 c3
 obtain ⟨k, hk, rfl, HK, HW⟩ := hrel
 have Ag : wr.heap[w.heap.size]? = some (.cells #[.int .i64 T.lits, .slice fa T.foes.length fc, .slice ra T.rules.length rc, .slice ba T.beats.length bc] 25 (0, 0)) := (HW.out.block _ (aD HX.out)).trans HX.out
 obtain ⟨-, c0, c1, c2, c3⟩ := Bt.of Ag
 have Ae := TR.go HW.out HL.out
 have Ac := hide (HB.out.trans (HW.out.mono HB.out.size))
 clear Ag
 by_cases hlt : k < T.beats.length
 ·obtain ⟨l, hl⟩ := am hlt
  have Ai := hide Ae
  obtain ⟨g, of, a2, d2, rfl, -, kc, Ar, Ak, hI⟩ := bH Ae.beats hl
  have CR := hide (fN (c := d2) hI.at1 Ak T.rules.length)
  have HY := hide (kX (p := em T) hl)
  have HN := hide (mg (p := em T) hl)
  have HGet := hide hl
  have Am := hide (fun (X : World) (hX : Below wr.heap.size wr X) => HW.out.trans (hX.mono HW.out.size))
  have An := hide (fun (X : World) (hX : Below wr.heap.size wr X) => Ac.out.trans (hX.mono Ac.out.size))
  clear hl hI Ae
  cases hri : bP l T.rules.length with
  | false =>
   have HE : Hid ((123, (k : Int)) = r) := hide (by have := HK.out; rw [HY.out (by simp [em, hri])] at this; exact this)
   rw [hri] at CR
   clear HK HY HN hri
   go_wp2_with (go_at_call 101; refine CR.out.mono ?_; rintro _ w1 ⟨rfl, hw⟩; subst w1)
   go_ret2
   exact ⟨aU HE.out, Ac.out⟩
  | true =>
   have Ab : ∀ f ∈ l, 0 ≤ f ∧ f < (T.rules.length : Int) := fun f hf => by
    have := (fH.1 hri).1 f hf
    omega
   have CT := hide (ri Ai.out HF.out Aj.out HGet.out (by omega) Ab)
   rw [hri] at CR
   cases hre : (l.all fun b => decide (aj T b ∈ row T.foes (aj T k))) with
   | false =>
    have HE : Hid ((123, (k : Int)) = r) := hide (by have := HK.out; rw [HY.out (by unfold em; rw [hre]; simp)] at this; exact this)
    rw [hre] at CT
    clear HK HY HN hri Ab hre
    go_wp2_with (first | (go_at_call 101; refine CR.out.mono ?_; rintro _ w1 ⟨rfl, hw⟩; subst w1) | (go_at_call 106; refine CT.out.mono ?_; rintro _ w1 ⟨rfl, Aa⟩; have Ad := hide (An.out w1 Aa); clear Aa))
    go_ret2
    exact ⟨aU HE.out, Ad.out⟩
   | true =>
    have HE : Hid (iY 123 (bQ (em T) (k + 1) (T.beats.drop (k + 1))) = r) := hide (by have := HK.out; rw [HN.out (by unfold em; rw [hre, hri]; rfl)] at this; exact this)
    rw [hre] at CT
    clear HK HY HN hri Ab hre
    go_wp2_with (first | (go_at_call 101; refine CR.out.mono ?_; rintro _ w1 ⟨rfl, hw⟩; subst w1) | (go_at_call 106; refine CT.out.mono ?_; rintro _ w1 ⟨rfl, Aa⟩; have Ad := hide (Am.out w1 Aa); clear Aa))
    go_roundw
    case rel => exact ⟨k + 1, by omega, by go_num, HE, Ad⟩
    case measure => simp [intOf]; omega
 have HE : Hid ((0, 0) = r) := hide (by have := HK.out; rw [bV (by omega)] at this; exact this)
 go_wp2_with fail
 go_ret2
 exact ⟨aU HE.out, Ac.out⟩
end Go.Proofs.YtmlhcncagdfjfaaGreat
