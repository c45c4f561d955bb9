/- A text's statute: Parse. -/
import Derived.Test.YthnjmfkiohgkkaaGreatDoorText5
import Derived.Test.YthnjmfkiohgkkaaGreatDoorBound5
import Derived.Recover
import Derived.Test.YthnjmfkiohgkkaaGreatDoorRowT
import Derived.Laws.Pointers
namespace Go.Proofs.YthnjmfkiohgkkaaGreatDoor.Sy
open Go.RowKit

set_option maxRecDepth 100000 in
set_option maxHeartbeats 1600000 in
theorem faultOf_any (c p : Int) (w : World) : Calls Tryz.prog 21 #[.iface 58 (.agg #[.int .i64 c, .int .i64 p])] w fun e w' => e = .returned (.agg #[.int .i64 c, .int .i64 p]) ∧ Below w.heap.size w w' := by
  have hta : ∀ w : World, (Instr.typeAssert (.iface 58 (.agg #[.int .i64 c, .int .i64 p])) 20 58 true).run Tryz.prog w = .ok (.tuple #[.agg #[.int .i64 c, .int .i64 p], .bool true]) w := fun w => by kernel_rfl
  go_enter Tryz.func21, Tryz.ntmps21
  go_wp2_with fail
  simp [bodyPost, results, Tryz.results21, go_sem]
  exact ((Below.refl _ w).alloc (Nat.le_refl _) _).alloc (by simp) _

theorem row9 {w : World} {q T : Nat} {a0 a1 a2 a3 a4 a5 a6 a7 a8 : Value} (h : w.heap[q]? = some (.cells #[a0, a1, a2, a3, a4, a5, a6, a7, a8] T (0, 0))) : w.cell? ⟨q, 0, none⟩ = some a0 ∧ w.cell? ⟨q, 1, none⟩ = some a1 ∧ w.cell? ⟨q, 2, none⟩ = some a2 ∧ w.cell? ⟨q, 3, none⟩ = some a3 ∧ w.cell? ⟨q, 4, none⟩ = some a4 ∧
    w.cell? ⟨q, 5, none⟩ = some a5 ∧ w.cell? ⟨q, 6, none⟩ = some a6 ∧ w.cell? ⟨q, 7, none⟩ = some a7 ∧ w.cell? ⟨q, 8, none⟩ = some a8 ∧ ∀ i, w.frozen? ⟨q, i, none⟩ = false :=
  ⟨cell_of_row w q 0 _ T _ h, cell_of_row w q 1 _ T _ h, cell_of_row w q 2 _ T _ h, cell_of_row w q 3 _ T _ h, cell_of_row w q 4 _ T _ h, cell_of_row w q 5 _ T _ h, cell_of_row w q 6 _ T _ h, cell_of_row w q 7 _ T _ h, cell_of_row w q 8 _ T _ h, fun i => frozen_of_row w q i _ T h⟩
theorem row1 {w : World} {q T : Nat} {a0 : Value} (h : w.heap[q]? = some (.cells #[a0] T (0, 0))) : w.cell? ⟨q, 0, none⟩ = some a0 ∧ ∀ i, w.frozen? ⟨q, i, none⟩ = false :=
  ⟨cell_of_row w q 0 _ T _ h, fun i => frozen_of_row w q i _ T h⟩

/-- Nine cells are written. -/
theorem nine_set {W : World} {q T : Nat} {y0 y1 y2 y3 y4 y5 y6 y7 y8 v0 v1 v2 v3 v4 v5 v6 v7 v8 : Value} (h : W.heap[q]? = some (.cells #[y0, y1, y2, y3, y4, y5, y6, y7, y8] T (0, 0))) : ((((((((((W.setCell ⟨q, 0, none⟩ (v0)).setCell ⟨q, 1, none⟩ (v1)).setCell ⟨q, 2, none⟩ (v2)).setCell ⟨q, 3, none⟩ (v3)).setCell ⟨q, 4, none⟩ (v4)).setCell ⟨q, 5, none⟩ (v5)).setCell ⟨q, 6, none⟩ (v6)).setCell ⟨q, 7, none⟩ (v7)).setCell ⟨q, 8, none⟩ (v8))).heap[q]? = some (.cells #[v0, v1, v2, v3, v4, v5, v6, v7, v8] T (0, 0)) := by
  have s0 := loc_set (i := 0) (v := v0) h
  have s1 := loc_set (i := 1) (v := v1) s0
  have s2 := loc_set (i := 2) (v := v2) s1
  have s3 := loc_set (i := 3) (v := v3) s2
  have s4 := loc_set (i := 4) (v := v4) s3
  have s5 := loc_set (i := 5) (v := v5) s4
  have s6 := loc_set (i := 6) (v := v6) s5
  have s7 := loc_set (i := 7) (v := v7) s6
  have s8 := loc_set (i := 8) (v := v8) s7
  simp only [List.setIfInBounds_toArray, List.set_cons_zero, List.set_cons_succ] at s8
  exact s8
theorem nine_other {W : World} {q k : Nat} {v0 v1 v2 v3 v4 v5 v6 v7 v8 : Value} (hk : k ≠ q) : ((((((((((W.setCell ⟨q, 0, none⟩ (v0)).setCell ⟨q, 1, none⟩ (v1)).setCell ⟨q, 2, none⟩ (v2)).setCell ⟨q, 3, none⟩ (v3)).setCell ⟨q, 4, none⟩ (v4)).setCell ⟨q, 5, none⟩ (v5)).setCell ⟨q, 6, none⟩ (v6)).setCell ⟨q, 7, none⟩ (v7)).setCell ⟨q, 8, none⟩ (v8))).heap[k]? = W.heap[k]? := by
  rw [heap_setCell_other _ _ k _ (by exact hk), heap_setCell_other _ _ k _ (by exact hk), heap_setCell_other _ _ k _ (by exact hk), heap_setCell_other _ _ k _ (by exact hk), heap_setCell_other _ _ k _ (by exact hk), heap_setCell_other _ _ k _ (by exact hk), heap_setCell_other _ _ k _ (by exact hk), heap_setCell_other _ _ k _ (by exact hk), heap_setCell_other _ _ k _ (by exact hk)]

theorem set_os (w : World) (a : Addr) (v : Value) : (w.setCell a v).os = w.os := rfl
theorem set_tape (w : World) (a : Addr) (v : Value) : (w.setCell a v).tape = w.tape := rfl
theorem set_output (w : World) (a : Addr) (v : Value) : (w.setCell a v).output = w.output := rfl

/-- The nine cells of no statute. -/
def st0 : St9 := ⟨.string ⟨#[]⟩, .slice none 0 0, .slice none 0 0, .slice none 0 0, .slice none 0 0, .slice none 0 0, .slice none 0 0, .slice none 0 0, .slice none 0 0⟩

/-- What the three variables hold, and what stays. -/
structure Laid (v0 v1 v2 v3 v4 v5 v6 v7 v8 : Value) (q0 q1 q2 : Nat) (e p : Int) (w w' : World) : Prop where
  b0 : w'.heap[q0]? = some (.cells #[v0, v1, v2, v3, v4, v5, v6, v7, v8] 31 (0, 0))
  b1 : w'.heap[q1]? = some (.cells #[.int .i64 e] 32 (0, 0))
  b2 : w'.heap[q2]? = some (.cells #[.int .i64 p] 3 (0, 0))
  os : w'.os = w.os
  tape : w'.tape = w.tape
  output : w'.output = w.output
  size : w.heap.size ≤ w'.heap.size
  block : ∀ k, k < w.heap.size → k ≠ q0 → k ≠ q1 → k ≠ q2 → w'.heap[k]? = w.heap[k]?

theorem Laid.drew {v0 v1 v2 v3 v4 v5 v6 v7 v8 : Value} {q0 q1 q2 : Nat} {e p : Int} {w w' : World} (h : Laid v0 v1 v2 v3 v4 v5 v6 v7 v8 q0 q1 q2 e p w w') : Laid v0 v1 v2 v3 v4 v5 v6 v7 v8 q0 q1 q2 e p w w'.drew := ⟨h.b0, h.b1, h.b2, h.os, h.tape, h.output, h.size, h.block⟩

theorem Laid.of {v0 v1 v2 v3 v4 v5 v6 v7 v8 : Value} {q0 q1 q2 : Nat} {e p : Int} {w W : World} {x1 x2 y0 y1 y2 y3 y4 y5 y6 y7 y8 : Value} (hb : Below w.heap.size w W) (h0 : W.heap[q0]? = some (.cells #[y0, y1, y2, y3, y4, y5, y6, y7, y8] 31 (0, 0))) (h1 : W.heap[q1]? = some (.cells #[x1] 32 (0, 0))) (h2 : W.heap[q2]? = some (.cells #[x2] 3 (0, 0)))
    (h01 : q0 ≠ q1) (h02 : q0 ≠ q2) (h12 : q1 ≠ q2) {W9 : World} (hW9 : W9 = (((((((((W.setCell ⟨q0, 0, none⟩ v0).setCell ⟨q0, 1, none⟩ v1).setCell ⟨q0, 2, none⟩ v2).setCell ⟨q0, 3, none⟩ v3).setCell ⟨q0, 4, none⟩ v4).setCell ⟨q0, 5, none⟩ v5).setCell ⟨q0, 6, none⟩ v6).setCell ⟨q0, 7, none⟩ v7).setCell ⟨q0, 8, none⟩ v8)) : Laid v0 v1 v2 v3 v4 v5 v6 v7 v8 q0 q1 q2 e p w ((W9.setCell ⟨q1, 0, none⟩ (.int .i64 e)).setCell ⟨q2, 0, none⟩ (.int .i64 p)) := by
  have A0 : W9.heap[q0]? = some (.cells #[v0, v1, v2, v3, v4, v5, v6, v7, v8] 31 (0, 0)) := by rw [hW9]; exact nine_set h0
  have AK : ∀ k, k ≠ q0 → W9.heap[k]? = W.heap[k]? := fun k hk => by rw [hW9]; exact nine_other hk
  have AS : W9.heap.size = W.heap.size := by rw [hW9]; simp
  have AO : W9.os = W.os ∧ W9.tape = W.tape ∧ W9.output = W.output := by rw [hW9]; simp only [set_os, set_tape, set_output, and_self]
  clear hW9
  have A1 := (AK q1 h01.symm).trans h1
  have A2 := (AK q2 h02.symm).trans h2
  have B1 := loc_set (i := 0) (v := .int .i64 e) A1
  have B2 := loc_set (i := 0) (v := .int .i64 p) (loc_other (p := ⟨q1, 0, none⟩) (v := .int .i64 e) A2 h12.symm)
  simp only [List.setIfInBounds_toArray, List.set_cons_zero] at B1 B2
  exact ⟨loc_other (loc_other A0 h01) h02, loc_other B1 h12, B2, by rw [set_os, set_os]; exact AO.1.trans hb.os, by rw [set_tape, set_tape]; exact AO.2.1.trans hb.tape, by rw [set_output, set_output]; exact AO.2.2.trans hb.output, by have := hb.size; simp; omega, fun k hk k0 k1 k2 => by
    rw [heap_setCell_other _ _ k _ (by exact k2), heap_setCell_other _ _ k _ (by exact k1), AK k k0, hb.block k hk]⟩

set_option maxRecDepth 100000 in
set_option maxHeartbeats 1600000 in
theorem catch_idle (a b c : Value) (w : World) : CallsD Tryz.prog 20 #[a, b, c] .returning w fun e u' w' => e = .returned (.tuple #[]) ∧ u' = .returning ∧ w' = w := by
  refine callsD_of_wpS Tryz.func20 rfl fun c₀ cs hu => ?_
  apply wpS_seq
  apply wpS_region
  simp [wpOpsS, go_sem, recoverD, hu, Tryz.ntmps20, Exit.thenS]
  apply wpS_of_wp
  go_wp2_with fail
  cases c₀
  simp_all [bodyPostS, results, Tryz.results20]

set_option maxRecDepth 100000 in
set_option maxHeartbeats 1600000 in
theorem catch_fault (q0 q1 q2 : Nat) (e p : Int) (older : List PanicEntry) (w : World) (x1 x2 y0 y1 y2 y3 y4 y5 y6 y7 y8 : Value) (h0 : w.heap[q0]? = some (.cells #[y0, y1, y2, y3, y4, y5, y6, y7, y8] 31 (0, 0))) (h1 : w.heap[q1]? = some (.cells #[x1] 32 (0, 0))) (h2 : w.heap[q2]? = some (.cells #[x2] 3 (0, 0))) (h01 : q0 ≠ q1) (h02 : q0 ≠ q2) (h12 : q1 ≠ q2) :
    CallsD Tryz.prog 20 #[.pointer (some ⟨q0, 0, none⟩), .pointer (some ⟨q1, 0, none⟩), .pointer (some ⟨q2, 0, none⟩)] (.panicking ({ v := .iface 58 (.agg #[.int .i64 e, .int .i64 p]), recovered := false } :: older)) w fun r u' w' =>
      r = .returned (.tuple #[]) ∧ u' = .panicking ({ v := .iface 58 (.agg #[.int .i64 e, .int .i64 p]), recovered := true } :: older) ∧
      Laid (.string ⟨#[]⟩) (.slice none 0 0) (.slice none 0 0) (.slice none 0 0) (.slice none 0 0) (.slice none 0 0) (.slice none 0 0) (.slice none 0 0) (.slice none 0 0) q0 q1 q2 e p w w' := by
  have H0 := hide h0
  have H1 := hide h1
  have H2 := hide h2
  have CF := hide (faultOf_any e p w)
  clear h0 h1 h2
  refine callsD_of_wpS Tryz.func20 rfl fun c₀ cs hu => ?_
  apply wpS_seq
  apply wpS_region
  have hrep : (Array.replicate 12 undef : Array Value) = #[undef, undef, undef, undef, undef, undef, undef, undef, undef, undef, undef, undef] := rfl
  simp [wpOpsS, go_sem, recoverD, hu, Tryz.ntmps20, Exit.thenS, hrep]
  clear hrep
  apply wpS_of_wp
  go_wp2_with fail
  refine CF.out.mono ?_
  rintro _ w1 ⟨rfl, hb⟩
  have B := (Below.refl w1.heap.size w1).alloc (Nat.le_refl _) (.cells #[.int .i64 e, .int .i64 p] 58)
  have L0 := (B.block _ (Nat.lt_of_lt_of_le (loc_lt H0.out) hb.size)).trans ((hb.block _ (loc_lt H0.out)).trans H0.out)
  have L1 := (B.block _ (Nat.lt_of_lt_of_le (loc_lt H1.out) hb.size)).trans ((hb.block _ (loc_lt H1.out)).trans H1.out)
  have L2 := (B.block _ (Nat.lt_of_lt_of_le (loc_lt H2.out) hb.size)).trans ((hb.block _ (loc_lt H2.out)).trans H2.out)
  have HB := hide hb
  have HL0 := hide L0
  have HL1 := hide L1
  have HL2 := hide L2
  obtain ⟨z0, z1, z2, z3, z4, z5, z6, z7, z8, z9⟩ := row9 L0
  obtain ⟨u0, u1⟩ := row1 L1
  obtain ⟨t0, t1⟩ := row1 L2
  have h10 := h01.symm
  have h20 := h02.symm
  have h21 := h12.symm
  have LN := heap_alloc_new w1 (.cells #[.int .i64 e, .int .i64 p] 58)
  obtain ⟨v0, v1, v2⟩ := row2 LN
  have n0 : q0 ≠ w1.heap.size := Nat.ne_of_lt (Nat.lt_of_lt_of_le (loc_lt H0.out) hb.size)
  have n1 : q1 ≠ w1.heap.size := Nat.ne_of_lt (Nat.lt_of_lt_of_le (loc_lt H1.out) hb.size)
  have n2 : q2 ≠ w1.heap.size := Nat.ne_of_lt (Nat.lt_of_lt_of_le (loc_lt H2.out) hb.size)
  have n0' := n0.symm
  have n1' := n1.symm
  have n2' := n2.symm
  have HBW := hide (hb.trans (B.mono hb.size))
  clear hb L0 L1 L2 LN B
  go_wp2_with fail
  generalize w1.alloc (.cells #[.int .i64 e, .int .i64 p] 58) = W at *
  go_region
  go_wp2_with fail
  exact ⟨rfl, _, rfl, .tuple #[], by simp [results, Tryz.results20], rfl, rfl, Laid.drew (Laid.of HBW.out HL0.out HL1.out HL2.out h01 h02 h12 rfl)⟩

/-- What Parse answers. -/
noncomputable def parseM (l : Bytes) : StatM × Int × Nat :=
  if (lexT l).err = 0 then
    match textM FN (kt (lexT l).tk) ⟨0, false, false⟩ with
    | .ok S _ => (S, 0, l.length)
    | .bad c n => (StatM.none, c, placeAt (lexT l).tk l.length n)
  else (StatM.none, (lexT l).err, (lexT l).place)

theorem SRep.none (R : Nat) (w : World) : SRep R w st0 StatM.none :=
  ⟨rfl, Rows.nil _ _ _ _ _, Rows.nil _ _ _ _ _, Rows.nil _ _ _ _ _, Rows.nil _ _ _ _ _, Rows.nil _ _ _ _ _, Rows.nil _ _ _ _ _, Rows.nil _ _ _ _ _, Rows.nil _ _ _ _ _⟩

/-- A statute's value. -/
def St9.agg (st : St9) : Value := .agg #[st.title, st.kinds, st.members, st.preds, st.classes, st.sources, st.rules, st.excepts, st.totals]

theorem own_tokRow {R B : Nat} {w : World} {v : Value} {tk : List Tok} (h : w.ownsRow B 50 3 v tk.length (cellsT tk)) (hR : w.heap.size ≤ R) : ∃ a c, v = .slice a tk.length c ∧ TokRow R w a tk := by
  have hsz : ∀ g, v.ownBlock = some g → g < w.heap.size := fun g hg => (h.lt g hg).2
  obtain ⟨a, c, rfl, hrow⟩ := own_rowT h
  refine ⟨a, c, rfl, fun j t hj => ?_⟩
  obtain ⟨b, o, rfl, h1, h2, h3⟩ := hrow j t hj
  have ho : o = 0 := by
    rcases h.2 with ⟨h4, h5⟩ | ⟨g, cap, cur, h4, _⟩
    · cases h4
    · cases h4; rfl
  subst ho
  rw [Nat.zero_add] at h1 h2 h3
  exact ⟨b, rfl, Nat.lt_of_lt_of_le (hsz b rfl) hR, h1, h2, h3⟩

theorem Laid.below {v0 v1 v2 v3 v4 v5 v6 v7 v8 : Value} {B : Nat} {e p : Int} {w0 w w' : World} (h : Laid v0 v1 v2 v3 v4 v5 v6 v7 v8 B (B + 1) (B + 1 + 1) e p w w') (hb : Below B w0 w) (hq : B = w0.heap.size) : Below B w0 w' :=
  ⟨h.os.trans hb.os, h.tape.trans hb.tape, h.output.trans hb.output, Nat.le_trans hb.size h.size, fun k hk => (h.block k (by have := hb.size; omega) (by omega) (by omega) (by omega)).trans (hb.block k hk)⟩

theorem Vars.up {B R : Nat} {w w' : World} (h : Vars B w) (hB : B ≤ R) (hk : ∀ k, k < B → w'.heap[k]? = w.heap[k]?) : Vars R w' := by
  obtain ⟨e1, e2, h1, h2, h3, h4⟩ := h
  exact ⟨e1, e2, (World.cell?_of_block (hk 1 (by omega))).trans h1, (World.cell?_of_block (hk 2 (by omega))).trans h2, by omega, h4⟩

theorem rows_form3 {α : Type} {Z : Nat → Prop} {e k : Nat} {c : World → α → List Value → Prop} {w : World} {l : List α} {v : Value} (h : Rows Z e k c w l v) : ∃ a n c, v = .slice a n c := by
  obtain ⟨a, c, e⟩ := rows_form h
  exact ⟨a, _, c, e⟩

/-- The three variables of Parse, made. -/
theorem three_new (w : World) (o0 o1 o2 : Obj) : (((w.alloc o0).alloc o1).alloc o2).heap[w.heap.size]? = some o0 ∧ (((w.alloc o0).alloc o1).alloc o2).heap[w.heap.size + 1]? = some o1 ∧ (((w.alloc o0).alloc o1).alloc o2).heap[w.heap.size + 1 + 1]? = some o2 ∧
    Below w.heap.size w (((w.alloc o0).alloc o1).alloc o2) ∧ (((w.alloc o0).alloc o1).alloc o2).heap.size = w.heap.size + 3 := by
  refine ⟨?_, ?_, ?_, (((Below.refl _ w).alloc (Nat.le_refl _) _).alloc (by simp) _).alloc (by simp; omega) _, by simp⟩
  · rw [Go.heap_alloc_old _ _ (by simp; omega), Go.heap_alloc_old _ _ (by simp)]; exact heap_alloc_new w _
  · rw [Go.heap_alloc_old _ _ (by simp)]
    have := heap_alloc_new (w.alloc o0) o1
    simpa using this
  · have := heap_alloc_new ((w.alloc o0).alloc o1) o2
    simpa using this

set_option maxRecDepth 100000 in
set_option maxHeartbeats 1600000 in
theorem parse_any (sB : ByteArray) (w : World) (hV : Vars w.heap.size w) :
    Calls Tryz.prog 8 #[.string sB] w fun e w' => ∃ R st, e = .returned (.tuple #[St9.agg st, .int .i64 (parseM sB.data.toList).2.1, .int .i64 (parseM sB.data.toList).2.2]) ∧ w.heap.size ≤ R ∧ SRep R w' st (parseM sB.data.toList).1 ∧ Below w.heap.size w w' := by
  have hsl : sB.data.toList.length = sB.size := by simp
  have hmf : ∀ (fn : Fn) (first cap : Array Value) (w : World), (Instr.makeFunc fn first cap).run Tryz.prog w = .ok (.func fn first cap) w := fun _ _ _ _ => rfl
  have HA := hide (lexT_all sB.data.toList)
  have HPL := hide (fun h => lexT_place (s := sB.data.toList) h)
  obtain ⟨P, hP⟩ : ∃ P, P = parseM sB.data.toList := ⟨_, rfl⟩
  rw [← hP]
  unfold parseM at hP
  have CT := hide (fun w => tokens_any sB w)
  generalize hZ : lexT sB.data.toList = Z at *
  have HV := hide hV
  have HW := hide (three_new w (.cells #[.string ⟨#[]⟩, .slice none 0 0, .slice none 0 0, .slice none 0 0, .slice none 0 0, .slice none 0 0, .slice none 0 0, .slice none 0 0, .slice none 0 0] 31) (.cells #[.int .i64 0] 32) (.cells #[.int .i64 0] 3))
  clear hV
  have m0 : w.heap.size ≠ w.heap.size + 1 := by omega
  have m1 : w.heap.size ≠ w.heap.size + 1 + 1 := by omega
  have m2 : w.heap.size + 1 ≠ w.heap.size + 1 + 1 := by omega
  have m3 := m0.symm
  have m4 := m1.symm
  have m5 := m2.symm
  by_cases he : Z.err = 0
  · rw [if_pos he] at hP
    have hlen := (HPL.out he).2.1
    rw [he] at CT
    clear hZ HPL he
    go_enter_defers Tryz.func8, Tryz.ntmps8
    go_wp2_with fail
    refine (CT.out _).mono ?_
    rintro _ w1 ⟨tv, rfl, hown, hb⟩
    obtain ⟨ta, tc, rfl, htok⟩ := own_tokRow (R := w1.heap.size) hown (Nat.le_refl _)
    have hsz := HW.out.2.2.2.2
    have hbs := hb.size
    have hBW := HW.out.2.2.2.1.trans (hb.mono (by omega))
    have L0 := (hb.block w.heap.size (by omega)).trans HW.out.1
    have L1 := (hb.block (w.heap.size + 1) (by omega)).trans HW.out.2.1
    have L2 := (hb.block (w.heap.size + 1 + 1) (by omega)).trans HW.out.2.2.1
    obtain ⟨u0, u1⟩ := row1 L1
    obtain ⟨t0, t1⟩ := row1 L2
    have P0 := loc_other (p := ⟨w.heap.size + 1 + 1, 0, none⟩) (v := .int .i64 (Z.place : Nat)) (loc_other (p := ⟨w.heap.size + 1, 0, none⟩) (v := .int .i64 0) L0 m0) m1
    have P1 := loc_other (p := ⟨w.heap.size + 1 + 1, 0, none⟩) (v := .int .i64 (Z.place : Nat)) (loc_set (i := 0) (v := .int .i64 0) L1) m2
    have P2 := loc_set (i := 0) (v := .int .i64 (Z.place : Nat)) (loc_other (p := ⟨w.heap.size + 1, 0, none⟩) (v := .int .i64 0) L2 m5)
    have PB := (hBW.setCell (p := ⟨w.heap.size + 1, 0, none⟩) (by simp) (.int .i64 0)).setCell (p := ⟨w.heap.size + 1 + 1, 0, none⟩) (by show w.heap.size ≤ w.heap.size + 1 + 1; omega) (.int .i64 (Z.place : Nat))
    have htok2 : TokRow w1.heap.size ((w1.setCell ⟨w.heap.size + 1, 0, none⟩ (.int .i64 0)).setCell ⟨w.heap.size + 1 + 1, 0, none⟩ (.int .i64 (Z.place : Nat))) ta Z.tk := by
      intro j t hj
      obtain ⟨b, ha, hlt, h1, h2, h3⟩ := htok j t hj
      have hbn : w.heap.size + 3 ≤ b := by
        rw [ha] at hown
        have := (hown.lt b rfl).1
        omega
      have hbk : ((w1.setCell ⟨w.heap.size + 1, 0, none⟩ (.int .i64 0)).setCell ⟨w.heap.size + 1 + 1, 0, none⟩ (.int .i64 (Z.place : Nat))).heap[b]? = w1.heap[b]? := by
        rw [heap_setCell_other _ _ b _ (by show b ≠ w.heap.size + 1 + 1; omega), heap_setCell_other _ _ b _ (by show b ≠ w.heap.size + 1; omega)]
      exact ⟨b, ha, hlt, (World.cell?_of_block hbk).trans h1, (World.cell?_of_block hbk).trans h2, (World.cell?_of_block hbk).trans h3⟩
    have hs2 : ((w1.setCell ⟨w.heap.size + 1, 0, none⟩ (.int .i64 0)).setCell ⟨w.heap.size + 1 + 1, 0, none⟩ (.int .i64 (Z.place : Nat))).heap.size = w1.heap.size := by simp
    clear htok hown hb L0 L1 L2 hBW CT HW
    have hRB : w.heap.size + 3 ≤ w1.heap.size := by omega
    have BA := (Below.refl w1.heap.size ((w1.setCell ⟨w.heap.size + 1, 0, none⟩ (.int .i64 0)).setCell ⟨w.heap.size + 1 + 1, 0, none⟩ (.int .i64 (Z.place : Nat)))).alloc (by rw [hs2]; exact Nat.le_refl _) (.cells #[.slice ta Z.tk.length tc, .int .i64 0, .int .i64 sB.size, .bool false, .bool false, .string ⟨#[]⟩, .slice none 0 0, .slice none 0 0, .slice none 0 0, .slice none 0 0, .slice none 0 0, .slice none 0 0, .slice none 0 0, .slice none 0 0] 62)
    have hnew := heap_alloc_new ((w1.setCell ⟨w.heap.size + 1, 0, none⟩ (.int .i64 0)).setCell ⟨w.heap.size + 1 + 1, 0, none⟩ (.int .i64 (Z.place : Nat))) (.cells #[.slice ta Z.tk.length tc, .int .i64 0, .int .i64 sB.size, .bool false, .bool false, .string ⟨#[]⟩, .slice none 0 0, .slice none 0 0, .slice none 0 0, .slice none 0 0, .slice none 0 0, .slice none 0 0, .slice none 0 0, .slice none 0 0] 62)
    rw [hs2] at hnew
    have hRd : Rd w1.heap.size Z.tk sB.size ⟨0, false, false⟩ st0 (((w1.setCell ⟨w.heap.size + 1, 0, none⟩ (.int .i64 0)).setCell ⟨w.heap.size + 1 + 1, 0, none⟩ (.int .i64 (Z.place : Nat))).alloc (.cells #[.slice ta Z.tk.length tc, .int .i64 0, .int .i64 sB.size, .bool false, .bool false, .string ⟨#[]⟩, .slice none 0 0, .slice none 0 0, .slice none 0 0, .slice none 0 0, .slice none 0 0, .slice none 0 0, .slice none 0 0, .slice none 0 0] 62)) :=
      ⟨loc_lt hnew, Nat.zero_le _, HA.out.1, by omega, ⟨ta, tc, hnew, htok2.keep fun k hk => BA.block k hk⟩, HV.out.up (by omega) fun k hk => (BA.block k (by omega)).trans (PB.block k hk), fun t ht => (HA.out.2.1 t ht).1⟩
    have Q0 := hide ((BA.block _ (by omega)).trans P0)
    have Q1 := hide ((BA.block _ (by omega)).trans P1)
    have Q2 := hide ((BA.block _ (by omega)).trans P2)
    have QB := hide (PB.trans (BA.mono (by omega)))
    have C5 := hide (text_any w1.heap.size Z.tk sB.size ⟨0, false, false⟩ st0 _ hRd (SRep.none _ _) _ rfl)
    have HRB := hide hRB
    have HP := hide hP
    have HSL := hide hsl
    have HLEN := hide hlen
    have HSZ := hide hs2
    clear htok2 hs2 hnew hRd BA P0 P1 P2 PB hRB hP hsz hbs hlen hsl
    go_wp2_with fail
    refine C5.out.mono ?_
    intro e w4 hE
    rcases hE.split with ⟨S, t, st, ho, rfl, hR, hS, hl, hF⟩ | ⟨c, n, ho, rfl, hF⟩
    · have hP := HP.out
      rw [ho] at hP
      subst hP
      obtain ⟨f0, f1, f2, f3, f4, f5, f6, f7, f8⟩ := st
      have e0 := hS.title
      simp only at e0
      subst e0
      obtain ⟨ka1, kn1, kc1, e1⟩ := rows_form3 hS.kinds
      simp only at e1
      subst e1
      obtain ⟨ka2, kn2, kc2, e2⟩ := rows_form3 hS.members
      simp only at e2
      subst e2
      obtain ⟨ka3, kn3, kc3, e3⟩ := rows_form3 hS.preds
      simp only at e3
      subst e3
      obtain ⟨ka4, kn4, kc4, e4⟩ := rows_form3 hS.classes
      simp only at e4
      subst e4
      obtain ⟨ka5, kn5, kc5, e5⟩ := rows_form3 hS.sources
      simp only at e5
      subst e5
      obtain ⟨ka6, kn6, kc6, e6⟩ := rows_form3 hS.rules
      simp only at e6
      subst e6
      obtain ⟨ka7, kn7, kc7, e7⟩ := rows_form3 hS.excepts
      simp only at e7
      subst e7
      obtain ⟨ka8, kn8, kc8, e8⟩ := rows_form3 hS.totals
      simp only at e8
      subst e8
      have d5 := hR.d5
      have d6 := hR.d6
      have d7 := hR.d7
      have d8 := hR.d8
      have d9 := hR.d9
      have d10 := hR.d10
      have d11 := hR.d11
      have d12 := hR.d12
      have d13 := hR.d13
      have L0 := (hF.block _ (by have := HRB.out; omega)).trans Q0.out
      have L1 := (hF.block _ (by have := HRB.out; omega)).trans Q1.out
      have L2 := (hF.block _ (by have := HRB.out; omega)).trans Q2.out
      obtain ⟨z0, z1, z2, z3, z4, z5, z6, z7, z8, z9⟩ := row9 L0
      obtain ⟨u2, u3⟩ := row1 L1
      obtain ⟨t2, t3⟩ := row1 L2
      have HS4 := hide hS
      have HL0 := hide L0
      have HL1 := hide L1
      have HL2 := hide L2
      have HBW : Hid (Below w.heap.size w w4) := hide ⟨hF.os.trans QB.out.os, hF.tape.trans QB.out.tape, hF.output.trans QB.out.output, Nat.le_trans QB.out.size hF.size, fun k hk => (hF.block k (by have := HRB.out; omega)).trans (QB.out.block k hk)⟩
      clear hE ho hR hS hl hF C5 Q0 Q1 Q2 QB L0 L1 L2 HP HA HV
      simp only at d5 d6 d7 d8 d9 d10 d11 d12 d13
      go_wp2_with fail
      have LD := Laid.of (v0 := .string ⟨S.title.toArray⟩) (v1 := .slice ka1 kn1 kc1) (v2 := .slice ka2 kn2 kc2) (v3 := .slice ka3 kn3 kc3) (v4 := .slice ka4 kn4 kc4) (v5 := .slice ka5 kn5 kc5) (v6 := .slice ka6 kn6 kc6) (v7 := .slice ka7 kn7 kc7) (v8 := .slice ka8 kn8 kc8) (e := 0) (p := sB.size) (Below.refl _ w4) HL0.out HL1.out HL2.out m0 m1 m2 rfl
      generalize (((((((((((w4.setCell ⟨w.heap.size, 0, none⟩ (.string ⟨S.title.toArray⟩)).setCell ⟨w.heap.size, 1, none⟩ (.slice ka1 kn1 kc1)).setCell ⟨w.heap.size, 2, none⟩ (.slice ka2 kn2 kc2)).setCell ⟨w.heap.size, 3, none⟩ (.slice ka3 kn3 kc3)).setCell ⟨w.heap.size, 4, none⟩ (.slice ka4 kn4 kc4)).setCell ⟨w.heap.size, 5, none⟩ (.slice ka5 kn5 kc5)).setCell ⟨w.heap.size, 6, none⟩ (.slice ka6 kn6 kc6)).setCell ⟨w.heap.size, 7, none⟩ (.slice ka7 kn7 kc7)).setCell ⟨w.heap.size, 8, none⟩ (.slice ka8 kn8 kc8)).setCell ⟨w.heap.size + 1, 0, none⟩ (.int .i64 0)).setCell ⟨w.heap.size + 1 + 1, 0, none⟩ (.int .i64 sB.size)) = W at *
      refine leaves_cons (f := 20) (args := #[.pointer (some ⟨w.heap.size, 0, none⟩), .pointer (some ⟨w.heap.size + 1, 0, none⟩), .pointer (some ⟨w.heap.size + 1 + 1, 0, none⟩)]) (by simp) (by simp [go_sem]) ?_
      refine (catch_idle _ _ _ _).mono ?_
      rintro e u' w5 ⟨rfl, rfl, rfl⟩
      have hz := And.intro (row9 LD.b0) (And.intro (row1 LD.b1) (row1 LD.b2))
      refine ⟨.tuple #[St9.agg ⟨.string ⟨S.title.toArray⟩, .slice ka1 kn1 kc1, .slice ka2 kn2 kc2, .slice ka3 kn3 kc3, .slice ka4 kn4 kc4, .slice ka5 kn5 kc5, .slice ka6 kn6 kc6, .slice ka7 kn7 kc7, .slice ka8 kn8 kc8⟩, .int .i64 0, .int .i64 sB.size], ?_, w1.heap.size, _, rfl, by have := HRB.out; omega, HS4.out.keep ?_, LD.below HBW.out rfl⟩
      · simp [results, Tryz.results8, go_sem, hz, St9.agg]
      · intro g cur t hg hcur _
        have hg' : w1.heap.size < g := hg
        have := HRB.out
        rw [LD.block g (loc_lt hcur) (by omega) (by omega) (by omega)]
        exact hcur
    · have hP := HP.out
      rw [ho] at hP
      subst hP
      have L0 := (hF.block _ (by have := HRB.out; omega)).trans Q0.out
      have L1 := (hF.block _ (by have := HRB.out; omega)).trans Q1.out
      have L2 := (hF.block _ (by have := HRB.out; omega)).trans Q2.out
      have HL0 := hide L0
      have HL1 := hide L1
      have HL2 := hide L2
      have HBW : Hid (Below w.heap.size w w4) := hide ⟨hF.os.trans QB.out.os, hF.tape.trans QB.out.tape, hF.output.trans QB.out.output, Nat.le_trans QB.out.size hF.size, fun k hk => (hF.block k (by have := HRB.out; omega)).trans (QB.out.block k hk)⟩
      clear hE ho hF C5 Q0 Q1 Q2 QB L0 L1 L2 HP HA HV
      go_wp2_with fail
      refine leaves_cons (f := 20) (args := #[.pointer (some ⟨w.heap.size, 0, none⟩), .pointer (some ⟨w.heap.size + 1, 0, none⟩), .pointer (some ⟨w.heap.size + 1 + 1, 0, none⟩)]) (by simp) (by simp [go_sem]) ?_
      refine (catch_fault _ _ _ _ _ _ _ _ _ _ _ _ _ _ _ _ _ _ HL0.out HL1.out HL2.out m0 m1 m2).mono ?_
      rintro e u' w5 ⟨rfl, rfl, LD⟩
      have hz := And.intro (row9 LD.b0) (And.intro (row1 LD.b1) (row1 LD.b2))
      refine ⟨.tuple #[St9.agg st0, .int .i64 c, .int .i64 (placeAt Z.tk sB.size n)], ?_, w.heap.size, st0, rfl, Nat.le_refl _, SRep.none _ _, LD.below HBW.out rfl⟩
      simp [results, Tryz.results8, go_sem, hz, St9.agg, st0]
  · rw [if_neg he] at hP
    have he' : ¬ ((Z.err : Nat) : Int) = 0 := by omega
    subst hP
    clear he hZ HPL
    simp only
    go_enter_defers Tryz.func8, Tryz.ntmps8
    go_wp2_with fail
    refine (CT.out _).mono ?_
    rintro _ w1 ⟨tv, rfl, hown, hb⟩
    have hsz := HW.out.2.2.2.2
    have hBW := HW.out.2.2.2.1.trans (hb.mono (by omega))
    have L0 := (hb.block w.heap.size (by omega)).trans HW.out.1
    have L1 := (hb.block (w.heap.size + 1) (by omega)).trans HW.out.2.1
    have L2 := (hb.block (w.heap.size + 1 + 1) (by omega)).trans HW.out.2.2.1
    obtain ⟨z0, z1, z2, z3, z4, z5, z6, z7, z8, z9⟩ := row9 L0
    obtain ⟨u0, u1⟩ := row1 L1
    obtain ⟨t0, t1⟩ := row1 L2
    have HBW := hide hBW
    have HL0 := hide L0
    have HL1 := hide L1
    have HL2 := hide L2
    clear hb hown hsz hBW L0 L1 L2 CT HW
    go_wp2_with fail
    go_region
    go_wp2_with fail
    have P0 := hide (loc_other (p := ⟨w.heap.size + 1 + 1, 0, none⟩) (v := .int .i64 (Z.place : Nat)) (loc_other (p := ⟨w.heap.size + 1, 0, none⟩) (v := .int .i64 (Z.err : Nat)) HL0.out m0) m1)
    have P1 := hide (loc_other (p := ⟨w.heap.size + 1 + 1, 0, none⟩) (v := .int .i64 (Z.place : Nat)) (loc_set (i := 0) (v := .int .i64 (Z.err : Nat)) HL1.out) m2)
    have P2 := hide (loc_set (i := 0) (v := .int .i64 (Z.place : Nat)) (loc_other (p := ⟨w.heap.size + 1, 0, none⟩) (v := .int .i64 (Z.err : Nat)) HL2.out m5))
    have PB := hide ((HBW.out.setCell (p := ⟨w.heap.size + 1, 0, none⟩) (by simp) (.int .i64 (Z.err : Nat))).setCell (p := ⟨w.heap.size + 1 + 1, 0, none⟩) (by show w.heap.size ≤ w.heap.size + 1 + 1; omega) (.int .i64 (Z.place : Nat)))
    clear HL0 HL1 HL2 HBW z0 z1 z2 z3 z4 z5 z6 z7 z8 z9 u0 u1 t0 t1
    generalize (w1.setCell ⟨w.heap.size + 1, 0, none⟩ (.int .i64 (Z.err : Nat))).setCell ⟨w.heap.size + 1 + 1, 0, none⟩ (.int .i64 (Z.place : Nat)) = w2 at *
    have LD := Laid.drew (Laid.of (v0 := .string ⟨#[]⟩) (v1 := .slice none 0 0) (v2 := .slice none 0 0) (v3 := .slice none 0 0) (v4 := .slice none 0 0) (v5 := .slice none 0 0) (v6 := .slice none 0 0) (v7 := .slice none 0 0) (v8 := .slice none 0 0) (e := (Z.err : Nat)) (p := (Z.place : Nat)) (Below.refl _ w2) P0.out P1.out P2.out m0 m1 m2 rfl)
    generalize (((((((((((w2.setCell ⟨w.heap.size, 0, none⟩ (.string ⟨#[]⟩)).setCell ⟨w.heap.size, 1, none⟩ (.slice none 0 0)).setCell ⟨w.heap.size, 2, none⟩ (.slice none 0 0)).setCell ⟨w.heap.size, 3, none⟩ (.slice none 0 0)).setCell ⟨w.heap.size, 4, none⟩ (.slice none 0 0)).setCell ⟨w.heap.size, 5, none⟩ (.slice none 0 0)).setCell ⟨w.heap.size, 6, none⟩ (.slice none 0 0)).setCell ⟨w.heap.size, 7, none⟩ (.slice none 0 0)).setCell ⟨w.heap.size, 8, none⟩ (.slice none 0 0)).setCell ⟨w.heap.size + 1, 0, none⟩ (.int .i64 (Z.err : Nat))).setCell ⟨w.heap.size + 1 + 1, 0, none⟩ (.int .i64 (Z.place : Nat))).drew = W at *
    have hz := And.intro (row9 LD.b0) (And.intro (row1 LD.b1) (row1 LD.b2))
    refine ⟨.tuple #[St9.agg st0, .int .i64 (Z.err : Nat), .int .i64 (Z.place : Nat)], ?_, w.heap.size, st0, rfl, Nat.le_refl _, SRep.none _ _, LD.below PB.out rfl⟩
    simp [results, Tryz.results8, go_sem, hz, St9.agg, st0]
end Go.Proofs.YthnjmfkiohgkkaaGreatDoor.Sy
