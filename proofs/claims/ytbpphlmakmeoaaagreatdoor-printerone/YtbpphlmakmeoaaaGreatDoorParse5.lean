import Derived.Test.YtbpphlmakmeoaaaGreatDoorText5
import Derived.Test.YtbpphlmakmeoaaaGreatDoorBound5
import Derived.Recover
import Derived.Test.YtbpphlmakmeoaaaGreatDoorRowT
import Derived.Laws.Pointers
set_option maxRecDepth 100000
set_option maxHeartbeats 1600000
namespace Go.Proofs.YtbpphlmakmeoaaaGreatDoor.Sy
open Go.RowKit
theorem tV (c p : Int) (w : World) : Calls Tryz.prog 62 #[.iface 118 (.agg #[.int .i64 c, .int .i64 p])] w fun e w' => e = .returned (.agg #[.int .i64 c, .int .i64 p]) ∧ Below w.heap.size w w' := by
 have Aa : ∀ w : World, (Instr.typeAssert (.iface 118 (.agg #[.int .i64 c, .int .i64 p])) 20 118 true).run Tryz.prog w = .ok (.tuple #[.agg #[.int .i64 c, .int .i64 p], .bool true]) w := fun w => by kernel_rfl
 go_enter Tryz.func62, Tryz.ntmps62
 go_wp2_with fail
 simp [bodyPost, results, Tryz.results62, go_sem]
 exact ((Below.refl _ w).alloc (Nat.le_refl _) _).alloc (by simp) _
theorem gi {w : World} {q T : Nat} {a0 a1 a2 a3 a4 a5 a6 a7 a8 : Value} (h : w.heap[q]? = some (.cells #[a0, a1, a2, a3, a4, a5, a6, a7, a8] T (0, 0))) : w.cell? ⟨q, 0, none⟩ = some a0 ∧ w.cell? ⟨q, 1, none⟩ = some a1 ∧ w.cell? ⟨q, 2, none⟩ = some a2 ∧ w.cell? ⟨q, 3, none⟩ = some a3 ∧ w.cell? ⟨q, 4, none⟩ = some a4 ∧
    w.cell? ⟨q, 5, none⟩ = some a5 ∧ w.cell? ⟨q, 6, none⟩ = some a6 ∧ w.cell? ⟨q, 7, none⟩ = some a7 ∧ w.cell? ⟨q, 8, none⟩ = some a8 ∧ ∀ i, w.frozen? ⟨q, i, none⟩ = false :=
 ⟨cell_of_row w q 0 _ T _ h, cell_of_row w q 1 _ T _ h, cell_of_row w q 2 _ T _ h, cell_of_row w q 3 _ T _ h, cell_of_row w q 4 _ T _ h, cell_of_row w q 5 _ T _ h, cell_of_row w q 6 _ T _ h, cell_of_row w q 7 _ T _ h, cell_of_row w q 8 _ T _ h, fun i => frozen_of_row w q i _ T h⟩
theorem im {w : World} {q T : Nat} {a0 : Value} (h : w.heap[q]? = some (.cells #[a0] T (0, 0))) : w.cell? ⟨q, 0, none⟩ = some a0 ∧ ∀ i, w.frozen? ⟨q, i, none⟩ = false :=
 ⟨cell_of_row w q 0 _ T _ h, fun i => frozen_of_row w q i _ T h⟩
theorem yY {W : World} {q T : Nat} {y0 y1 y2 y3 y4 y5 y6 y7 y8 v0 v1 v2 v3 v4 v5 v6 v7 v8 : Value} (h : W.heap[q]? = some (.cells #[y0, y1, y2, y3, y4, y5, y6, y7, y8] T (0, 0))) : ((((((((((W.setCell ⟨q, 0, none⟩ (v0)).setCell ⟨q, 1, none⟩ (v1)).setCell ⟨q, 2, none⟩ (v2)).setCell ⟨q, 3, none⟩ (v3)).setCell ⟨q, 4, none⟩ (v4)).setCell ⟨q, 5, none⟩ (v5)).setCell ⟨q, 6, none⟩ (v6)).setCell ⟨q, 7, none⟩ (v7)).setCell ⟨q, 8, none⟩ (v8))).heap[q]? = some (.cells #[v0, v1, v2, v3, v4, v5, v6, v7, v8] T (0, 0)) := by
 have s0 := fN (i := 0) (v := v0) h
 have s1 := fN (i := 1) (v := v1) s0
 have s2 := fN (i := 2) (v := v2) s1
 have s3 := fN (i := 3) (v := v3) s2
 have s4 := fN (i := 4) (v := v4) s3
 have s5 := fN (i := 5) (v := v5) s4
 have s6 := fN (i := 6) (v := v6) s5
 have s7 := fN (i := 7) (v := v7) s6
 have s8 := fN (i := 8) (v := v8) s7
 simp only [List.setIfInBounds_toArray, List.set_cons_zero, List.set_cons_succ] at s8
 exact s8
theorem uK {W : World} {q k : Nat} {v0 v1 v2 v3 v4 v5 v6 v7 v8 : Value} (hk : k ≠ q) : ((((((((((W.setCell ⟨q, 0, none⟩ (v0)).setCell ⟨q, 1, none⟩ (v1)).setCell ⟨q, 2, none⟩ (v2)).setCell ⟨q, 3, none⟩ (v3)).setCell ⟨q, 4, none⟩ (v4)).setCell ⟨q, 5, none⟩ (v5)).setCell ⟨q, 6, none⟩ (v6)).setCell ⟨q, 7, none⟩ (v7)).setCell ⟨q, 8, none⟩ (v8))).heap[k]? = W.heap[k]? := by
 rw [heap_setCell_other _ _ k _ (by exact hk), heap_setCell_other _ _ k _ (by exact hk), heap_setCell_other _ _ k _ (by exact hk), heap_setCell_other _ _ k _ (by exact hk), heap_setCell_other _ _ k _ (by exact hk), heap_setCell_other _ _ k _ (by exact hk), heap_setCell_other _ _ k _ (by exact hk), heap_setCell_other _ _ k _ (by exact hk), heap_setCell_other _ _ k _ (by exact hk)]
theorem tu (w : World) (a : Addr) (v : Value) : (w.setCell a v).os = w.os := rfl
theorem ox (w : World) (a : Addr) (v : Value) : (w.setCell a v).tape = w.tape := rfl
theorem mU (w : World) (a : Addr) (v : Value) : (w.setCell a v).output = w.output := rfl
def pL : St9 := ⟨.string ⟨#[]⟩, .slice none 0 0, .slice none 0 0, .slice none 0 0, .slice none 0 0, .slice none 0 0, .slice none 0 0, .slice none 0 0, .slice none 0 0⟩
structure Laid (v0 v1 v2 v3 v4 v5 v6 v7 v8 : Value) (q0 q1 q2 : Nat) (e p : Int) (w w' : World) : Prop where
 b0 : w'.heap[q0]? = some (.cells #[v0, v1, v2, v3, v4, v5, v6, v7, v8] 31 (0, 0))
 b1 : w'.heap[q1]? = some (.cells #[.int .i64 e] 33 (0, 0))
 b2 : w'.heap[q2]? = some (.cells #[.int .i64 p] 3 (0, 0))
 os : w'.os = w.os
 tape : w'.tape = w.tape
 output : w'.output = w.output
 size : w.heap.size ≤ w'.heap.size
 block : ∀ k, k < w.heap.size → k ≠ q0 → k ≠ q1 → k ≠ q2 → w'.heap[k]? = w.heap[k]?
theorem Laid.drew {v0 v1 v2 v3 v4 v5 v6 v7 v8 : Value} {q0 q1 q2 : Nat} {e p : Int} {w w' : World} (h : Laid v0 v1 v2 v3 v4 v5 v6 v7 v8 q0 q1 q2 e p w w') : Laid v0 v1 v2 v3 v4 v5 v6 v7 v8 q0 q1 q2 e p w w'.drew := ⟨h.b0, h.b1, h.b2, h.os, h.tape, h.output, h.size, h.block⟩
theorem Laid.of {v0 v1 v2 v3 v4 v5 v6 v7 v8 : Value} {q0 q1 q2 : Nat} {e p : Int} {w W : World} {x1 x2 y0 y1 y2 y3 y4 y5 y6 y7 y8 : Value} (hb : Below w.heap.size w W) (h0 : W.heap[q0]? = some (.cells #[y0, y1, y2, y3, y4, y5, y6, y7, y8] 31 (0, 0))) (h1 : W.heap[q1]? = some (.cells #[x1] 33 (0, 0))) (h2 : W.heap[q2]? = some (.cells #[x2] 3 (0, 0)))
    (h01 : q0 ≠ q1) (h02 : q0 ≠ q2) (h12 : q1 ≠ q2) {W9 : World} (hW9 : W9 = (((((((((W.setCell ⟨q0, 0, none⟩ v0).setCell ⟨q0, 1, none⟩ v1).setCell ⟨q0, 2, none⟩ v2).setCell ⟨q0, 3, none⟩ v3).setCell ⟨q0, 4, none⟩ v4).setCell ⟨q0, 5, none⟩ v5).setCell ⟨q0, 6, none⟩ v6).setCell ⟨q0, 7, none⟩ v7).setCell ⟨q0, 8, none⟩ v8)) : Laid v0 v1 v2 v3 v4 v5 v6 v7 v8 q0 q1 q2 e p w ((W9.setCell ⟨q1, 0, none⟩ (.int .i64 e)).setCell ⟨q2, 0, none⟩ (.int .i64 p)) := by
 have A0 : W9.heap[q0]? = some (.cells #[v0, v1, v2, v3, v4, v5, v6, v7, v8] 31 (0, 0)) := by rw [hW9]; exact yY h0
 have AK : ∀ k, k ≠ q0 → W9.heap[k]? = W.heap[k]? := fun k hk => by rw [hW9]; exact uK hk
 have AS : W9.heap.size = W.heap.size := by rw [hW9]; simp
 have AO : W9.os = W.os ∧ W9.tape = W.tape ∧ W9.output = W.output := by rw [hW9]; simp only [tu, ox, mU, and_self]
 clear hW9
 have A1 := (AK q1 h01.symm).trans h1
 have A2 := (AK q2 h02.symm).trans h2
 have B1 := fN (i := 0) (v := .int .i64 e) A1
 have B2 := fN (i := 0) (v := .int .i64 p) (fD (p := ⟨q1, 0, none⟩) (v := .int .i64 e) A2 h12.symm)
 simp only [List.setIfInBounds_toArray, List.set_cons_zero] at B1 B2
 exact ⟨fD (fD A0 h01) h02, fD B1 h12, B2, by rw [tu, tu]; exact AO.1.trans hb.os, by rw [ox, ox]; exact AO.2.1.trans hb.tape, by rw [mU, mU]; exact AO.2.2.trans hb.output, by have := hb.size; simp; omega, fun k hk k0 k1 k2 => by
  rw [heap_setCell_other _ _ k _ (by exact k2), heap_setCell_other _ _ k _ (by exact k1), AK k k0, hb.block k hk]⟩
theorem vy (a b c : Value) (w : World) : CallsD Tryz.prog 61 #[a, b, c] .returning w fun e u' w' => e = .returned (.tuple #[]) ∧ u' = .returning ∧ w' = w := by
 refine callsD_of_wpS Tryz.func61 rfl fun c₀ cs hu => ?_
 apply wpS_seq
 apply wpS_region
 simp [wpOpsS, go_sem, recoverD, hu, Tryz.ntmps61, Exit.thenS]
 apply wpS_of_wp
 go_wp2_with fail
 cases c₀
 simp_all [bodyPostS, results, Tryz.results61]
theorem uh (q0 q1 q2 : Nat) (e p : Int) (older : List PanicEntry) (w : World) (x1 x2 y0 y1 y2 y3 y4 y5 y6 y7 y8 : Value) (h0 : w.heap[q0]? = some (.cells #[y0, y1, y2, y3, y4, y5, y6, y7, y8] 31 (0, 0))) (h1 : w.heap[q1]? = some (.cells #[x1] 33 (0, 0))) (h2 : w.heap[q2]? = some (.cells #[x2] 3 (0, 0))) (h01 : q0 ≠ q1) (h02 : q0 ≠ q2) (h12 : q1 ≠ q2) :
    CallsD Tryz.prog 61 #[.pointer (some ⟨q0, 0, none⟩), .pointer (some ⟨q1, 0, none⟩), .pointer (some ⟨q2, 0, none⟩)] (.panicking ({ v := .iface 118 (.agg #[.int .i64 e, .int .i64 p]), recovered := false } :: older)) w fun r u' w' =>
     r = .returned (.tuple #[]) ∧ u' = .panicking ({ v := .iface 118 (.agg #[.int .i64 e, .int .i64 p]), recovered := true } :: older) ∧
     Laid (.string ⟨#[]⟩) (.slice none 0 0) (.slice none 0 0) (.slice none 0 0) (.slice none 0 0) (.slice none 0 0) (.slice none 0 0) (.slice none 0 0) (.slice none 0 0) q0 q1 q2 e p w w' := by
 have H0 := ec h0
 have H1 := ec h1
 have H2 := ec h2
 have CF := ec (tV e p w)
 clear h0 h1 h2
 refine callsD_of_wpS Tryz.func61 rfl fun c₀ cs hu => ?_
 apply wpS_seq
 apply wpS_region
 have Aa : (Array.replicate 12 undef : Array Value) = #[undef, undef, undef, undef, undef, undef, undef, undef, undef, undef, undef, undef] := rfl
 simp [wpOpsS, go_sem, recoverD, hu, Tryz.ntmps61, Exit.thenS, Aa]
 clear Aa
 apply wpS_of_wp
 go_wp2_with fail
 refine CF.out.mono ?_
 rintro _ w1 ⟨rfl, hb⟩
 have B := (Below.refl w1.heap.size w1).alloc (Nat.le_refl _) (.cells #[.int .i64 e, .int .i64 p] 118)
 have L0 := (B.block _ (Nat.lt_of_lt_of_le (eN H0.out) hb.size)).trans ((hb.block _ (eN H0.out)).trans H0.out)
 have L1 := (B.block _ (Nat.lt_of_lt_of_le (eN H1.out) hb.size)).trans ((hb.block _ (eN H1.out)).trans H1.out)
 have L2 := (B.block _ (Nat.lt_of_lt_of_le (eN H2.out) hb.size)).trans ((hb.block _ (eN H2.out)).trans H2.out)
 have HB := ec hb
 have Ac := ec L0
 have Ad := ec L1
 have Ae := ec L2
 obtain ⟨z0, z1, z2, z3, z4, z5, z6, z7, z8, z9⟩ := gi L0
 obtain ⟨u0, u1⟩ := im L1
 obtain ⟨t0, t1⟩ := im L2
 have Ah := h01.symm
 have Af := h02.symm
 have Ag := h12.symm
 have LN := heap_alloc_new w1 (.cells #[.int .i64 e, .int .i64 p] 118)
 obtain ⟨v0, v1, v2⟩ := oH LN
 have n0 : q0 ≠ w1.heap.size := Nat.ne_of_lt (Nat.lt_of_lt_of_le (eN H0.out) hb.size)
 have n1 : q1 ≠ w1.heap.size := Nat.ne_of_lt (Nat.lt_of_lt_of_le (eN H1.out) hb.size)
 have n2 : q2 ≠ w1.heap.size := Nat.ne_of_lt (Nat.lt_of_lt_of_le (eN H2.out) hb.size)
 have n0' := n0.symm
 have n1' := n1.symm
 have n2' := n2.symm
 have Ab := ec (hb.trans (B.mono hb.size))
 clear hb L0 L1 L2 LN B
 go_wp2_with fail
 generalize w1.alloc (.cells #[.int .i64 e, .int .i64 p] 118) = W at *
 go_region
 go_wp2_with fail
 exact ⟨rfl, _, rfl, .tuple #[], by simp [results, Tryz.results61], rfl, rfl, Laid.drew (Laid.of Ab.out Ac.out Ad.out Ae.out h01 h02 h12 rfl)⟩
noncomputable def parseM (l : ee) : StatM × Int × Nat :=
 if (gz l).err = 0 then
  match textM FN (kt (gz l).tk) ⟨0, false, false⟩ with
  | .ok S _ => (S, 0, l.length)
  | .bad c n => (StatM.none, c, eI (gz l).tk l.length n)
 else (StatM.none, (gz l).err, (gz l).place)
theorem SRep.none (R : Nat) (w : World) : SRep R w pL StatM.none :=
 ⟨rfl, Rows.nil _ _ _ _ _, Rows.nil _ _ _ _ _, Rows.nil _ _ _ _ _, Rows.nil _ _ _ _ _, Rows.nil _ _ _ _ _, Rows.nil _ _ _ _ _, Rows.nil _ _ _ _ _, Rows.nil _ _ _ _ _⟩
def St9.agg (st : St9) : Value := .agg #[st.title, st.kinds, st.members, st.preds, st.classes, st.sources, st.rules, st.excepts, st.totals]
theorem uV {R B : Nat} {w : World} {v : Value} {tk : List fw} (h : w.ownsRow B 188 3 v tk.length (hX tk)) (hR : w.heap.size ≤ R) : ∃ a c, v = .slice a tk.length c ∧ TokRow R w a tk := by
 have Ab : ∀ g, v.ownBlock = some g → g < w.heap.size := fun g hg => (h.lt g hg).2
 obtain ⟨a, c, rfl, Aa⟩ := yG h
 refine ⟨a, c, rfl, fun j t hj => ?_⟩
 obtain ⟨b, o, rfl, h1, h2, h3⟩ := Aa j t hj
 have ho : o = 0 := by
  rcases h.2 with ⟨h4, h5⟩ | ⟨g, Ad, Ac, h4, _⟩
  · cases h4
  · cases h4; rfl
 subst ho
 rw [Nat.zero_add] at h1 h2 h3
 exact ⟨b, rfl, Nat.lt_of_lt_of_le (Ab b rfl) hR, h1, h2, h3⟩
theorem Laid.below {v0 v1 v2 v3 v4 v5 v6 v7 v8 : Value} {B : Nat} {e p : Int} {w0 w w' : World} (h : Laid v0 v1 v2 v3 v4 v5 v6 v7 v8 B (B + 1) (B + 1 + 1) e p w w') (hb : Below B w0 w) (hq : B = w0.heap.size) : Below B w0 w' :=
 ⟨h.os.trans hb.os, h.tape.trans hb.tape, h.output.trans hb.output, Nat.le_trans hb.size h.size, fun k hk => (h.block k (by have := hb.size; omega) (by omega) (by omega) (by omega)).trans (hb.block k hk)⟩
theorem Vars.up {B R : Nat} {w w' : World} (h : Vars B w) (hB : B ≤ R) (hk : ∀ k, k < B → w'.heap[k]? = w.heap[k]?) : Vars R w' := by
 obtain ⟨e1, e2, h1, h2, h3, h4⟩ := h
 exact ⟨e1, e2, (World.cell?_of_block (hk 2 (by omega))).trans h1, (World.cell?_of_block (hk 3 (by omega))).trans h2, by omega, h4⟩
theorem i6 {α : Type} {Z : Nat → Prop} {e k : Nat} {c : World → α → List Value → Prop} {w : World} {l : List α} {v : Value} (h : Rows Z e k c w l v) : ∃ a n c, v = .slice a n c := by
 obtain ⟨a, c, e⟩ := ed h
 exact ⟨a, _, c, e⟩
theorem ww (w : World) (o0 o1 o2 : Obj) : (((w.alloc o0).alloc o1).alloc o2).heap[w.heap.size]? = some o0 ∧ (((w.alloc o0).alloc o1).alloc o2).heap[w.heap.size + 1]? = some o1 ∧ (((w.alloc o0).alloc o1).alloc o2).heap[w.heap.size + 1 + 1]? = some o2 ∧
    Below w.heap.size w (((w.alloc o0).alloc o1).alloc o2) ∧ (((w.alloc o0).alloc o1).alloc o2).heap.size = w.heap.size + 3 := by
 refine ⟨?_, ?_, ?_, (((Below.refl _ w).alloc (Nat.le_refl _) _).alloc (by simp) _).alloc (by simp; omega) _, by simp⟩
 · rw [Go.heap_alloc_old _ _ (by simp; omega), Go.heap_alloc_old _ _ (by simp)]; exact heap_alloc_new w _
 · rw [Go.heap_alloc_old _ _ (by simp)]
   have := heap_alloc_new (w.alloc o0) o1
   simpa using this
 · have := heap_alloc_new ((w.alloc o0).alloc o1) o2
   simpa using this
theorem parse_any (sB : ByteArray) (w : World) (hV : Vars w.heap.size w) :
    Calls Tryz.prog 29 #[.string sB] w fun e w' => ∃ R st, e = .returned (.tuple #[St9.agg st, .int .i64 (parseM sB.data.toList).2.1, .int .i64 (parseM sB.data.toList).2.2]) ∧ w.heap.size ≤ R ∧ SRep R w' st (parseM sB.data.toList).1 ∧ Below w.heap.size w w' := by
 have AP : sB.data.toList.length = sB.size := by simp
 have AV : ∀ (fn : Fn) (first cap : Array Value) (w : World), (Instr.makeFunc fn first cap).run Tryz.prog w = .ok (.func fn first cap) w := fun _ _ _ _ => rfl
 have HA := ec (sO sB.data.toList)
 have AB := ec (fun h => pf (s := sB.data.toList) h)
 obtain ⟨P, hP⟩ : ∃ P, P = parseM sB.data.toList := ⟨_, rfl⟩
 rw [← hP]
 unfold parseM at hP
 have CT := ec (fun w => uP sB w)
 generalize hZ : gz sB.data.toList = Z at *
 have HV := ec hV
 have HW := ec (ww w (.cells #[.string ⟨#[]⟩, .slice none 0 0, .slice none 0 0, .slice none 0 0, .slice none 0 0, .slice none 0 0, .slice none 0 0, .slice none 0 0, .slice none 0 0] 31) (.cells #[.int .i64 0] 33) (.cells #[.int .i64 0] 3))
 clear hV
 have m0 : w.heap.size ≠ w.heap.size + 1 := by omega
 have m1 : w.heap.size ≠ w.heap.size + 1 + 1 := by omega
 have m2 : w.heap.size + 1 ≠ w.heap.size + 1 + 1 := by omega
 have m3 := m0.symm
 have m4 := m1.symm
 have m5 := m2.symm
 by_cases he : Z.err = 0
 · rw [if_pos he] at hP
   have AF := (AB.out he).2.1
   rw [he] at CT
   clear hZ AB he
   go_enter_defers Tryz.func29, Tryz.ntmps29
   go_wp2_with fail
   refine (CT.out _).mono ?_
   rintro _ w1 ⟨tv, rfl, Ab, hb⟩
   obtain ⟨ta, tc, rfl, AE⟩ := uV (R := w1.heap.size) Ab (Nat.le_refl _)
   have Al := HW.out.2.2.2.2
   have AR := hb.size
   have Ah := HW.out.2.2.2.1.trans (hb.mono (by omega))
   have L0 := (hb.block w.heap.size (by omega)).trans HW.out.1
   have L1 := (hb.block (w.heap.size + 1) (by omega)).trans HW.out.2.1
   have L2 := (hb.block (w.heap.size + 1 + 1) (by omega)).trans HW.out.2.2.1
   obtain ⟨u0, u1⟩ := im L1
   obtain ⟨t0, t1⟩ := im L2
   have P0 := fD (p := ⟨w.heap.size + 1 + 1, 0, none⟩) (v := .int .i64 (Z.place : Nat)) (fD (p := ⟨w.heap.size + 1, 0, none⟩) (v := .int .i64 0) L0 m0) m1
   have P1 := fD (p := ⟨w.heap.size + 1 + 1, 0, none⟩) (v := .int .i64 (Z.place : Nat)) (fN (i := 0) (v := .int .i64 0) L1) m2
   have P2 := fN (i := 0) (v := .int .i64 (Z.place : Nat)) (fD (p := ⟨w.heap.size + 1, 0, none⟩) (v := .int .i64 0) L2 m5)
   have PB := (Ah.setCell (p := ⟨w.heap.size + 1, 0, none⟩) (by simp) (.int .i64 0)).setCell (p := ⟨w.heap.size + 1 + 1, 0, none⟩) (by show w.heap.size ≤ w.heap.size + 1 + 1; omega) (.int .i64 (Z.place : Nat))
   have Aj : TokRow w1.heap.size ((w1.setCell ⟨w.heap.size + 1, 0, none⟩ (.int .i64 0)).setCell ⟨w.heap.size + 1 + 1, 0, none⟩ (.int .i64 (Z.place : Nat))) ta Z.tk := by
    intro j t hj
    obtain ⟨b, ha, AT, h1, h2, h3⟩ := AE j t hj
    have AX : w.heap.size + 3 ≤ b := by
     rw [ha] at Ab
     have := (Ab.lt b rfl).1
     omega
    have Ar : ((w1.setCell ⟨w.heap.size + 1, 0, none⟩ (.int .i64 0)).setCell ⟨w.heap.size + 1 + 1, 0, none⟩ (.int .i64 (Z.place : Nat))).heap[b]? = w1.heap[b]? := by
     rw [heap_setCell_other _ _ b _ (by show b ≠ w.heap.size + 1 + 1; omega), heap_setCell_other _ _ b _ (by show b ≠ w.heap.size + 1; omega)]
    exact ⟨b, ha, AT, (World.cell?_of_block Ar).trans h1, (World.cell?_of_block Ar).trans h2, (World.cell?_of_block Ar).trans h3⟩
   have Ai : ((w1.setCell ⟨w.heap.size + 1, 0, none⟩ (.int .i64 0)).setCell ⟨w.heap.size + 1 + 1, 0, none⟩ (.int .i64 (Z.place : Nat))).heap.size = w1.heap.size := by simp
   clear AE Ab hb L0 L1 L2 Ah CT HW
   have AQ : w.heap.size + 3 ≤ w1.heap.size := by omega
   have BA := (Below.refl w1.heap.size ((w1.setCell ⟨w.heap.size + 1, 0, none⟩ (.int .i64 0)).setCell ⟨w.heap.size + 1 + 1, 0, none⟩ (.int .i64 (Z.place : Nat)))).alloc (by rw [Ai]; exact Nat.le_refl _) (.cells #[.slice ta Z.tk.length tc, .int .i64 0, .int .i64 sB.size, .bool false, .bool false, .string ⟨#[]⟩, .slice none 0 0, .slice none 0 0, .slice none 0 0, .slice none 0 0, .slice none 0 0, .slice none 0 0, .slice none 0 0, .slice none 0 0] 122)
   have Ag := heap_alloc_new ((w1.setCell ⟨w.heap.size + 1, 0, none⟩ (.int .i64 0)).setCell ⟨w.heap.size + 1 + 1, 0, none⟩ (.int .i64 (Z.place : Nat))) (.cells #[.slice ta Z.tk.length tc, .int .i64 0, .int .i64 sB.size, .bool false, .bool false, .string ⟨#[]⟩, .slice none 0 0, .slice none 0 0, .slice none 0 0, .slice none 0 0, .slice none 0 0, .slice none 0 0, .slice none 0 0, .slice none 0 0] 122)
   rw [Ai] at Ag
   have AO : Rd w1.heap.size Z.tk sB.size ⟨0, false, false⟩ pL (((w1.setCell ⟨w.heap.size + 1, 0, none⟩ (.int .i64 0)).setCell ⟨w.heap.size + 1 + 1, 0, none⟩ (.int .i64 (Z.place : Nat))).alloc (.cells #[.slice ta Z.tk.length tc, .int .i64 0, .int .i64 sB.size, .bool false, .bool false, .string ⟨#[]⟩, .slice none 0 0, .slice none 0 0, .slice none 0 0, .slice none 0 0, .slice none 0 0, .slice none 0 0, .slice none 0 0, .slice none 0 0] 122)) :=
    ⟨eN Ag, Nat.zero_le _, HA.out.1, by omega, ⟨ta, tc, Ag, Aj.keep fun k hk => BA.block k hk⟩, HV.out.up (by omega) fun k hk => (BA.block k (by omega)).trans (PB.block k hk), fun t ht => (HA.out.2.1 t ht).1⟩
   have Q0 := ec ((BA.block _ (by omega)).trans P0)
   have Q1 := ec ((BA.block _ (by omega)).trans P1)
   have Q2 := ec ((BA.block _ (by omega)).trans P2)
   have QB := ec (PB.trans (BA.mono (by omega)))
   have C5 := ec (ol w1.heap.size Z.tk sB.size ⟨0, false, false⟩ pL _ AO (SRep.none _ _) _ rfl)
   have Aa := ec AQ
   have HP := ec hP
   have AZ := ec AP
   have AU := ec AF
   have AW := ec Ai
   clear Aj Ai Ag AO BA P0 P1 P2 PB AQ hP Al AR AF AP
   go_wp2_with fail
   refine C5.out.mono ?_
   intro e w4 hE
   rcases hE.split with ⟨S, t, st, ho, rfl, hR, hS, hl, hF⟩ | ⟨c, n, ho, rfl, hF⟩
   · have hP := HP.out
     rw [ho] at hP
     subst hP
     obtain ⟨f0, f1, f2, f3, f4, f5, f6, f7, f8⟩ := st
     have e0 := hS.title
     simp only at e0
     subst e0
     obtain ⟨As, AC, AH, e1⟩ := i6 hS.kinds
     simp only at e1
     subst e1
     obtain ⟨Ay, AM, AN, e2⟩ := i6 hS.members
     simp only at e2
     subst e2
     obtain ⟨Ap, AI, AG, e3⟩ := i6 hS.preds
     simp only at e3
     subst e3
     obtain ⟨Aw, Av, Ak, e4⟩ := i6 hS.classes
     simp only at e4
     subst e4
     obtain ⟨AA, AJ, Aq, e5⟩ := i6 hS.sources
     simp only at e5
     subst e5
     obtain ⟨An, Az, Am, e6⟩ := i6 hS.rules
     simp only at e6
     subst e6
     obtain ⟨At, AK, AD, e7⟩ := i6 hS.excepts
     simp only at e7
     subst e7
     obtain ⟨Ax, Au, AL, e8⟩ := i6 hS.totals
     simp only at e8
     subst e8
     have d5 := hR.d5
     have d6 := hR.d6
     have d7 := hR.d7
     have d8 := hR.d8
     have d9 := hR.d9
     have d10 := hR.d10
     have d11 := hR.d11
     have d12 := hR.d12
     have d13 := hR.d13
     have L0 := (hF.block _ (by have := Aa.out; omega)).trans Q0.out
     have L1 := (hF.block _ (by have := Aa.out; omega)).trans Q1.out
     have L2 := (hF.block _ (by have := Aa.out; omega)).trans Q2.out
     obtain ⟨z0, z1, z2, z3, z4, z5, z6, z7, z8, z9⟩ := gi L0
     obtain ⟨u2, u3⟩ := im L1
     obtain ⟨t2, t3⟩ := im L2
     have AS := ec hS
     have Ad := ec L0
     have Ac := ec L1
     have Af := ec L2
     have Ae : Hid (Below w.heap.size w w4) := ec ⟨hF.os.trans QB.out.os, hF.tape.trans QB.out.tape, hF.output.trans QB.out.output, Nat.le_trans QB.out.size hF.size, fun k hk => (hF.block k (by have := Aa.out; omega)).trans (QB.out.block k hk)⟩
     clear hE ho hR hS hl hF C5 Q0 Q1 Q2 QB L0 L1 L2 HP HA HV
     simp only at d5 d6 d7 d8 d9 d10 d11 d12 d13
     go_wp2_with fail
     have LD := Laid.of (v0 := .string ⟨S.title.toArray⟩) (v1 := .slice As AC AH) (v2 := .slice Ay AM AN) (v3 := .slice Ap AI AG) (v4 := .slice Aw Av Ak) (v5 := .slice AA AJ Aq) (v6 := .slice An Az Am) (v7 := .slice At AK AD) (v8 := .slice Ax Au AL) (e := 0) (p := sB.size) (Below.refl _ w4) Ad.out Ac.out Af.out m0 m1 m2 rfl
     generalize (((((((((((w4.setCell ⟨w.heap.size, 0, none⟩ (.string ⟨S.title.toArray⟩)).setCell ⟨w.heap.size, 1, none⟩ (.slice As AC AH)).setCell ⟨w.heap.size, 2, none⟩ (.slice Ay AM AN)).setCell ⟨w.heap.size, 3, none⟩ (.slice Ap AI AG)).setCell ⟨w.heap.size, 4, none⟩ (.slice Aw Av Ak)).setCell ⟨w.heap.size, 5, none⟩ (.slice AA AJ Aq)).setCell ⟨w.heap.size, 6, none⟩ (.slice An Az Am)).setCell ⟨w.heap.size, 7, none⟩ (.slice At AK AD)).setCell ⟨w.heap.size, 8, none⟩ (.slice Ax Au AL)).setCell ⟨w.heap.size + 1, 0, none⟩ (.int .i64 0)).setCell ⟨w.heap.size + 1 + 1, 0, none⟩ (.int .i64 sB.size)) = W at *
     refine leaves_cons (f := 61) (args := #[.pointer (some ⟨w.heap.size, 0, none⟩), .pointer (some ⟨w.heap.size + 1, 0, none⟩), .pointer (some ⟨w.heap.size + 1 + 1, 0, none⟩)]) (by simp) (by simp [go_sem]) ?_
     refine (vy _ _ _ _).mono ?_
     rintro e u' w5 ⟨rfl, rfl, rfl⟩
     have hz := And.intro (gi LD.b0) (And.intro (im LD.b1) (im LD.b2))
     refine ⟨.tuple #[St9.agg ⟨.string ⟨S.title.toArray⟩, .slice As AC AH, .slice Ay AM AN, .slice Ap AI AG, .slice Aw Av Ak, .slice AA AJ Aq, .slice An Az Am, .slice At AK AD, .slice Ax Au AL⟩, .int .i64 0, .int .i64 sB.size], ?_, w1.heap.size, _, rfl, by have := Aa.out; omega, AS.out.keep ?_, LD.below Ae.out rfl⟩
     · simp [results, Tryz.results29, go_sem, hz, St9.agg]
     · intro g AY t hg Ao _
       have hg' : w1.heap.size < g := hg
       have := Aa.out
       rw [LD.block g (eN Ao) (by omega) (by omega) (by omega)]
       exact Ao
   · have hP := HP.out
     rw [ho] at hP
     subst hP
     have L0 := (hF.block _ (by have := Aa.out; omega)).trans Q0.out
     have L1 := (hF.block _ (by have := Aa.out; omega)).trans Q1.out
     have L2 := (hF.block _ (by have := Aa.out; omega)).trans Q2.out
     have Ad := ec L0
     have Ac := ec L1
     have Af := ec L2
     have Ae : Hid (Below w.heap.size w w4) := ec ⟨hF.os.trans QB.out.os, hF.tape.trans QB.out.tape, hF.output.trans QB.out.output, Nat.le_trans QB.out.size hF.size, fun k hk => (hF.block k (by have := Aa.out; omega)).trans (QB.out.block k hk)⟩
     clear hE ho hF C5 Q0 Q1 Q2 QB L0 L1 L2 HP HA HV
     go_wp2_with fail
     refine leaves_cons (f := 61) (args := #[.pointer (some ⟨w.heap.size, 0, none⟩), .pointer (some ⟨w.heap.size + 1, 0, none⟩), .pointer (some ⟨w.heap.size + 1 + 1, 0, none⟩)]) (by simp) (by simp [go_sem]) ?_
     refine (uh _ _ _ _ _ _ _ _ _ _ _ _ _ _ _ _ _ _ Ad.out Ac.out Af.out m0 m1 m2).mono ?_
     rintro e u' w5 ⟨rfl, rfl, LD⟩
     have hz := And.intro (gi LD.b0) (And.intro (im LD.b1) (im LD.b2))
     refine ⟨.tuple #[St9.agg pL, .int .i64 c, .int .i64 (eI Z.tk sB.size n)], ?_, w.heap.size, pL, rfl, Nat.le_refl _, SRep.none _ _, LD.below Ae.out rfl⟩
     simp [results, Tryz.results29, go_sem, hz, St9.agg, pL]
 · rw [if_neg he] at hP
   have he' : ¬ ((Z.err : Nat) : Int) = 0 := by omega
   subst hP
   clear he hZ AB
   simp only
   go_enter_defers Tryz.func29, Tryz.ntmps29
   go_wp2_with fail
   refine (CT.out _).mono ?_
   rintro _ w1 ⟨tv, rfl, Ab, hb⟩
   have Al := HW.out.2.2.2.2
   have Ah := HW.out.2.2.2.1.trans (hb.mono (by omega))
   have L0 := (hb.block w.heap.size (by omega)).trans HW.out.1
   have L1 := (hb.block (w.heap.size + 1) (by omega)).trans HW.out.2.1
   have L2 := (hb.block (w.heap.size + 1 + 1) (by omega)).trans HW.out.2.2.1
   obtain ⟨z0, z1, z2, z3, z4, z5, z6, z7, z8, z9⟩ := gi L0
   obtain ⟨u0, u1⟩ := im L1
   obtain ⟨t0, t1⟩ := im L2
   have Ae := ec Ah
   have Ad := ec L0
   have Ac := ec L1
   have Af := ec L2
   clear hb Ab Al Ah L0 L1 L2 CT HW
   go_wp2_with fail
   go_region
   go_wp2_with fail
   have P0 := ec (fD (p := ⟨w.heap.size + 1 + 1, 0, none⟩) (v := .int .i64 (Z.place : Nat)) (fD (p := ⟨w.heap.size + 1, 0, none⟩) (v := .int .i64 (Z.err : Nat)) Ad.out m0) m1)
   have P1 := ec (fD (p := ⟨w.heap.size + 1 + 1, 0, none⟩) (v := .int .i64 (Z.place : Nat)) (fN (i := 0) (v := .int .i64 (Z.err : Nat)) Ac.out) m2)
   have P2 := ec (fN (i := 0) (v := .int .i64 (Z.place : Nat)) (fD (p := ⟨w.heap.size + 1, 0, none⟩) (v := .int .i64 (Z.err : Nat)) Af.out m5))
   have PB := ec ((Ae.out.setCell (p := ⟨w.heap.size + 1, 0, none⟩) (by simp) (.int .i64 (Z.err : Nat))).setCell (p := ⟨w.heap.size + 1 + 1, 0, none⟩) (by show w.heap.size ≤ w.heap.size + 1 + 1; omega) (.int .i64 (Z.place : Nat)))
   clear Ad Ac Af Ae z0 z1 z2 z3 z4 z5 z6 z7 z8 z9 u0 u1 t0 t1
   generalize (w1.setCell ⟨w.heap.size + 1, 0, none⟩ (.int .i64 (Z.err : Nat))).setCell ⟨w.heap.size + 1 + 1, 0, none⟩ (.int .i64 (Z.place : Nat)) = w2 at *
   have LD := Laid.drew (Laid.of (v0 := .string ⟨#[]⟩) (v1 := .slice none 0 0) (v2 := .slice none 0 0) (v3 := .slice none 0 0) (v4 := .slice none 0 0) (v5 := .slice none 0 0) (v6 := .slice none 0 0) (v7 := .slice none 0 0) (v8 := .slice none 0 0) (e := (Z.err : Nat)) (p := (Z.place : Nat)) (Below.refl _ w2) P0.out P1.out P2.out m0 m1 m2 rfl)
   generalize (((((((((((w2.setCell ⟨w.heap.size, 0, none⟩ (.string ⟨#[]⟩)).setCell ⟨w.heap.size, 1, none⟩ (.slice none 0 0)).setCell ⟨w.heap.size, 2, none⟩ (.slice none 0 0)).setCell ⟨w.heap.size, 3, none⟩ (.slice none 0 0)).setCell ⟨w.heap.size, 4, none⟩ (.slice none 0 0)).setCell ⟨w.heap.size, 5, none⟩ (.slice none 0 0)).setCell ⟨w.heap.size, 6, none⟩ (.slice none 0 0)).setCell ⟨w.heap.size, 7, none⟩ (.slice none 0 0)).setCell ⟨w.heap.size, 8, none⟩ (.slice none 0 0)).setCell ⟨w.heap.size + 1, 0, none⟩ (.int .i64 (Z.err : Nat))).setCell ⟨w.heap.size + 1 + 1, 0, none⟩ (.int .i64 (Z.place : Nat))).drew = W at *
   have hz := And.intro (gi LD.b0) (And.intro (im LD.b1) (im LD.b2))
   refine ⟨.tuple #[St9.agg pL, .int .i64 (Z.err : Nat), .int .i64 (Z.place : Nat)], ?_, w.heap.size, pL, rfl, Nat.le_refl _, SRep.none _ _, LD.below PB.out rfl⟩
   simp [results, Tryz.results29, go_sem, hz, St9.agg, pL]
end Go.Proofs.YtbpphlmakmeoaaaGreatDoor.Sy
