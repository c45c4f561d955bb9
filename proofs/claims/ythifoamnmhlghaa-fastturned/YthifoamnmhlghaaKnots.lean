/- knotsOf. -/
import Derived.Test.YthifoamnmhlghaaVisit
import Derived.Deep.CutRange
namespace Go.Proofs.Ythifoamnmhlghaa
open Go.RowKit

theorem visit_any {B W : Nat} {nv : Value} {next : List (List Int)} {n cb bb sb : Nat} (hn : n ≤ 4096) (hnl : next.length = n) (hnx : ∀ (i : Nat) l, next[i]? = some l → ∀ z ∈ l, 0 ≤ z ∧ z < (n : Int)) :
    ∀ (f : Nat) (s : Wk) (w : World) (p : Nat), WI B W nv next n cb bb sb s w → B ≤ w.heap.size → OkW n s → p < n → s.came.getD p 0 = 0 → unv s.came ≤ f →
      Calls Try.prog 78 #[ptr W, .int .i64 p] w fun e w' => e = .returned (.tuple #[]) ∧ WI B W nv next n cb bb sb (visitM next f p s) w' ∧ Below B w w' := by
  intro f
  induction f with
  | zero =>
    intro s w p _ _ ho hp h0 hu
    exfalso
    have := unv_set (l := s.came) (i := p) (z := 1) (by rw [ho.lc]; exact hp) h0 (by decide)
    omega
  | succ f ih => intro s w p h hB ho hp h0 hu; exact visit_step hn hnl hnx f ih s w p h hB ho hp h0 hu
theorem start_ok (n : Nat) : OkW n (startM n) := by
  refine ⟨by simp [startM], by simp [startM], by simp [startM], by simp [startM], ?_, by simp [startM], by simp [startM], by simp [startM], by simp [startM]⟩
  show (0 : Int) + (unv (List.replicate n 0) : Nat) ≤ n
  have : unv (List.replicate n 0) ≤ n := by unfold unv; exact Nat.le_trans (List.length_filter_le _ _) (by simp)
  omega
theorem run_make_fix {P : Program} {t e : TypeId} {i : TypeInfo} {z : Value} (h1 : P.underlying t = some (.slice e)) (h2 : P.info? e = some i) (h3 : i.zero = some z) (h4 : i.size = 1) (h5 : z.cells = #[z]) (n : Nat) (b2 : i.bytes * n ≤ 281474976710656) (b3 : n ≤ maxLen) (w : World) :
    (Instr.makeSlice t (.int .i64 n) (.int .i64 n)).run P w = .ok (.slice (some ⟨w.heap.size, 0, none⟩) n n) (w.alloc (.cells (Array.replicate n z) e)) := by
  have hb' : (i.bytes : Int) * (n : Int) ≤ 281474976710656 := by
    have h : ((i.bytes * n : Nat) : Int) ≤ 281474976710656 := by omega
    rwa [Int.natCast_mul] at h
  have h63' : (n : Int) ≤ 9223372036854775807 := by
    have h := b3
    simp [maxLen] at h
    omega
  have hrun := run_make (P := P) w t e i z h1 h2 h3 .i64 .i64 n n (by omega) (Int.le_refl _) hb' h63'
  rw [h4, Nat.mul_one, h5, made_one] at hrun
  simpa using hrun
theorem alloc4 (w : World) (o0 o1 o2 o3 : Obj) : Below w.heap.size w ((((w.alloc o0).alloc o1).alloc o2).alloc o3).drew ∧ ((((w.alloc o0).alloc o1).alloc o2).alloc o3).drew.heap[w.heap.size]? = some o0 ∧ ((((w.alloc o0).alloc o1).alloc o2).alloc o3).drew.heap[w.heap.size + 1]? = some o1 ∧ ((((w.alloc o0).alloc o1).alloc o2).alloc o3).drew.heap[w.heap.size + 1 + 1]? = some o2 ∧ ((((w.alloc o0).alloc o1).alloc o2).alloc o3).drew.heap[w.heap.size + 1 + 1 + 1]? = some o3 := by
  have b1 := below_new w o0
  have s1 : (w.alloc o0).heap.size = w.heap.size + 1 := by simp
  have s2 : ((w.alloc o0).alloc o1).heap.size = w.heap.size + 1 + 1 := by simp
  have s3 : (((w.alloc o0).alloc o1).alloc o2).heap.size = w.heap.size + 1 + 1 + 1 := by simp
  have e0 := heap_alloc_new w o0
  have e1 := heap_alloc_new (w.alloc o0) o1
  have e2 := heap_alloc_new ((w.alloc o0).alloc o1) o2
  have e3 := heap_alloc_new (((w.alloc o0).alloc o1).alloc o2) o3
  rw [s1] at e1
  rw [s2] at e2
  rw [s3] at e3
  have k1 : ∀ g, g < (w.alloc o0).heap.size → ((w.alloc o0).alloc o1).heap[g]? = (w.alloc o0).heap[g]? := fun g hg => Below.heap_alloc _ _ _ hg
  have k2 : ∀ g, g < ((w.alloc o0).alloc o1).heap.size → (((w.alloc o0).alloc o1).alloc o2).heap[g]? = ((w.alloc o0).alloc o1).heap[g]? := fun g hg => Below.heap_alloc _ _ _ hg
  have k3 : ∀ g, g < (((w.alloc o0).alloc o1).alloc o2).heap.size → ((((w.alloc o0).alloc o1).alloc o2).alloc o3).heap[g]? = (((w.alloc o0).alloc o1).alloc o2).heap[g]? := fun g hg => Below.heap_alloc _ _ _ hg
  refine ⟨(((b1.alloc (by omega) _).alloc (by omega) _).alloc (by omega) _).drew, ?_, ?_, ?_, e3⟩
  · exact (k3 _ (by omega)).trans ((k2 _ (by omega)).trans ((k1 _ (by omega)).trans e0))
  · exact (k3 _ (by omega)).trans ((k2 _ (by omega)).trans e1)
  · exact (k3 _ (by omega)).trans e2
theorem start_wi {w wc : World} {next : List (List Int)} {na : Option Addr} {nc W cb bb sb : Nat} (h : Lists w.heap.size w next (.slice na next.length nc)) (hb : Below w.heap.size w wc)
    (hW : wc.heap[W]? = some (.cells #[.slice na next.length nc, sl cb next.length, sl bb next.length, .int .i64 0, .slice none 0 0, sl sb next.length, .slice none 0 0] 113 (0, 0)))
    (hc : wc.heap[cb]? = some (.cells (Array.replicate next.length (.int .i64 0)) 3 (0, 0))) (hbb : wc.heap[bb]? = some (.cells (Array.replicate next.length (.int .i64 0)) 3 (0, 0))) (hs : wc.heap[sb]? = some (.cells (Array.replicate next.length (.bool false)) 4 (0, 0)))
    (lo : w.heap.size ≤ W ∧ w.heap.size ≤ cb ∧ w.heap.size ≤ bb ∧ w.heap.size ≤ sb) (ne : cb ≠ bb) : WI w.heap.size W (.slice na next.length nc) next next.length cb bb sb (startM next.length) wc := by
  refine ⟨.slice none 0 0, .slice none 0 0, fun _ => False, ⟨hW, h.keep hb.block, lo, ?_, ?_, ?_, ⟨rfl, .inl ⟨rfl, rfl⟩⟩, ⟨ne, by simp [Value.ownBlock], by simp [Value.ownBlock]⟩, ⟨[], ⟨rfl, .inl ⟨rfl, rfl⟩⟩, fun i k hk => by simp [startM] at hk⟩, fun g hg => hg.elim⟩⟩
  · unfold Fx; rw [hc, ints_rep]; rfl
  · unfold Fx; rw [hbb, ints_rep]; rfl
  · unfold Fx; rw [hs, bools_rep]; rfl
theorem WI.done {B W : Nat} {nv : Value} {next : List (List Int)} {n cb bb sb : Nat} {s : Wk} {w : World} (h : WI B W nv next n cb bb sb s w) (ho : OkW n s) (hn : n ≤ 4096) : ∃ ka kc, w.cell? ⟨W, 6, none⟩ = some (.slice ka s.knots.length kc) ∧ Lists w.heap.size w s.knots (.slice ka s.knots.length kc) := by
  obtain ⟨ov, kv, Z, hw⟩ := h
  obtain ⟨xs, k1, k2⟩ := hw.rk
  obtain ⟨ka, kc, rfl⟩ := owns_slice k1
  have hkl : s.knots.length ≤ 4096 := by have h1 := ho.kl; have h2 := ho.c1; omega
  refine ⟨ka, kc, hw.cells.2.2.2.2.2.2, ?_⟩
  have hx := owns_at1 k1
  have hcap : s.knots.length ≤ kc := by
    rcases k1.2 with ⟨e, h0⟩ | ⟨g, cap, cur, e, _, _, h5, _⟩
    · omega
    · simp only [Value.slice.injEq] at e; omega
  refine ⟨ka, kc, rfl, hcap, by omega, fun i k hi => ?_⟩
  obtain ⟨v, h3, h4⟩ := k2 i k hi
  obtain ⟨g, o, e, hcell⟩ := hx i v h3
  refine ⟨g, o, [v], e, World.block_lt_of_cell? w _ hcell, rfl, fun j u hu => ?_, v, rfl, h4.rr (fun g hg => (hw.z g hg).2.2.2.2.elim fun vs h => h.lt) fun _ _ h => h⟩
  match j, hu with
  | 0, hu => cases hu; rw [Nat.mul_one, Nat.add_zero]; exact hcell
theorem each_ok {next : List (List Int)} {n : Nat} (hn : ∀ (i : Nat) l, next[i]? = some l → ∀ z ∈ l, 0 ≤ z ∧ z < (n : Int)) (f : Nat) : ∀ k i s, OkW n s → i + k ≤ n → OkW n (eachM next f k i s)
  | 0, _, _, h, _ => h
  | k + 1, i, s, h, hi => by
    unfold eachM
    by_cases hz : s.came.getD i 0 = 0
    · rw [if_pos hz]
      exact each_ok hn f k (i + 1) _ (visit_ok hn f i s h ⟨by omega, by omega⟩ (by simpa using hz)).1 (by omega)
    · rw [if_neg hz]
      exact each_ok hn f k (i + 1) _ h (by omega)
set_option maxRecDepth 100000 in
set_option maxHeartbeats 12800000 in
theorem knotsOf_any {w : World} {next : List (List Int)} {na : Option Addr} {nc : Nat} (h : Lists w.heap.size w next (.slice na next.length nc)) (hn : next.length ≤ 4096) (hnx : ∀ (i : Nat) l, next[i]? = some l → ∀ z ∈ l, 0 ≤ z ∧ z < (next.length : Int)) :
    Calls Try.prog 57 #[.slice na next.length nc] w fun e w' => ∃ ka kc, e = .returned (.slice ka (knotsM next).length kc) ∧ Lists w'.heap.size w' (knotsM next) (.slice ka (knotsM next).length kc) ∧ Below w.heap.size w w' := by
  obtain ⟨iI, hiI, zI0, zI1, zI2⟩ := info_parts infoI
  obtain ⟨iB, hiB, zB0, zB1, zB2⟩ := info_parts infoBo
  have hm1 := fun W => run_make_fix (P := Try.prog) Try.underlying26 hiI zI0 zI1 rfl next.length (by rw [zI2]; omega) (by unfold maxLen; omega) W
  have hm2 := fun W => run_make_fix (P := Try.prog) Try.underlying50 hiB zB0 zB1 rfl next.length (by rw [zB2]; omega) (by unfold maxLen; omega) W
  have HH := hide h
  have HNX := hide hnx
  have hlim := h.lim
  obtain ⟨R, hR⟩ : ∃ R, eachM next next.length next.length 0 (startM next.length) = R := ⟨_, rfl⟩
  have HOK : Hid (OkW next.length R) := hide (by rw [← hR]; exact each_ok hnx _ _ _ _ (start_ok _) (by omega))
  have HK : Hid (knotsM next = R.knots) := hide (by unfold knotsM; rw [hR])
  have HR0 : Hid (eachM next next.length (next.length - 0) 0 (startM next.length) = R) := hide (by rw [Nat.sub_zero]; exact hR)
  rw [HK.out]
  clear h hnx hR
  go_enter Try.func57, Try.ntmps57
  go_upto_region 1 with fail
  go_cut [3] from 5 to 16 (fun s wc => ∃ W cb bb sb, s = ptr W ∧ Hid (WI w.heap.size W (.slice na next.length nc) next next.length cb bb sb (startM next.length) wc) ∧ Hid (Below w.heap.size w wc))
  case first =>
    go_region
    all_goals (go_wp2_with fail; go_meet)
    · exact ⟨_, _, _, _, rfl, hide (start_wi HH.out (alloc4 w _ _ _ _).1 (alloc4 w _ _ _ _).2.2.2.2 (alloc4 w _ _ _ _).2.1 (alloc4 w _ _ _ _).2.2.1 (alloc4 w _ _ _ _).2.2.2.1 (by omega) (by omega)), hide (alloc4 w _ _ _ _).1⟩
    · exact ⟨_, _, _, _, rfl, hide (start_wi HH.out (alloc4 w _ _ _ _).1 (alloc4 w _ _ _ _).2.2.2.2 (alloc4 w _ _ _ _).2.1 (alloc4 w _ _ _ _).2.2.2.1 (alloc4 w _ _ _ _).2.2.1 (by omega) (by omega)), hide (alloc4 w _ _ _ _).1⟩
    · exact ⟨_, _, _, _, rfl, hide (start_wi HH.out (alloc4 w _ _ _ _).1 (alloc4 w _ _ _ _).2.2.2.2 (alloc4 w _ _ _ _).2.2.1 (alloc4 w _ _ _ _).2.1 (alloc4 w _ _ _ _).2.2.2.1 (by omega) (by omega)), hide (alloc4 w _ _ _ _).1⟩
    · exact ⟨_, _, _, _, rfl, hide (start_wi HH.out (alloc4 w _ _ _ _).1 (alloc4 w _ _ _ _).2.2.2.2 (alloc4 w _ _ _ _).2.2.2.1 (alloc4 w _ _ _ _).2.1 (alloc4 w _ _ _ _).2.2.1 (by omega) (by omega)), hide (alloc4 w _ _ _ _).1⟩
    · exact ⟨_, _, _, _, rfl, hide (start_wi HH.out (alloc4 w _ _ _ _).1 (alloc4 w _ _ _ _).2.2.2.2 (alloc4 w _ _ _ _).2.2.1 (alloc4 w _ _ _ _).2.2.2.1 (alloc4 w _ _ _ _).2.1 (by omega) (by omega)), hide (alloc4 w _ _ _ _).1⟩
    · exact ⟨_, _, _, _, rfl, hide (start_wi HH.out (alloc4 w _ _ _ _).1 (alloc4 w _ _ _ _).2.2.2.2 (alloc4 w _ _ _ _).2.2.2.1 (alloc4 w _ _ _ _).2.2.1 (alloc4 w _ _ _ _).2.1 (by omega) (by omega)), hide (alloc4 w _ _ _ _).1⟩
  case rest =>
    obtain ⟨W, cb, bb, sb, rfl, HW, HB⟩ := hcut
    clear hm1 hm2
    go_wp2_with fail
    go_loopw [19] (fun z wr => ∃ (k : Nat) (t : Wk), k ≤ next.length ∧ z = .int .i64 k ∧ Hid (WI w.heap.size W (.slice na next.length nc) next next.length cb bb sb t wr) ∧ Hid (OkW next.length t) ∧ Hid (eachM next next.length (next.length - k) k t = R) ∧ Hid (Below w.heap.size w wr)) (fun z _ => next.length - (intOf z).toNat)
    case atStart => exact ⟨0, _, by omega, rfl, HW, hide (start_ok _), HR0, HB⟩
    case round =>
      clear HR0 HW HB
      obtain ⟨k, t, hk, rfl, HWT, HOKT, HRT, HBT⟩ := hrel
      by_cases hlt : k < next.length
      · have HRS : Hid (eachM next next.length (next.length - (k + 1)) (k + 1) (if t.came.getD k 0 = 0 then visitM next next.length k t else t) = R) := hide (by have := HRT.out; rw [show next.length - k = (next.length - (k + 1)) + 1 by omega, eachM] at this; exact this)
        obtain ⟨ov2, kv2, Z2, hwt⟩ := HWT.out
        obtain ⟨c0, c1, c2, c3, c4, c5, c6⟩ := hwt.cells
        have kcm := hwt.fc.get (ints_at (l := t.came) (i := k) (by rw [HOKT.out.lc]; exact hlt))
        by_cases hz : t.came.getD k 0 = 0
        · have hunv : unv t.came ≤ next.length := by have := HOKT.out.lc; unfold unv; exact Nat.le_trans (List.length_filter_le _ _) (by omega)
          have CV := hide (visit_any hn rfl HNX.out next.length t wr k HWT.out HBT.out.size HOKT.out hlt hz hunv)
          have HOK2 := hide (visit_ok HNX.out next.length k t HOKT.out ⟨by omega, by omega⟩ (by simpa using hz)).1
          rw [if_pos hz] at HRS
          rw [hz] at kcm
          clear hwt hz HRT HWT hunv
          go_wp2_with (go_at_call 78; refine CV.out.mono ?_; rintro _ wv ⟨rfl, hv1, hv2⟩; have HV1 := hide hv1; have HB2 := hide (HBT.out.trans hv2); clear hv1 hv2)
          go_roundw
          case rel => exact ⟨k + 1, _, by omega, by go_num, HV1, HOK2, HRS, HB2⟩
          case measure => simp [intOf]; omega
        · have hz2 : (t.came.getD k 0 == 0) = false := beq_eq_false_iff_ne.2 hz
          rw [if_neg hz] at HRS
          clear hwt HRT
          generalize t.came.getD k 0 = cm at *
          go_wp2_with fail
          go_roundw
          case rel => exact ⟨k + 1, t, by omega, by go_num, HWT, HOKT, HRS, HBT⟩
          case measure => simp [intOf]; omega
      · have HE : Hid (t = R) := hide (by have := HRT.out; rw [show next.length - k = 0 by omega] at this; exact this)
        obtain ⟨ka, kc, q1, q2⟩ := HWT.out.done HOKT.out hn
        have HQ := hide q2
        clear q2 HRT HWT
        go_wp2_with fail
        go_ret
        rw [← HE.out]
        exact ⟨ka, kc, rfl, HQ.out, HBT.out⟩
end Go.Proofs.Ythifoamnmhlghaa
