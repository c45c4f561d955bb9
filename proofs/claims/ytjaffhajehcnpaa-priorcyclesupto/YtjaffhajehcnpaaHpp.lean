/- A heap in memory: Push, Pop. -/
import Derived.Test.YtjaffhajehcnpaaHdn
namespace Go.Proofs.Ytjaffhajehcnpaa
open Go.RowKit

theorem Hq.len {B hb : Nat} {hv : Value} {l : List Int} {w : World} (h : Hq B hb hv l w) : ∃ a c, hv = .slice a l.length c := owns_slice h.ro
set_option maxRecDepth 100000 in
set_option maxHeartbeats 6400000 in
theorem heapPush_any {B hb : Nat} {hv : Value} {l : List Int} {w : World} {x : Int} (h : Hq B hb hv l w) (hp : Hpl l l.length) (hB : B ≤ w.heap.size) (hl : l.length ≤ 1048576) :
    Calls Try.prog 24 #[rdy hb, .iface 3 (.int .i64 x)] w fun e w' => e = .returned (.tuple #[]) ∧ ∃ hv' l', l'.Perm (l ++ [x]) ∧ Hpl l' l'.length ∧ Hq B hb hv' l' w' ∧ Hf hb hv hv' w w' := by
  have C1 := hide (push_any (x := x) h hB hl)
  have HUP := hide (up_start (x := x) hp)
  have hm1 := m_push w hb
  clear h hp
  go_enter Try.func24, Try.ntmps24
  go_upto_region 1 with (go_at_call 49; refine C1.out.mono ?_; rintro e w1 ⟨rfl, hv1, hq1, hf1⟩; have HQ := hide hq1; have HF := hide hf1; clear hq1 hf1)
  obtain ⟨a, c, hhv⟩ := HQ.out.len
  have c0 := HQ.out.bx.get (i := 0) rfl
  rw [hhv] at c0
  have hln : (l ++ [x]).length = l.length + 1 := by simp
  rw [hln] at c0
  have hm2 := m_len c0
  have C2 := hide (up_any HQ.out HUP.out (by omega))
  obtain ⟨n, hn⟩ : ∃ n, l.length = n := ⟨_, rfl⟩
  rw [hn] at c0 hm2 C2 hl
  clear C1 hm1 hhv hln hn
  have e1 : ((n + 1 : Nat) : Int) - 1 = (n : Int) := by omega
  have e2 : ((n : Int) + 1) - 1 = (n : Int) := by omega
  go_wp2_with (first | (go_at_call 25; refine (len_any _ _ _ _).mono ?_; rintro e w2 ⟨rfl, hw2⟩; subst w2) | (go_at_call 29; refine C2.out.mono ?_; rintro e w3 ⟨rfl, l', p1, p2, p3, p4⟩; have P1 := hide p1; have P2 := hide p2; have P3 := hide p3; have P4 := hide p4; clear p1 p2 p3 p4))
  go_end0
  exact ⟨rfl, _, _, P1.out, P2.out, P3.out, HF.out.trans P4.out⟩
theorem take_last {l : List Int} {m : Nat} (h : l.length = m + 1) : l = l.take m ++ [l.getD m 0] := by
  have hm : m < l.length := by omega
  have e : l.getD m 0 = l[m] := by simp [List.getD, hm]
  rw [e, ← List.take_succ_eq_append_getElem hm, List.take_of_length_le (by omega)]
set_option maxRecDepth 100000 in
set_option maxHeartbeats 6400000 in
theorem heapPop_any {B hb : Nat} {hv : Value} {l : List Int} {w : World} (h : Hq B hb hv l w) (hp : Hpl l l.length) (hn : l ≠ []) (hl : l.length ≤ 1048576) :
    Calls Try.prog 26 #[rdy hb] w fun e w' => e = .returned (.iface 3 (.int .i64 (l.getD 0 0))) ∧ ∃ hv' l', (l' ++ [l.getD 0 0]).Perm l ∧ Hpl l' l'.length ∧ Hq B hb hv' l' w' ∧ Hf hb hv hv' w w' := by
  obtain ⟨m, hm⟩ : ∃ m, l.length = m + 1 := ⟨l.length - 1, by cases l with | nil => exact absurd rfl hn | cons _ _ => simp⟩
  obtain ⟨g, c, hhv, hcell, hfz⟩ := h.at (i := 0) (by omega)
  have c0 := h.bx.get (i := 0) rfl
  rw [hhv] at c0
  have hx := hcell 0 (by omega)
  have hy := hcell m (by omega)
  rw [hm] at c0 hhv
  have hm1 := m_len c0
  have hm2 := m_swap c0
  have HSW := hide ((hhv ▸ h : Hq B hb (.slice (some ⟨g, 0, none⟩) (m + 1) c) l w).swap (i := 0) (j := m))
  have HV := hide hhv
  have HDN := hide (dn_start hp hm)
  have HM := hide hm
  have HLM : Hid ((swp l 0 m).getD m 0 = l.getD 0 0) := hide (by rw [swp_at (by omega) (by omega), if_pos rfl])
  have HPM := hide (swp_perm (l := l) (i := 0) (j := m) (by omega) (by omega))
  have hl2 : m ≤ 1048576 := by omega
  clear h hp hcell hhv hl hn hm
  generalize l.getD 0 0 = x at *
  generalize l.getD m 0 = y at *
  have e1 : ((m + 1 : Nat) : Int) - 1 = (m : Int) := by omega
  have e2 : ((m : Int) + 1) - 1 = (m : Int) := by omega
  go_enter Try.func26, Try.ntmps26
  go_upto_region 2 with (go_at_call 25; refine (len_any _ _ _ _).mono ?_; rintro e w2 ⟨rfl, hw2⟩; subst w2)
  try rw [e2]
  try rw [e1]
  clear e1 e2
  go_upto_region 3 with (go_at_call 51; refine (swap_any (i := 0) (j := m) (by omega) (by omega) hx hy hfz).mono ?_; rintro e w3 ⟨rfl, hw3⟩; have HW3 := hide hw3; clear hw3)
  have HQ : Hid (Hq B hb hv (swp l 0 m) w3) := hide (by rw [HW3.out, HV.out]; exact HSW.out.1)
  have HF : Hid (Hf hb hv hv w w3) := hide ⟨by
    have := HSW.out.2
    rw [HW3.out]
    exact ⟨this.os, this.tape, this.output, this.size, fun k hk hz => this.block k hk fun e => hz (.inr (by rw [HV.out, e]; rfl))⟩, .inl rfl⟩
  have C3 := hide (down_any HQ.out HDN.out (by rw [swp_len, HM.out]; omega) (by rw [swp_len, HM.out]; omega))
  clear HW3 HSW HQ hm1 hm2 hx hy c0 hfz
  go_upto_region 4 with (go_at_call 30; refine C3.out.mono ?_; rintro e w4 ⟨⟨b, rfl⟩, l2, p1, p2, p3, p4, p5⟩; have P1 := hide p1; have P2 := hide p2; have P3 := hide p3; have P4 := hide p4; have P5 := hide p5; clear p1 p2 p3 p4 p5)
  clear C3
  have hl2l : l2.length = m + 1 := by rw [P1.out.length_eq, swp_len]; exact HM.out
  have hsp := take_last hl2l
  rw [P2.out, HLM.out] at hsp
  have C4 := hide (pop_any (q := l2.take m) (x := x) (hsp ▸ P4.out) (by rw [List.length_take]; omega))
  have HPP : Hid ((l2.take m ++ [x]).Perm l) := hide (by rw [← hsp]; exact P1.out.trans HPM.out)
  have HHP := hide (hpl_take P3.out (by omega))
  have hm3 := m_pop w4 hb
  clear hsp hl2l
  go_wp2_with (go_at_call 48; refine C4.out.mono ?_; rintro e w5 ⟨rfl, hv5, q1, q2⟩; have Q1 := hide q1; have Q2 := hide q2; clear q1 q2)
  go_ret
  exact ⟨rfl, _, _, HPP.out, HHP.out, Q1.out, (HF.out.trans P5.out).trans Q2.out⟩
def inN (z b : Int) : Bool := decide (0 ≤ z) && decide (z < b)
theorem inN_iff {z b : Int} : inN z b = true ↔ 0 ≤ z ∧ z < b := by unfold inN; simp
set_option maxHeartbeats 1600000 in
theorem within_any (z b : Int) (w : World) : Calls Try.prog 20 #[.int .i64 z, .int .i64 b] w fun e w' => e = .returned (.bool (inN z b)) ∧ w' = w := by
  by_cases h : 0 ≤ z
  · have HR : Hid (decide (z < b) = inN z b) := hide (by unfold inN; simp [h])
    go_enter Try.func20, Try.ntmps20
    go_wp2_with fail
    go_ret
    exact ⟨ret_bool HR.out, rfl⟩
  · have HR : Hid (false = inN z b) := hide (by unfold inN; simp [h])
    go_enter Try.func20, Try.ntmps20
    go_wp2_with fail
    go_ret
    exact ⟨ret_bool HR.out, rfl⟩
end Go.Proofs.Ytjaffhajehcnpaa
