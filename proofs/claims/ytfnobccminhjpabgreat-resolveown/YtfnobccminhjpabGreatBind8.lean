/- bind. -/
import Derived.Test.YtfnobccminhjpabGreatScope8
namespace Go.Proofs.YtfnobccminhjpabGreat
open Go.RowKit Go.Shelf Go.Maps Go.WideMaps

section
variable {Z : Nat → Prop} {V M : Nat} {nv kv : Value} {v : Scope} {w : World}
theorem names_len (v : Scope) : v.names.length = v.length := by unfold Scope.names; simp
theorem kinds_len (v : Scope) : v.kinds.length = v.length := by unfold Scope.kinds; simp
theorem stand_mem (v : Scope) (s : Bytes) : s ∈ (standM v s).names := by
  by_cases h : s ∈ v.names
  · rw [stand_in h]; exact h
  · rw [stand_new h]; unfold Scope.names; simp
theorem stand_len (v : Scope) (s : Bytes) : (standM v s).length ≤ v.length + 1 := by
  by_cases h : s ∈ v.names
  · rw [stand_in h]; omega
  · rw [stand_new h]; simp
theorem pos_lt {l : List Bytes} {s : Bytes} (h : s ∈ l) : posB l s < l.length := by unfold posB; rw [if_pos h]; exact List.idxOf_lt_length_of_mem h
theorem pos_get {l : List Bytes} {s : Bytes} (h : s ∈ l) : l[posB l s]? = some s := by
  unfold posB
  rw [if_pos h, List.getElem?_eq_getElem (List.idxOf_lt_length_of_mem h)]
  simp
theorem set_names {v : Scope} {s : Bytes} {k : Int} (h : s ∈ v.names) : Scope.names (v.set (posB v.names s) (s, k)) = v.names := by
  unfold Scope.names at *
  rw [List.map_set]
  apply List.ext_getElem?
  intro i
  by_cases e : posB (v.map (·.1)) s = i
  · subst e
    have hp := pos_get h
    rw [hp, List.getElem?_set_self (by simpa using (pos_lt h))]
  · rw [List.getElem?_set_ne e]
theorem set_kinds {v : Scope} {s : Bytes} {k : Int} {n : Nat} : Scope.kinds (v.set n (s, k)) = v.kinds.set n k := by unfold Scope.kinds; rw [List.map_set]
theorem bind_len (v : Scope) (s : Bytes) (k : Int) : (bindS v s k).length ≤ v.length + 1 := by
  unfold bindS
  have := stand_len v s
  split
  · simpa using this
  · exact this

set_option maxRecDepth 100000 in
set_option maxHeartbeats 6400000 in
theorem bind_any (h : Scp Z V M nv kv v w) (hz : ∀ g, w.heap.size ≤ g → Z g) (hl : v.length + 1 ≤ 4096) (s : Bytes) (hs : s.length ≤ maxLen) (k : Int) :
    Calls Tryz.prog 60 #[ptr V, str s, .int .i64 k] w fun e w' => e = .returned (.bool (decide (kindAt (bindS v s k) s = k))) ∧ (∃ nv' kv', Scp Z V M nv' kv' (bindS v s k) w') ∧ Fr Z w w' := by
  have CS := hide (stand_any h hz hl s hs)
  have HM := hide (stand_mem v s)
  have HL := hide (stand_len v s)
  obtain ⟨v2, hv2⟩ : ∃ v2, bindS v s k = v2 := ⟨_, rfl⟩
  rw [hv2]
  have HV2 : Hid ((if kindAt (standM v s) s = -1 then (standM v s).set (posB (standM v s).names s) (s, k) else standM v s) = v2) := hv2
  clear hv2
  generalize standM v s = v1 at *
  unfold str at *
  clear h hz
  go_enter Tryz.func60, Tryz.ntmps60
  go_wp2_with fail
  refine CS.out.mono ?_
  rintro _ w1 ⟨rfl, ⟨nv1, kv1, hS⟩, hf⟩
  have HS := hide hS
  have HF := hide hf
  have hn := pos_lt HM.out
  rw [names_len] at hn
  have HN := hide hn
  generalize hpn : posB v1.names s = n at *
  have v1c := cell_of_row w1 V 1 _ _ _ hS.box
  simp only [List.getElem?_toArray, List.getElem?_cons_zero, List.getElem?_cons_succ] at v1c
  have hki : v1.kinds[n]? = some (kindAt v1 s) := by
    unfold kindAt
    rw [hpn, List.getD_eq_getElem?_getD, List.getElem?_eq_getElem (by rw [kinds_len]; exact hn)]
    rfl
  obtain ⟨g, cap, rfl, hc, hfz, -⟩ := owns_at hS.rowK (i := n) (x := .int .i64 (kindAt v1 s)) (by unfold ints; rw [List.getElem?_map, hki]; rfl)
  have hfn := hfz n
  have HKI := hide hki
  have hlen := HL.out
  have HP := hide hpn
  have hgV : V ≠ g := fun e => own_ne hS.rowK hS.box (by decide) (by rw [e]; rfl)
  clear hS hf CS hn hfz hki hpn
  generalize hq : kindAt v1 s = q at *
  have HQ := hide hq
  clear hq
  by_cases hq1 : q = -1
  · rw [if_pos hq1] at HV2
    subst hq1
    have o2 : ∀ j, j ≠ g → (w1.setCell ⟨g, n, none⟩ (.int .i64 k)).heap[j]? = w1.heap[j]? := fun j hj => heap_setCell_other w1 ⟨g, n, none⟩ j _ hj
    have HB2 := hide ((o2 V hgV).trans HS.out.box)
    have hv2 := cell_of_row _ V 1 _ _ _ HB2.out
    simp only [List.getElem?_toArray, List.getElem?_cons_zero, List.getElem?_cons_succ] at hv2
    have hst : (ints v1.kinds).set n (.int .i64 k) = ints (v1.kinds.set n k) := by unfold ints; rw [List.map_set]
    have hrk := (HS.out.rowK.stored n (.int .i64 k)).1
    rw [hst] at hrk
    have HRK := hide hrk
    have hki2 : (ints (v1.kinds.set n k))[n]? = some (.int .i64 k) := by unfold ints; rw [List.getElem?_map, List.getElem?_set_self (by rw [kinds_len]; exact HN.out)]; rfl
    obtain ⟨g', cap', e1, hc2, -, -⟩ := owns_at hrk hki2
    cases e1
    have HRN := hide (owns_keep (w' := w1.setCell ⟨g, n, none⟩ (.int .i64 k)) HS.out.rowN fun j hj => o2 j (fun e => own_ne2 HS.out.rowN HS.out.rowK (by decide) (g := g) rfl (by rw [← e]; exact hj)))
    have HMP := hide (HS.out.map.keep (w' := w1.setCell ⟨g, n, none⟩ (.int .i64 k)) (o2 M (fun e => own_neM HS.out.rowK HS.out.map (by rw [e]; rfl))))
    have HF2 := hide (HF.out.trans (.setCell ⟨g, n, none⟩ (.int .i64 k) (HS.out.zk g rfl)))
    clear hrk hst hki2 o2
    go_wp2_with fail
    go_ret
    have hnm : v2.names = v1.names := by rw [← HV2.out, ← HP.out]; exact set_names HM.out
    have hkd : v2.kinds = v1.kinds.set n k := by rw [← HV2.out]; exact set_kinds
    have hln : v2.length = v1.length := by rw [← HV2.out]; simp
    have hka : kindAt v2 s = k := by
      unfold kindAt
      rw [hnm, HP.out, hkd, List.getD_eq_getElem?_getD, List.getElem?_set_self (by rw [kinds_len]; exact HN.out)]
      rfl
    refine ⟨by rw [hka]; simp, ⟨nv1, .slice (some ⟨g, 0, none⟩) v1.length cap, ⟨HB2.out, ?_, ?_, ?_, HS.out.zV, HS.out.zM, HS.out.zn, HS.out.zk, ?_⟩⟩, HF2.out⟩
    · rw [hln, hnm]; exact HRN.out
    · rw [hln, hkd]; exact HRK.out
    · rw [hnm]; exact HMP.out
    · rw [hnm]; exact HS.out.short
  · rw [if_neg hq1] at HV2
    have hqb : (q == -1) = false := beq_eq_false_iff_ne.2 hq1
    go_wp2_with fail
    go_ret
    rw [← HV2.out, HQ.out]
    exact ⟨rfl, ⟨_, _, HS.out⟩, HF.out⟩
end
end Go.Proofs.YtfnobccminhjpabGreat
