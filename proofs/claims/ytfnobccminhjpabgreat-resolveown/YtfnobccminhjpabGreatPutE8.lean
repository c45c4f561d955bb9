/- .. where the key is an exception. -/
import Derived.Test.YtfnobccminhjpabGreatPut8
namespace Go.Proofs.YtfnobccminhjpabGreat
open Go.RowKit Go.Shelf Go.Maps Go.WideMaps

theorem keyE_mk {e : Bytes × Bytes} (h1 : e.1.length ≤ maxLen) (h2 : e.2.length ≤ maxLen) : keyOf Tryz.prog 157 (.agg #[str e.1, str e.2]) = some (.string (keyE e)) := by
  unfold keyOf
  simp only [Tryz.underlying157]
  rw [if_pos (by rw [keyTypeE]; simp [Value.formed, Tryz.underlying157, cellsE])]
  have hm : ∃ m, Tryz.prog.types.size + 1 = m + 1 + 1 := ⟨Tryz.prog.types.size - 1, by have : 0 < Tryz.prog.types.size := of_decide_eq_true (by kernel_rfl); omega⟩
  obtain ⟨m, hm⟩ := hm
  rw [hm]
  have hl : ∀ s : Bytes, s.length ≤ maxLen → Tryz.prog.keyLits (m + 1) 9 [str s] = some [.string s] := by
    intro s hs
    unfold Program.keyLits str
    simp only [Tryz.underlying9]
    rw [if_pos (by show s.toArray.size ≤ maxLen; simpa using hs)]
  unfold Program.keyLits
  simp only [Tryz.underlying157, Value.cells]
  rw [if_pos ⟨by rw [cellsE]; rfl, by first | kernel_rfl | simp⟩]
  have e1 : Tryz.prog.cellsOf 9 = 1 := by kernel_rfl
  simp [List.mapM_cons, List.mapM_nil, e1, hl _ h1, hl _ h2, keyE]

section
variable {w : World} {b : Nat} {l : List Bytes}
set_option maxRecDepth 100000 in
set_option maxHeartbeats 3200000 in
theorem putE_any (hm : KMap 157 w b l) (hl : l.length ≤ 4096) (x : Bytes × Bytes) (hx1 : x.1.length ≤ maxLen) (hx2 : x.2.length ≤ maxLen) :
    Calls Tryz.prog 127 #[.map (some b), .agg #[str x.1, str x.2], .int .i64 l.length] w fun e w' => e = .returned (.bool (!decide (keyE x ∈ l))) ∧ KMap 157 w' b (l ++ [keyE x]) ∧ Fr (fun k => k = b) w w' := by
  obtain ⟨n, D, h1, h2, h3⟩ := hm
  have HK := hide (keyE_mk hx1 hx2)
  have HWF := hide (wf64 (Nat.le_trans hl (by decide)))
  have HA := hide ((Below.refl w.heap.size w).alloc (Nat.le_refl _) (.cells #[str x.1, str x.2] 157))
  have hm : (w.alloc (.cells #[str x.1, str x.2] 157)).ownsMap (H := Unit) Tryz.prog 157 (plainElem Tryz.prog 3) b n D := h1.alloc _
  have H1 := hide h1
  have H2 := hide h2
  have H3 := hide h3
  cases hh : decide (keyE x ∈ l) with
  | true =>
    have hd : Maps.has D (.string (keyE x)) = true := (h2 _).1.trans hh
    have HH := hide (of_decide_eq_true hh)
    clear h1 h2 h3 hh
    unfold str at *
    go_enter Tryz.func127, Tryz.ntmps127
    go_wp2_with (at_lookup; go_must (refine wpList_lookup_own_ok_int _ rfl _ _ 123 rfl 157 3 .i64 lawE Tryz.underlying123 Tryz.underlying3 (Tryz.zeroValue3 _) b n _ rfl hm _ _ rfl HK.out ?_); intro cc hat hwc; rw [hd])
    go_ret
    exact ⟨rfl, ⟨n, D, hm, num_same H2.out HH.out, by have := H3.out; simp; omega⟩, .of_below HA.out⟩
  | false =>
    have hd : Maps.has D (.string (keyE x)) = false := (h2 _).1.trans hh
    have HH := hide (of_decide_eq_false hh)
    clear h1 h2 hh
    unfold str at *
    go_enter Tryz.func127, Tryz.ntmps127
    go_wp2_with (first | (at_lookup; go_must (refine wpList_lookup_own_ok_int _ rfl _ _ 123 rfl 157 3 .i64 lawE Tryz.underlying123 Tryz.underlying3 (Tryz.zeroValue3 _) b n _ rfl hm _ _ rfl HK.out ?_); intro cc hat hwc; rw [hd]) | (at_mapUpdate; go_must (refine wpList_mapUpdate_own _ rfl _ _ _ 123 rfl 157 3 lawE Tryz.underlying123 _ b n _ rfl hm (by unfold maxLen; omega) _ _ _ rfl rfl HK.out _ [] (plainElem_int Tryz.underlying3 HWF.out) ?_); intro w1 hm1 hg1))
    go_ret
    exact ⟨rfl, ⟨_, _, hm1, num_put H2.out (H1.out.tidy lawE).isMap HH.out, by simp; omega⟩, (Fr.of_below HA.out).trans (.of_grown hg1 fun k e => by cases e; rfl)⟩
end
end Go.Proofs.YtfnobccminhjpabGreat
