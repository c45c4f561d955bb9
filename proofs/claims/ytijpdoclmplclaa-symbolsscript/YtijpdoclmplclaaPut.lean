/- put of a table. -/
import Derived.Test.YtijpdoclmplclaaName
namespace Go.Proofs.Ytijpdoclmplclaa
open Go.RowKit Go.Shelf Go.Maps Go.WideMaps

theorem info_parts' {P : Program} {e : Nat} {z : Option Value} {k b : Nat} (h : (P.info? e).map (fun i => (i.zero, i.size, i.bytes)) = some (z, k, b)) : ∃ i, P.info? e = some i ∧ i.zero = z ∧ i.size = k ∧ i.bytes = b := by
  cases hi : P.info? e with
  | none => rw [hi] at h; cases h
  | some i => rw [hi] at h; simp at h; exact ⟨i, rfl, h⟩
theorem infoS : (Try.prog.info? 9).map (fun i => (i.zero, i.size, i.bytes)) = some (some (.string ⟨#[]⟩), 1, 16) := by kernel_rfl
theorem news_at {w : World} {cs : List Value} {t : Nat} {g : Nat} (hg : g = w.heap.size) : ∀ j u, cs[j]? = some u → (w.alloc (.cells cs.toArray t)).cell? ((⟨g, 0, none⟩ : Addr).add j) = some u := by
  subst hg
  intro j u hu
  rw [show ((⟨w.heap.size, 0, none⟩ : Addr).add j) = ⟨w.heap.size, j, none⟩ from by unfold Addr.add; split <;> simp_all, cell_of_row _ _ _ _ t _ (heap_alloc_new w _)]
  simpa using hu
theorem loc_set {w : World} {q T i : Nat} {cs : Array Value} {v : Value} (h : w.heap[q]? = some (.cells cs T (0, 0))) : (w.setCell ⟨q, i, none⟩ v).heap[q]? = some (.cells (cs.setIfInBounds i v) T (0, 0)) := heap_setCell_same w q i cs T v h
theorem wf64 {n : Nat} (h : n ≤ 4096) : (Lit.int .i64 n).wf = true := WalkArith.wf_i64 (by omega)

/-- The blocks behind an append. -/
theorem grown_old {w w1 w2 : World} {o : Obj} {tv : Value} {g k : Nat} (hw : w1 = w.alloc o) (hg : (tv.ownBlock = some g ∧ w1.grownBy w2 (some g)) ∨ (g = w.heap.size + 1 ∧ w1.grownBy w2 none)) (hk : k < w.heap.size) (hn : tv.ownBlock ≠ some k) : w2.heap[k]? = w.heap[k]? := by
  have hk1 : k < w1.heap.size := by rw [hw]; simp; omega
  have e1 : w1.heap[k]? = w.heap[k]? := by rw [hw]; exact Below.heap_alloc w o k hk
  rcases hg with ⟨h1, h2⟩ | ⟨_, h2⟩
  · rw [h2.block k hk1 (fun e => hn (by rw [h1, e])), e1]
  · rw [h2.block k hk1 (by simp), e1]
theorem grown_fr {Z : Nat → Prop} {w w1 w2 : World} {o : Obj} {tv : Value} {g : Nat} (hw : w1 = w.alloc o) (hg : (tv.ownBlock = some g ∧ w1.grownBy w2 (some g)) ∨ (g = w.heap.size + 1 ∧ w1.grownBy w2 none)) (hz : ∀ g, tv.ownBlock = some g → Z g) : Fr Z w w2 := by
  have h1 : Fr Z w w1 := by rw [hw]; exact .of_below ((Below.refl _ _).alloc (Nat.le_refl _) _)
  rcases hg with ⟨h1', h2⟩ | ⟨_, h2⟩
  · exact h1.trans (.of_grown h2 fun k e => by cases e; exact hz _ h1')
  · exact h1.trans (.of_grown h2 fun k e => by cases e)

section
variable {Z : Nat → Prop} {B M : Nat} {nv : Value} {d : Int} {sv : Value} {most : Int} {l : List Bytes} {w : World}

set_option maxRecDepth 100000 in
set_option maxHeartbeats 3200000 in
theorem put_any (h : Tab Z B M nv d sv most l w) (s : ByteArray) (hs : isNameB s.data.toList = true) (hn : s.data.toList ∉ l) (hm : (l.length : Int) < most) (hz : ∀ g, w.heap.size ≤ g → Z g) :
    Calls Try.prog 44 #[ptr B, .string s] w fun e w' => e = .returned (.int .i64 l.length) ∧ (∃ nv', Tab Z B M nv' 0 (.slice none 0 0) most (l ++ [s.data.toList]) w') ∧ Fr Z w w' := by
  have H := hide h
  obtain ⟨-, c1, -, -, -, -, -, -⟩ := h.cells
  obtain ⟨a, c, rfl⟩ := h.form
  obtain ⟨D, hD, hN⟩ := h.map
  have HD := hide hD
  have HN := hide hN
  have HROW := hide h.row
  have HZ := hide hz
  have hl := h.len2
  have hsz : s.size ≤ 32 := by have := (name_short hs).2; simpa using this
  have HK := hide (keyOf_string_mk (P := Try.prog) Try.underlying9 (s := s) (by unfold maxLen; omega))
  obtain ⟨iM, hiM, zM0, zM1, zM2⟩ := info_parts' infoS
  have HM := hide hm
  clear h hD hN hz hm
  go_enter Try.func44, Try.ntmps44
  go_wp2_with (at_builtin; go_must (refine wpList_append_two _ rfl _ _ 39 rfl 0 9 iM _ 1 16 Try.underlying39 hiM zM0 zM1 zM2 rfl (by decide) _ _ _ rfl (HROW.out.alloc _) ⟨w.heap.size, 0, none⟩ 1 [.string s] rfl rfl (news_at rfl) (by simp [Value.oneCell']) (by unfold maxLen; omega) (by omega) (Nat.zero_le _) ?_))
  intro g cap w2 hown hg
  have hB := loc_lt H.out.box
  have hBn : (Value.slice a l.length c).ownBlock ≠ some B := by
    intro e
    rcases HROW.out.2 with ⟨h1, _⟩ | ⟨g', _, cur, h1, _, h3, _⟩
    · rw [h1] at e; cases e
    · rw [h1] at e; cases e; rw [H.out.box] at h3; cases h3
  have hMn : (Value.slice a l.length c).ownBlock ≠ some M := by
    intro e
    obtain ⟨es, ck, hb, _⟩ := HD.out
    rcases HROW.out.2 with ⟨h1, _⟩ | ⟨g', _, cur, h1, _, h3, _⟩
    · rw [h1] at e; cases e
    · rw [h1] at e; cases e; rw [hb] at h3; cases h3
  have box2 := (grown_old rfl hg hB hBn).trans H.out.box
  have HD2 := hide (map_keep HD.out (grown_old rfl hg HD.out.lt hMn))
  have HF2 := hide (grown_fr (Z := Z) rfl hg H.out.zn)
  have HOWN := hide hown
  have HG := hide hg
  have hgn : ∀ k, k < w.heap.size → Value.ownBlock (Value.slice a l.length c) ≠ some k → g ≠ k := by
    intro k hk hne e
    rcases HG.out with ⟨h1, _⟩ | ⟨h1, _⟩
    · exact hne (by rw [h1, e])
    · omega
  have HBG := hide (hgn B hB hBn)
  have HMG := hide (hgn M HD.out.lt hMn)
  have b1 := cell_of_row w2 B 1 _ _ _ box2
  have f1 : ∀ i, w2.frozen? ⟨B, i, none⟩ = false := fun i => frozen_of_row w2 B i _ _ box2
  simp at b1
  have box3 := loc_set (i := 1) (v := .slice (some ⟨g, 0, none⟩) (l.length + 1) cap) box2
  have b2 := cell_of_row _ B 2 _ _ _ box3
  simp at b2
  have hMB : M ≠ B := by
    rintro rfl
    obtain ⟨es, ck, hb, _⟩ := HD2.out
    rw [box2] at hb
    cases hb
  have HD3 := hide (map_keep HD2.out (heap_setCell_other w2 ⟨B, 1, none⟩ M (.slice (some ⟨g, 0, none⟩) (l.length + 1) cap) hMB))
  have BX2 := hide box2
  have BX3 := hide box3
  clear hown hg box2 box3 hBn hMn hgn c1
  go_wp2_with (at_mapUpdate; go_must (refine wpList_mapUpdate_own _ rfl _ _ _ 56 rfl 9 3 law Try.underlying56 _ M l.length _ rfl HD3.out (by unfold maxLen; omega) _ _ _ rfl rfl HK.out _ [] (plainElem_int Try.underlying3 (wf64 hl)) ?_))
  intro w4 hm4 hg4
  have HB3 : Hid (B < (w2.setCell ⟨B, 1, none⟩ (.slice (some ⟨g, 0, none⟩) (l.length + 1) cap)).heap.size) := hide (loc_lt BX3.out)
  have box4 := (hg4.block B HB3.out (by intro e; cases e; exact hMB rfl)).trans BX3.out
  have HM4 := hide hm4
  have HG4 := hide hg4
  have d3 := cell_of_row w4 B 3 _ _ _ box4
  have d4 := cell_of_row w4 B 4 _ _ _ box4
  have d5 := cell_of_row w4 B 5 _ _ _ box4
  have d6 := cell_of_row w4 B 6 _ _ _ box4
  have g1 : ∀ i, w4.frozen? ⟨B, i, none⟩ = false := fun i => frozen_of_row w4 B i _ _ box4
  simp at d3 d4 d5 d6
  have BX4 := hide box4
  clear hm4 hg4 box4 b1 b2 f1
  go_wp2_with fail
  go_ret
  have box5 := loc_set (i := 6) (v := .slice none 0 0) (loc_set (i := 5) (v := .int .u32 0) (loc_set (i := 4) (v := .int .i32 0) (loc_set (i := 3) (v := .int .u32 0) BX4.out)))
  have o5 : ∀ k, k ≠ B → ((((w4.setCell ⟨B, 3, none⟩ (.int .u32 0)).setCell ⟨B, 4, none⟩ (.int .i32 0)).setCell ⟨B, 5, none⟩ (.int .u32 0)).setCell ⟨B, 6, none⟩ (.slice none 0 0)).heap[k]? = w4.heap[k]? := fun k hk => by
    rw [heap_setCell_other _ _ k _ hk, heap_setCell_other _ _ k _ hk, heap_setCell_other _ _ k _ hk, heap_setCell_other _ _ k _ hk]
  have hgb : g < (w2.setCell ⟨B, 1, none⟩ (.slice (some ⟨g, 0, none⟩) (l.length + 1) cap)).heap.size := by have := owns_lt HOWN.out (g := g) rfl; simpa using this
  have hgz : Z g := by
    rcases HG.out with ⟨h1, _⟩ | ⟨h1, _⟩
    · exact H.out.zn g h1
    · exact HZ.out g (by omega)
  refine ⟨rfl, ⟨.slice (some ⟨g, 0, none⟩) (l.length + 1) cap, ?_⟩, ?_⟩
  · refine ⟨box5, ?_, ⟨_, ?_, num_put HN.out (HD.out.tidy law).isMap hn⟩, .inl rfl, H.out.zB, H.out.zM, ?_, by omega, H.out.most1, H.out.most2, by have := HM.out; simp; omega, ?_, ?_⟩
    · rw [show strs (l ++ [s.data.toList]) = strs l ++ [.string s] from by unfold strs; rw [List.map_append, List.map_cons, List.map_nil, str_ba], show (l ++ [s.data.toList]).length = l.length + 1 from by simp]
      refine owns_keep HOWN.out fun k hk => ?_
      cases hk
      rw [o5 _ HBG.out, HG4.out.block _ hgb (fun e => HMG.out (by cases e; rfl)), heap_setCell_other _ _ _ _ HBG.out]
    · rw [show (l ++ [s.data.toList]).length = l.length + 1 from by simp]
      exact map_keep HM4.out (o5 M hMB)
    · intro k hk
      cases hk
      exact hgz
    · rw [List.nodup_append]
      refine ⟨H.out.nodup, by simp, ?_⟩
      intro x hx y hy e
      simp at hy
      subst hy
      subst e
      exact hn hx
    · intro x hx
      rw [List.mem_append] at hx
      rcases hx with hx | hx
      · exact H.out.names x hx
      · simp at hx
        rw [hx]
        exact hs
  · have zB := H.out.zB
    exact (((((HF2.out.trans (.setCell _ _ zB)).trans (.of_grown HG4.out fun k e => by cases e; exact H.out.zM)).trans (.setCell _ _ zB)).trans (.setCell _ _ zB)).trans (.setCell _ _ zB)).trans (.setCell _ _ zB)
end
end Go.Proofs.Ytijpdoclmplclaa
