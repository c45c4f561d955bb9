/- A rule's variables in memory: stand, bind. -/
import Derived.Test.YtbdlgglbcaoakaaGreatTotal8
namespace Go.Proofs.YtbdlgglbcaoakaaGreat
open Go.RowKit Go.Shelf Go.Maps Go.WideMaps

theorem info_parts' {P : Program} {e : Nat} {z : Option Value} {k b : Nat} (h : (P.info? e).map (fun i => (i.zero, i.size, i.bytes)) = some (z, k, b)) : ∃ i, P.info? e = some i ∧ i.zero = z ∧ i.size = k ∧ i.bytes = b := by
  cases hi : P.info? e with
  | none => rw [hi] at h; cases h
  | some i => rw [hi] at h; simp at h; exact ⟨i, rfl, h⟩
theorem infoS : (Tryz.prog.info? 9).map (fun i => (i.zero, i.size, i.bytes)) = some (some (.string ⟨#[]⟩), 1, 16) := by kernel_rfl
theorem infoI : (Tryz.prog.info? 3).map (fun i => (i.zero, i.size, i.bytes)) = some (some (.int .i64 0), 1, 8) := by kernel_rfl
theorem news_at {w : World} {cs : List Value} {t : Nat} {g : Nat} (hg : g = w.heap.size) : ∀ j u, cs[j]? = some u → (w.alloc (.cells cs.toArray t)).cell? ((⟨g, 0, none⟩ : Addr).add j) = some u := by
  subst hg
  intro j u hu
  rw [show ((⟨w.heap.size, 0, none⟩ : Addr).add j) = ⟨w.heap.size, j, none⟩ from by unfold Addr.add; split <;> simp_all, cell_of_row _ _ _ _ t _ (heap_alloc_new w _)]
  simpa using hu
theorem owns_keep {w w' : World} {base e k : Nat} {v : Value} {n : Nat} {xs : List Value} (h : w.ownsRow base e k v n xs) (hb : ∀ g, v.ownBlock = some g → w'.heap[g]? = w.heap[g]?) : w'.ownsRow base e k v n xs := by
  obtain ⟨h1, h2⟩ := h
  refine ⟨h1, ?_⟩
  rcases h2 with h2 | ⟨g, cap, cur, rfl, h3, h4, h5⟩
  · exact .inl h2
  · exact .inr ⟨g, cap, cur, rfl, h3, (hb g rfl).trans h4, h5⟩
theorem owns_slice {w : World} {base e k : Nat} {v : Value} {n : Nat} {xs : List Value} (h : w.ownsRow base e k v n xs) : ∃ a c, v = .slice a n c := by
  rcases h.2 with ⟨h1, h2⟩ | ⟨g, cap, cur, h1, _⟩
  · exact ⟨none, 0, by rw [h1, h2]⟩
  · exact ⟨_, _, h1⟩
theorem owns_lt {w : World} {base e k : Nat} {v : Value} {n : Nat} {xs : List Value} (h : w.ownsRow base e k v n xs) {g : Nat} (hg : v.ownBlock = some g) : g < w.heap.size := (h.lt g hg).2
theorem owns_at {w : World} {e : Nat} {v : Value} {n : Nat} {xs : List Value} (h : w.ownsRow 0 e 1 v n xs) {i : Nat} {x : Value} (hx : xs[i]? = some x) : ∃ g c, v = .slice (some ⟨g, 0, none⟩) n c ∧ w.cell? ⟨g, i, none⟩ = some x ∧ (∀ j, w.frozen? ⟨g, j, none⟩ = false) ∧ i < n := by
  obtain ⟨h1, h2⟩ := h
  have hi : i < xs.length := by
    apply Classical.byContradiction
    intro hn
    rw [List.getElem?_eq_none (by omega)] at hx
    cases hx
  rcases h2 with ⟨rfl, rfl⟩ | ⟨g, cap, cur, rfl, h3, h4, h5, h6, h7, h8⟩
  · omega
  · refine ⟨g, cap, rfl, ?_, fun j => frozen_of_row w g j cur e h4, by omega⟩
    rw [cell_of_row w g i cur e _ h4, ← Array.getElem?_toList]
    rw [← h8, List.getElem?_take] at hx
    split at hx
    · exact hx
    · cases hx

theorem grown_old {w w1 w2 : World} {o : Obj} {tv : Value} {g k : Nat} (hw : w1 = w.alloc o) (hg : (tv.ownBlock = some g ∧ w1.grownBy w2 (some g)) ∨ (g = w.heap.size + 1 ∧ w1.grownBy w2 none)) (hk : k < w.heap.size) (hn : tv.ownBlock ≠ some k) : w2.heap[k]? = w.heap[k]? := by
  have hk1 : k < w1.heap.size := by rw [hw]; simp; omega
  have e1 : w1.heap[k]? = w.heap[k]? := by rw [hw]; exact Below.heap_alloc w o k hk
  rcases hg with ⟨h1, h2⟩ | ⟨_, h2⟩
  · rw [h2.block k hk1 (fun e => hn (by rw [h1, e])), e1]
  · rw [h2.block k hk1 (by simp), e1]
theorem grown_fr {Z : Nat → Prop} {w w1 w2 : World} {o : Obj} {tv : Value} {g : Nat} (hw : w1 = w.alloc o) (hg : (tv.ownBlock = some g ∧ w1.grownBy w2 (some g)) ∨ (g = w.heap.size + 1 ∧ w1.grownBy w2 none)) (hz : ∀ g, tv.ownBlock = some g → Z g) : Fr Z w w2 := by
  have h1 : Fr Z w w1 := by rw [hw]; exact .of_below ((Below.refl _ _).alloc (Nat.le_refl _) _)
  rcases hg with ⟨h1', h2⟩ | ⟨_, h2⟩
  · exact h1.trans (.of_grown h2 fun k e => by cases e; exact hz _ h1')
  · exact h1.trans (.of_grown h2 fun k e => by cases e)

/-- The variables at block V, all of whose blocks are Z's. -/
structure Scp (Z : Nat → Prop) (V M : Nat) (nv kv : Value) (v : Scope) (w : World) : Prop where
  box : w.heap[V]? = some (.cells #[nv, kv, .map (some M)] 181 (0, 0))
  rowN : w.ownsRow 0 9 1 nv v.length (strs v.names)
  rowK : w.ownsRow 0 3 1 kv v.length (ints v.kinds)
  map : KMap 9 w M v.names
  zV : Z V
  zM : Z M
  zn : ∀ g, nv.ownBlock = some g → Z g
  zk : ∀ g, kv.ownBlock = some g → Z g
  short : ∀ s ∈ v.names, s.length ≤ maxLen
theorem Scp.keep {Z : Nat → Prop} {V M : Nat} {nv kv : Value} {v : Scope} {w w' : World} (h : Scp Z V M nv kv v w) (hb : ∀ k, Z k → k < w.heap.size → w'.heap[k]? = w.heap[k]?) : Scp Z V M nv kv v w' :=
  ⟨(hb V h.zV (loc_lt h.box)).trans h.box, owns_keep h.rowN fun g hg => hb g (h.zn g hg) (owns_lt h.rowN hg), owns_keep h.rowK fun g hg => hb g (h.zk g hg) (owns_lt h.rowK hg), h.map.keep (hb M h.zM h.map.lt), h.zV, h.zM, h.zn, h.zk, h.short⟩
theorem Scp.below {Z : Nat → Prop} {V M : Nat} {nv kv : Value} {v : Scope} {w w' : World} (h : Scp Z V M nv kv v w) (hb : Below w.heap.size w w') : Scp Z V M nv kv v w' := h.keep fun k _ hk => hb.block k hk
theorem own_ne {w : World} {q e e2 : Nat} {v : Value} {n : Nat} {xs : List Value} {cs : Array Value} (h : w.ownsRow 0 e 1 v n xs) (hq : w.heap[q]? = some (.cells cs e2 (0, 0))) (hne : e ≠ e2) : v.ownBlock ≠ some q := by
  intro hg
  rcases h.2 with ⟨h1, _⟩ | ⟨g', _, cur, h1, _, h3, _⟩
  · rw [h1] at hg; cases hg
  · rw [h1] at hg; cases hg; rw [hq] at h3; cases h3; exact hne rfl
theorem own_ne2 {w : World} {e e2 : Nat} {v u : Value} {n m : Nat} {xs ys : List Value} (h : w.ownsRow 0 e 1 v n xs) (hq : w.ownsRow 0 e2 1 u m ys) (hne : e ≠ e2) {g : Nat} (hg : u.ownBlock = some g) : v.ownBlock ≠ some g := by
  rcases hq.2 with ⟨h1, _⟩ | ⟨g', _, cur, h1, _, h3, _⟩
  · rw [h1] at hg; cases hg
  · rw [h1] at hg; cases hg
    exact own_ne h h3 hne
theorem own_neM {w : World} {e : Nat} {v : Value} {n : Nat} {xs : List Value} {kt M : Nat} {l : List Bytes} (h : w.ownsRow 0 e 1 v n xs) (hm : KMap kt w M l) : v.ownBlock ≠ some M := by
  intro hg
  obtain ⟨_, _, ⟨es, c, hb, _⟩, _⟩ := hm
  rcases h.2 with ⟨h1, _⟩ | ⟨g', _, cur, h1, _, h3, _⟩
  · rw [h1] at hg; cases hg
  · rw [h1] at hg; cases hg; rw [hb] at h3; cases h3
theorem box_neM {w : World} {V e : Nat} {cs : Array Value} {kt M : Nat} {l : List Bytes} (h : w.heap[V]? = some (.cells cs e (0, 0))) (hm : KMap kt w M l) : V ≠ M := by
  rintro rfl
  obtain ⟨_, _, ⟨es, c, hb, _⟩, _⟩ := hm
  rw [hb] at h
  cases h

theorem putS_in {w : World} {b : Nat} {l : List Bytes} (hm : KMap 9 w b l) (hl : l.length ≤ 4096) (s : Bytes) (hs : s.length ≤ maxLen) (h : s ∈ l) :
    Calls Tryz.prog 92 #[.map (some b), str s, .int .i64 l.length] w fun e w' => e = .returned (.bool false) ∧ w' = w := by
  obtain ⟨n, D, h1, h2, h3⟩ := hm
  refine (put_map h1 (by omega) s hs l.length (by omega)).mono ?_
  rintro e w' ⟨rfl, hd⟩
  rw [(h2 s).1, decide_eq_true h] at hd ⊢
  rcases hd with ⟨_, rfl⟩ | ⟨hf, _⟩
  · exact ⟨rfl, rfl⟩
  · cases hf
theorem putS_new {w : World} {b : Nat} {l : List Bytes} (hm : KMap 9 w b l) (hl : l.length ≤ 4096) (s : Bytes) (hs : s.length ≤ maxLen) (h : s ∉ l) :
    Calls Tryz.prog 92 #[.map (some b), str s, .int .i64 l.length] w fun e w' => e = .returned (.bool true) ∧ KMap 9 w' b (l ++ [s]) ∧ Fr (fun k => k = b) w w' := by
  refine (putS_any hm (by omega) s hs).mono ?_
  rintro e w' ⟨rfl, h2⟩
  rw [decide_eq_false h]
  exact ⟨rfl, h2⟩

section
variable {Z : Nat → Prop} {V M : Nat} {nv kv : Value} {v : Scope} {w : World}
theorem stand_in {s : Bytes} (h : s ∈ v.names) : standM v s = v := by unfold standM; rw [if_pos h]
theorem stand_new {s : Bytes} (h : s ∉ v.names) : standM v s = v ++ [(s, -1)] := by unfold standM; rw [if_neg h]

set_option maxRecDepth 100000 in
set_option maxHeartbeats 6400000 in
theorem stand_any (h : Scp Z V M nv kv v w) (hz : ∀ g, w.heap.size ≤ g → Z g) (hl : v.length + 1 ≤ 4096) (s : Bytes) (hs : s.length ≤ maxLen) :
    Calls Tryz.prog 127 #[ptr V, str s] w fun e w' => e = .returned (.int .i64 (posB (standM v s).names s)) ∧ (∃ nv' kv', Scp Z V M nv' kv' (standM v s) w') ∧ Fr Z w w' := by
  have H := hide h
  have HZ := hide hz
  have hvn : v.names.length = v.length := by unfold Scope.names; simp
  have v0 := cell_of_row w V 0 _ _ _ h.box
  have v2 := cell_of_row w V 2 _ _ _ h.box
  simp only [List.getElem?_toArray, List.getElem?_cons_zero, List.getElem?_cons_succ] at v0 v2
  obtain ⟨na, nc, rfl⟩ := owns_slice h.rowN
  by_cases hm : s ∈ v.names
  · rw [stand_in hm]
    have CP := hide (fun X (hX : Lk w X) => putS_in (w := X) (h.map.keep (by rw [hX.heap])) (by omega) s hs hm)
    have hlk := fun q => look_S (w := w.drewN q) (h.map.keep rfl) s hs
    rw [hvn] at CP
    unfold str at *
    clear h
    go_enter Tryz.func127, Tryz.ntmps127
    go_upto_region 1 with fail
    refine region_last (by kernel_rfl) (by kernel_rfl) (by kernel_rfl) (by kernel_rfl) (by kernel_rfl) ?_
    dsimp only [List.dropLast, List.getLast, List.cons_append, List.nil_append]
    repeat (go_big_quiet_step (fail))
    refine wpQuiet_nil ?_
    rintro _ ⟨nq, rfl⟩
    go_wp2_with fail
    refine (CP.out _ .of).mono ?_
    rintro _ w1 ⟨rfl, hw1⟩
    subst w1
    go_wp2_with fail
    go_ret
    exact ⟨rfl, ⟨_, _, H.out.below (below_drewN _ _)⟩, .of_below (below_drewN _ _)⟩
  · rw [stand_new hm]
    have CP := hide (fun X (hX : Lk w X) => putS_new (w := X) (h.map.keep (by rw [hX.heap])) (by omega) s hs hm)
    rw [hvn] at CP
    obtain ⟨iM, hiM, zM0, zM1, zM2⟩ := info_parts' infoS
    obtain ⟨jM, hjM, yM0, yM1, yM2⟩ := info_parts' infoI
    unfold str at *
    clear h
    go_enter Tryz.func127, Tryz.ntmps127
    go_upto_region 1 with fail
    refine region_last (by kernel_rfl) (by kernel_rfl) (by kernel_rfl) (by kernel_rfl) (by kernel_rfl) ?_
    dsimp only [List.dropLast, List.getLast, List.cons_append, List.nil_append]
    repeat (go_big_quiet_step (fail))
    refine wpQuiet_nil ?_
    rintro _ ⟨nq, rfl⟩
    go_wp2_with fail
    refine (CP.out _ .of).mono ?_
    rintro _ w1 ⟨rfl, hm1, hf1⟩
    have hfw : Fr (fun k => k = M) w w1 := (Fr.of_below (below_drewN w nq)).trans hf1
    have HF1 := hide (hfw.mono (Z' := Z) fun k _ e => by rw [e]; exact H.out.zM)
    have hVM := box_neM H.out.box H.out.map
    have hb1 := (hfw.block V (loc_lt H.out.box) hVM).trans H.out.box
    have HN1 := hide (owns_keep (w' := w1) H.out.rowN fun g hg => hfw.block g (owns_lt H.out.rowN hg) (fun e => own_neM H.out.rowN H.out.map (by rw [← e]; exact hg)))
    have HK1 := hide (owns_keep (w' := w1) H.out.rowK fun g hg => hfw.block g (owns_lt H.out.rowK hg) (fun e => own_neM H.out.rowK H.out.map (by rw [← e]; exact hg)))
    have HM1 := hide hm1
    have HB1 := hide hb1
    have v01 := cell_of_row w1 V 0 _ _ _ hb1
    have v11 := cell_of_row w1 V 1 _ _ _ hb1
    have v21 := cell_of_row w1 V 2 _ _ _ hb1
    simp only [List.getElem?_toArray, List.getElem?_cons_zero, List.getElem?_cons_succ] at v01 v11 v21
    clear hm1 hf1 hfw hVM hb1 CP v0 v2
    go_wp2_with (at_builtin; go_must (refine wpList_append_two _ rfl _ _ 22 rfl 0 9 iM _ 1 16 Tryz.underlying22 hiM zM0 zM1 zM2 rfl (by decide) _ _ _ rfl (HN1.out.alloc _) ⟨w1.heap.size, 0, none⟩ 1 [.string ⟨s.toArray⟩] rfl rfl (news_at rfl) (by simp [Value.oneCell']) (by unfold maxLen; omega) (by omega) (Nat.zero_le _) ?_))
    intro g cap w2 hown hg
    have hgB : g ≠ V := by
      rcases hg with ⟨h1, _⟩ | ⟨h1, _⟩
      · intro e; exact own_ne HN1.out HB1.out (by decide) (by rw [h1, e])
      · have := loc_lt HB1.out; omega
    have hgM : g ≠ M := by
      rcases hg with ⟨h1, _⟩ | ⟨h1, _⟩
      · intro e; exact own_neM HN1.out HM1.out (by rw [h1, e])
      · have := HM1.out.lt; omega
    have HGZ : Hid (Z g) := by
      rcases hg with ⟨h1, _⟩ | ⟨h1, _⟩
      · exact H.out.zn g h1
      · exact HZ.out g (by have := HF1.out.size; omega)
    have hb2 := (grown_old rfl hg (loc_lt HB1.out) (own_ne HN1.out HB1.out (by decide))).trans HB1.out
    have hk2 := owns_keep (w' := w2) HK1.out fun j hj => grown_old rfl hg (owns_lt HK1.out hj) (own_ne2 HN1.out HK1.out (by decide) hj)
    have hm2 := HM1.out.keep (w' := w2) (grown_old rfl hg HM1.out.lt (own_neM HN1.out HM1.out))
    have hf2 := HF1.out.trans (grown_fr (Z := Z) rfl hg H.out.zn)
    have hkV : ∀ j, kv.ownBlock = some j → j ≠ V := fun j hj e => own_ne hk2 hb2 (by decide) (by rw [← e]; exact hj)
    have o3 : ∀ j, j ≠ V → (w2.setCell ⟨V, 0, none⟩ (.slice (some ⟨g, 0, none⟩) (v.length + 1) cap)).heap[j]? = w2.heap[j]? := fun j hj => heap_setCell_other w2 ⟨V, 0, none⟩ j _ hj
    have hb3 := loc_set (i := 0) (v := .slice (some ⟨g, 0, none⟩) (v.length + 1) cap) hb2
    have HB3 := hide hb3
    have HN3 := hide (owns_keep hown fun j hj => o3 j (by cases hj; exact hgB))
    have HK3 := hide (owns_keep hk2 fun j hj => o3 j (hkV j hj))
    have HM3 := hide (hm2.keep (o3 M (fun e => box_neM hb2 hm2 e.symm)))
    have HF3 := hide (hf2.trans (.setCell ⟨V, 0, none⟩ (.slice (some ⟨g, 0, none⟩) (v.length + 1) cap) H.out.zV))
    have w20 := cell_of_row w2 V 0 _ _ _ hb2
    have wf := frozen_of_row w2 V 0 _ _ hb2
    have w31 := cell_of_row _ V 1 _ _ _ hb3
    simp only [List.getElem?_toArray, List.getElem?_cons_zero, List.getElem?_cons_succ, List.setIfInBounds_toArray, List.set_cons_zero] at w20 w31
    have HNE := hide (fun j (hj : kv.ownBlock = some j) => own_ne2 HN3.out HK3.out (by decide) hj)
    obtain ⟨ea, ec, rfl⟩ := owns_slice HK3.out
    clear hown hg hb2 hk2 hm2 hf2 hkV o3 hb3 HB1 HN1 HK1 HM1 HF1 v01 v11 v21
    go_upto_region 3 with fail
    generalize w2.setCell ⟨V, 0, none⟩ (.slice (some ⟨g, 0, none⟩) (v.length + 1) cap) = w3 at *
    go_wp2_with (at_builtin; go_must (refine wpList_append_two _ rfl _ _ 57 rfl 0 3 jM _ 1 8 Tryz.underlying57 hjM yM0 yM1 yM2 rfl (by decide) _ _ _ rfl (HK3.out.alloc _) ⟨w3.heap.size, 0, none⟩ 1 [.int .i64 (-1)] rfl rfl (news_at rfl) (by simp [Value.oneCell']) (by unfold maxLen; omega) (by omega) (Nat.zero_le _) ?_))
    intro g4 cap4 w4 hown4 hg4
    have hgB4 : g4 ≠ V := by
      rcases hg4 with ⟨h1, _⟩ | ⟨h1, _⟩
      · intro e; exact own_ne HK3.out HB3.out (by decide) (by rw [h1, e])
      · have := loc_lt HB3.out; omega
    have HGZ4 : Hid (Z g4) := by
      rcases hg4 with ⟨h1, _⟩ | ⟨h1, _⟩
      · exact H.out.zk g4 h1
      · exact HZ.out g4 (by have := HF3.out.size; omega)
    have hb4 := (grown_old rfl hg4 (loc_lt HB3.out) (own_ne HK3.out HB3.out (by decide))).trans HB3.out
    have hn4 := owns_keep (w' := w4) HN3.out fun j hj => grown_old rfl hg4 (owns_lt HN3.out hj) (fun e => HNE.out j e hj)
    have hm4 := HM3.out.keep (w' := w4) (grown_old rfl hg4 HM3.out.lt (own_neM HK3.out HM3.out))
    have hf4 := HF3.out.trans (grown_fr (Z := Z) rfl hg4 H.out.zk)
    have o5 : ∀ j, j ≠ V → (w4.setCell ⟨V, 1, none⟩ (.slice (some ⟨g4, 0, none⟩) (v.length + 1) cap4)).heap[j]? = w4.heap[j]? := fun j hj => heap_setCell_other w4 ⟨V, 1, none⟩ j _ hj
    have hb5 := loc_set (i := 1) (v := .slice (some ⟨g4, 0, none⟩) (v.length + 1) cap4) hb4
    have HB5 := hide hb5
    have HN5 := hide (owns_keep hn4 fun j hj => o5 j (by cases hj; exact hgB))
    have HK5 := hide (owns_keep hown4 fun j hj => o5 j (by cases hj; exact hgB4))
    have HM5 := hide (hm4.keep (o5 M (fun e => box_neM hb4 hm4 e.symm)))
    have HF5 := hide (hf4.trans (.setCell ⟨V, 1, none⟩ (.slice (some ⟨g4, 0, none⟩) (v.length + 1) cap4) H.out.zV))
    have x41 := cell_of_row w4 V 1 _ _ _ hb4
    have xf := frozen_of_row w4 V 1 _ _ hb4
    have x52 := cell_of_row _ V 2 _ _ _ hb5
    simp only [List.getElem?_toArray, List.getElem?_cons_zero, List.getElem?_cons_succ, List.setIfInBounds_toArray, List.set_cons_zero, List.set_cons_succ] at x41 x52
    have hlk := look_S HM5.out s hs
    clear hown4 hg4 hb4 hn4 hm4 hf4 o5 hb5 HB3 HN3 HK3 HM3 HF3 w20 wf w31 HNE
    go_wp2_with fail
    go_ret
    have hnm : (v ++ [(s, (-1 : Int))]).names = v.names ++ [s] := by unfold Scope.names; simp
    have hkd : (v ++ [(s, (-1 : Int))]).kinds = v.kinds ++ [-1] := by unfold Scope.kinds; simp
    have hln : (v ++ [(s, (-1 : Int))]).length = v.length + 1 := by simp
    refine ⟨by rw [hnm]; rfl, ⟨.slice (some ⟨g, 0, none⟩) (v.length + 1) cap, .slice (some ⟨g4, 0, none⟩) (v.length + 1) cap4, ⟨?_, ?_, ?_, ?_, H.out.zV, H.out.zM, fun j hj => by cases hj; exact HGZ.out, fun j hj => by cases hj; exact HGZ4.out, ?_⟩⟩, HF5.out⟩
    · simpa using HB5.out
    · rw [hln, hnm, show strs (v.names ++ [s]) = strs v.names ++ [.string ⟨s.toArray⟩] from by unfold strs str; simp]; exact HN5.out
    · rw [hln, hkd, show ints (v.kinds ++ [-1]) = ints v.kinds ++ [.int .i64 (-1)] from by unfold ints; simp]; exact HK5.out
    · rw [hnm]; exact HM5.out
    · intro u hu
      rw [hnm, List.mem_append] at hu
      rcases hu with hu | hu
      · exact H.out.short u hu
      · simp at hu; rw [hu]; exact hs
end
end Go.Proofs.YtbdlgglbcaoakaaGreat
