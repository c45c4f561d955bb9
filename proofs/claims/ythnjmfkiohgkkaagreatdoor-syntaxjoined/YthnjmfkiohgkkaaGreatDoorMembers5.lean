/- Members. By program. -/
import Derived.Test.YthnjmfkiohgkkaaGreatDoorAddAll
import Derived.OwnWalk
namespace Go.Proofs.YthnjmfkiohgkkaaGreatDoor.Sy
open Go.RowKit

theorem loop_len {α : Type} {most : Int} {read : M α} {more : M Bool} (hr : ∀ s a u, read s = .ok a u → s.n < u.n) (hm : ∀ s b u, more s = .ok b u → s.n ≤ u.n) :
    ∀ (f : Nat) (acc : List α) (s t : RS) (l : List α), loopM most read more f acc s = .ok l t → l.length + s.n ≤ acc.length + t.n
  | 0, _, _, _, _, h => by cases h
  | f + 1, acc, s, t, l, h => by
    obtain ⟨b, u, h1, h2⟩ := bind_ok.1 (loop_go h)
    have hu := hm _ _ _ h1
    cases b with
    | false => have h3 := ite_f h2 rfl; cases h3; omega
    | true =>
      obtain ⟨x, v, h3, h4⟩ := bind_ok.1 (ite_t h2 rfl)
      have hv := add_eats hr h3
      have := loop_len hr hm f _ _ _ _ h4
      simp at this
      omega
theorem list_len {α : Type} {K : Toks} {most : Int} {read : M α} {more : M Bool} (hr : ∀ s a u, read s = .ok a u → s.n < u.n) (hm : ∀ s b u, more s = .ok b u → s.n ≤ u.n) {s t : RS} {l : List α} (h : listM K most read more s = .ok l t) : l.length + s.n ≤ t.n := by
  obtain ⟨x, u, h1, h2⟩ := bind_ok.1 h
  have h3 := add_eats hr h1
  have h4 := loop_len hr hm _ _ _ _ _ h2
  simp at h4
  omega
theorem info_member : (Tryz.prog.info? 78).map (fun i => (i.zero, i.size, i.bytes)) = some (some (.agg #[.string ⟨#[]⟩, .string ⟨#[]⟩]), 2, 32) := by kernel_rfl
theorem two_at {xs : List Value} {i : Nat} {a b : Value} (h1 : xs[i * 2]? = some a) (h2 : xs[i * 2 + 1]? = some b) : (xs.drop (i * 2)).take 2 = [a, b] := by
  have l1 := (List.getElem?_eq_some_iff.1 h1).1
  have l2 := (List.getElem?_eq_some_iff.1 h2).1
  apply List.ext_getElem?
  intro j
  rw [List.getElem?_take]
  by_cases hj : j < 2
  · rw [if_pos hj, List.getElem?_drop]
    have : j = 0 ∨ j = 1 := by omega
    rcases this with rfl | rfl
    · rw [Nat.add_zero, h1]; rfl
    · rw [h2]; rfl
  · rw [if_neg hj]
    symm
    apply List.getElem?_eq_none
    simp
    omega
theorem Strs.at {Z : Nat → Prop} {w : World} {l : List Bytes} {v : Value} (h : Strs Z w l v) {i : Nat} {x : Bytes} (hi : l[i]? = some x) : ∃ g c, v = .slice (some ⟨g, 0, none⟩) l.length c ∧ Z g ∧ w.cell? ⟨g, i, none⟩ = some (.string ⟨x.toArray⟩) := by
  obtain ⟨xs, ⟨h1, h2⟩, h3⟩ := h
  have hx := h3 i x hi
  rcases h1.2 with ⟨_, hn⟩ | ⟨g, cap, cur, rfl, _, hg, _, _, _, _⟩
  · have := (List.getElem?_eq_some_iff.1 hi).1; omega
  · refine ⟨g, cap, rfl, h2 g rfl, ?_⟩
    have hli := (List.getElem?_eq_some_iff.1 hi).1
    rw [h1.cellAt i (by omega)]
    unfold cS at hx
    have := congrArg (fun l => l[0]?) hx
    simp only [List.getElem?_take, List.getElem?_drop] at this
    simpa using this

section
variable (R : Nat) (L : List Tok) (N : Nat) (s : RS) (st : St9) (w : World)

set_option maxRecDepth 100000 in
set_option maxHeartbeats 1600000 in
theorem members_any (most : Int) (h : Rd R L N s st w) (o : Out (List (Bytes × Bytes))) (ho : membersM (kt L) most s = o) :
    Calls Tryz.prog 73 #[.pointer (some ⟨R, 0, none⟩), .int .i64 most] w (Ends R L N st w (Rows (New w) 78 2 cM) o) := by
  have HO := hide ho
  have H := hide h
  have F := hide (Fq.refl R w)
  clear h ho
  obtain ⟨iM, hiM, zM0, zM1, zM2⟩ := info_parts' info_member
  go_enter Tryz.func73, Tryz.ntmps73
  have C1 := hide (list_string_name R L N s st _ (nameM (kt L)) (fun s w h => name_any R L N s st w h _ rfl) (commaM (kt L)) (fun s w h => comma_any R L N s st w h _ rfl) (fun s a u => eats_name _ s a u) (fun s u => hasMark_eats) most H.out _ rfl)
  go_wp2_with fail
  refine C1.out.mono ?_
  intro e w1 he
  rcases he.split with ⟨a1, s1, v1, ho, rfl, hv, hR, hF⟩ | ⟨c, m, ho, rfl, hF⟩
  rotate_left 1
  · exact on_panic rfl (.of_bad (bind_no HO.out ho) (F.out.trans hF))
  have HO1 := hide (bind_go HO.out ho)
  have H1 := hide hR
  have F1 := hide (F.out.trans hF)
  obtain ⟨p1, r1, rfl⟩ := rows_form hv
  have V1 := hide (Strs.mono hv fun g hg => Nat.le_trans F.out.size hg)
  clear hv
  have HLN : Hid (a1.length ≤ 65536) := hide (by have := list_len (fun s a u => eats_name _ s a u) (fun s b u => good_comma.le _ s b u) ho; have := hR.nle; have := hR.Lle; omega)
  clear he ho hR hF C1 H F HO
  have C2 := hide (wantMark_any R L N s1 st _ [58] H1.out _ rfl)
  go_wp2_with fail
  refine C2.out.mono ?_
  intro e w2 he
  rcases he.split with ⟨a2, s2, v2, ho, rfl, hv, hR, hF⟩ | ⟨c, m, ho, rfl, hF⟩
  rotate_left 1
  · exact on_panic rfl (.of_bad (bind_no HO1.out ho) (F1.out.trans hF))
  have HO2 := hide (bind_go HO1.out ho)
  have q0 := hide (Strs.keep V1.out (Kp.of_fq (T := [9]) hF H1.out (by decide)) (by decide))
  clear V1
  have H2 := hide hR
  have F2 := hide (F1.out.trans hF)
  cases hv
  clear he ho hR hF C2 H1 F1 HO1
  have C3 := hide (name_any R L N s2 st _ H2.out _ rfl)
  go_wp2_with fail
  refine C3.out.mono ?_
  intro e w3 he
  rcases he.split with ⟨a3, s3, v3, ho, rfl, hv, hR, hF⟩ | ⟨c, m, ho, rfl, hF⟩
  rotate_left 1
  · exact on_panic rfl (.of_bad (bind_no HO2.out ho) (F2.out.trans hF))
  have HO3 := hide (bind_go HO2.out ho)
  have q1 := hide (Strs.keep q0.out (Kp.of_fq (T := [9]) hF H2.out (by decide)) (by decide))
  clear q0
  have H3 := hide hR
  have F3 := hide (F2.out.trans hF)
  cases hv
  clear he ho hR hF C3 H2 F2 HO2
  have hln := HLN.out
  go_wp2_with (at_make; go_must (refine wpList_make_full _ rfl _ _ 23 rfl 0 78 iM _ 2 Tryz.underlying23 hiM zM0 zM1 .i64 .i64 _ _ a1.length rfl rfl rfl rfl (by rw [zM2]; omega) (by unfold maxLen; omega) (Nat.zero_le _) ?_))
  intro w7 hown hg
  have HOWN := hide hown
  have HQ : Hid (R < w3.heap.size) := hide H3.out.lt
  have HG : Hid (w.heap.size ≤ w3.heap.size) := hide F3.out.size
  have HB : Hid (Below w3.heap.size w3 w7) := hide ⟨hg.os, hg.tape, hg.output, hg.size, fun k hk => hg.block k hk (by simp)⟩
  have V7 := hide (Strs.keep q1.out (Kp.of_below (T := [9]) HB.out) (by decide))
  have H7 := hide (H3.out.below HB.out)
  have F7 := hide (F3.out.trans (Fq.of_below HB.out))
  clear hown hg HB q1 H3 F3
  go_wp2_with fail
  go_loopw [26] (fun z wr => ∃ (k : Nat) (xs : List Value), k ≤ a1.length ∧ z = .int .i64 k ∧ Hid (wr.ownsRow 0 78 2 (.slice (some ⟨w3.heap.size, 0, none⟩) a1.length a1.length) a1.length xs) ∧
      Hid (∀ i x, i < k → a1[i]? = some x → xs[i * 2]? = some (.string ⟨x.toArray⟩) ∧ xs[i * 2 + 1]? = some (.string ⟨a3.toArray⟩)) ∧ Hid (Rd R L N s3 st wr) ∧ Hid (Fq R w wr) ∧ Hid (Strs (New w) wr a1 (.slice p1 a1.length r1))) (fun z _ => a1.length - (intOf z).toNat)
  case atStart => exact ⟨0, _, Nat.zero_le _, rfl, HOWN, hide (fun i x hi => by omega), H7, F7, V7⟩
  case round =>
    obtain ⟨k, xs, hk, rfl, HW, HX, HR, HF, HV⟩ := hrel
    clear H7 F7 V7 HOWN
    by_cases hlt : k < a1.length
    · obtain ⟨x, e⟩ : ∃ x, a1[k]? = some x := ⟨a1[k], by simp [hlt]⟩
      have HE := hide e
      obtain ⟨sg, sc, hsl, _, hsc⟩ := Strs.at HV.out e
      simp only [Value.slice.injEq] at hsl
      obtain ⟨rfl, _, rfl⟩ := hsl
      clear e
      have m0 : ∃ u, wr.cell? ⟨w3.heap.size, k * 2, none⟩ = some u := by
        rw [HW.out.cellAt (k * 2) (by omega)]
        have := HW.out.1
        exact ⟨xs[k * 2]'(by omega), List.getElem?_eq_getElem (by omega)⟩
      have m1 : ∃ u, wr.cell? ⟨w3.heap.size, k * 2 + 1, none⟩ = some u := by
        rw [HW.out.cellAt (k * 2 + 1) (by omega)]
        have := HW.out.1
        exact ⟨xs[k * 2 + 1]'(by omega), List.getElem?_eq_getElem (by omega)⟩
      obtain ⟨u0, m0⟩ := m0
      obtain ⟨u1, m1⟩ := m1
      have fz := fun i => HW.out.frozenAt i
      have S1 := HW.out.stored (k * 2) (.string ⟨x.toArray⟩)
      have S2 := S1.1.stored (k * 2 + 1) (.string ⟨a3.toArray⟩)
      obtain ⟨cur, hcur⟩ : ∃ cur, wr.heap[w3.heap.size]? = some (.cells cur 78 (0, 0)) := by
        rcases HW.out.2 with ⟨h1, _⟩ | ⟨g, cap, cur, h1, _, h3, _⟩
        · cases h1
        · cases h1; exact ⟨cur, h3⟩
      have HV1 := hide (Strs.keep HV.out (Kp.setLoc (T := [9]) (i := k * 2) (v := .string ⟨x.toArray⟩) hcur (by decide)) (by decide))
      have HV2 := hide (Strs.keep HV1.out (Kp.setLoc (T := [9]) (i := k * 2 + 1) (v := .string ⟨a3.toArray⟩) (loc_set (i := k * 2) (v := .string ⟨x.toArray⟩) hcur) (by decide)) (by decide))
      have HW2 := hide S2.1
      have HR2 := hide ((HR.out.setLoc HQ.out (k * 2) (.string ⟨x.toArray⟩)).setLoc HQ.out (k * 2 + 1) (.string ⟨a3.toArray⟩))
      have HF2 := hide ((HF.out.setLoc HG.out (k * 2) (.string ⟨x.toArray⟩)).setLoc HG.out (k * 2 + 1) (.string ⟨a3.toArray⟩))
      have hxl := HW.out.1
      have HX2 : Hid (∀ i y, i < k + 1 → a1[i]? = some y → ((xs.set (k * 2) (.string ⟨x.toArray⟩)).set (k * 2 + 1) (.string ⟨a3.toArray⟩))[i * 2]? = some (.string ⟨y.toArray⟩) ∧ ((xs.set (k * 2) (.string ⟨x.toArray⟩)).set (k * 2 + 1) (.string ⟨a3.toArray⟩))[i * 2 + 1]? = some (.string ⟨a3.toArray⟩)) := hide (by
        intro i y hi hy
        by_cases hik : i = k
        · subst hik
          rw [HE.out] at hy
          cases hy
          constructor
          · rw [List.getElem?_set_ne (by omega), List.getElem?_set_self (by omega)]
          · rw [List.getElem?_set_self (by simp; omega)]
        · have := HX.out i y (by omega) hy
          constructor
          · rw [List.getElem?_set_ne (by omega), List.getElem?_set_ne (by omega)]; exact this.1
          · rw [List.getElem?_set_ne (by omega), List.getElem?_set_ne (by omega)]; exact this.2)
      clear S1 S2 hcur HV HV1 HR HF HX HE hxl HW
      go_wp2_with fail
      go_roundw
      case rel => exact ⟨k + 1, _, by omega, by go_num, HW2, HX2, HR2, HF2, HV2⟩
      case measure => simp [intOf]; omega
    · have ek : k = a1.length := by omega
      subst ek
      have HRow : Hid (Rows (New w) 78 2 cM wr (a1.map fun x => (x, a3)) (.slice (some ⟨w3.heap.size, 0, none⟩) a1.length a1.length)) := hide ⟨xs, ⟨by simpa using HW.out, fun g hg => by cases hg; exact HG.out⟩, fun i p hp => by
        rw [List.getElem?_map] at hp
        cases hx : a1[i]? with
        | none => rw [hx] at hp; cases hp
        | some x =>
          rw [hx] at hp
          cases hp
          have hil := (List.getElem?_eq_some_iff.1 hx).1
          exact two_at (HX.out i x hil hx).1 (HX.out i x hil hx).2⟩
      go_wp2_with fail
      go_ret
      exact .of_ok HO3.out HRow.out HR.out HF.out

end
end Go.Proofs.YthnjmfkiohgkkaaGreatDoor.Sy
