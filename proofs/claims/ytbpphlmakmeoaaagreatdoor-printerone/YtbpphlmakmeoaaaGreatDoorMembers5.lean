import Derived.Test.YtbpphlmakmeoaaaGreatDoorAddAll
import Derived.OwnWalk
set_option maxRecDepth 100000
set_option maxHeartbeats 1600000
namespace Go.Proofs.YtbpphlmakmeoaaaGreatDoor.Sy
open Go.RowKit
theorem sW {α : Type} {most : Int} {read : M α} {more : M Bool} (hr : ∀ s a u, read s = .ok a u → s.n < u.n) (hm : ∀ s b u, more s = .ok b u → s.n ≤ u.n) :
    ∀ (f : Nat) (acc : List α) (s t : RS) (l : List α), iN most read more f acc s = .ok l t → l.length + s.n ≤ acc.length + t.n
 | 0, _, _, _, _, h => by cases h
 | f + 1, acc, s, t, l, h => by
  obtain ⟨b, u, h1, h2⟩ := eQ.1 (ku h)
  have hu := hm _ _ _ h1
  cases b with
  | false => have h3 := fc h2 rfl; cases h3; omega
  | true =>
   obtain ⟨x, v, h3, h4⟩ := eQ.1 (fs h2 rfl)
   have hv := fX hr h3
   have := sW hr hm f _ _ _ _ h4
   simp at this
   omega
theorem sY {α : Type} {K : fQ} {most : Int} {read : M α} {more : M Bool} (hr : ∀ s a u, read s = .ok a u → s.n < u.n) (hm : ∀ s b u, more s = .ok b u → s.n ≤ u.n) {s t : RS} {l : List α} (h : iP K most read more s = .ok l t) : l.length + s.n ≤ t.n := by
 obtain ⟨x, u, h1, h2⟩ := eQ.1 h
 have h3 := fX hr h1
 have h4 := sW hr hm _ _ _ _ _ h2
 simp at h4
 omega
theorem og : (Tryz.prog.info? 124).map (fun i => (i.zero, i.size, i.bytes)) = some (some (.agg #[.string ⟨#[]⟩, .string ⟨#[]⟩]), 2, 32) := by kernel_rfl
theorem J1 {xs : List Value} {i : Nat} {a b : Value} (h1 : xs[i * 2]? = some a) (h2 : xs[i * 2 + 1]? = some b) : (xs.drop (i * 2)).take 2 = [a, b] := by
 have l1 := (List.getElem?_eq_some_iff.1 h1).1
 have l2 := (List.getElem?_eq_some_iff.1 h2).1
 apply List.ext_getElem?
 intro j
 rw [List.getElem?_take]
 by_cases hj : j < 2
 · rw [if_pos hj, List.getElem?_drop]
   have : j = 0 ∨ j = 1 := by omega
   rcases this with rfl | rfl
   · rw [Nat.add_zero, h1]; rfl
   · rw [h2]; rfl
 · rw [if_neg hj]
   symm
   apply List.getElem?_eq_none
   simp
   omega
theorem Strs.at {Z : Nat → Prop} {w : World} {l : List ee} {v : Value} (h : Strs Z w l v) {i : Nat} {x : ee} (hi : l[i]? = some x) : ∃ g c, v = .slice (some ⟨g, 0, none⟩) l.length c ∧ Z g ∧ w.cell? ⟨g, i, none⟩ = some (.string ⟨x.toArray⟩) := by
 obtain ⟨xs, ⟨h1, h2⟩, h3⟩ := h
 have hx := h3 i x hi
 rcases h1.2 with ⟨_, hn⟩ | ⟨g, Aa, Ab, rfl, _, hg, _, _, _, _⟩
 · have := (List.getElem?_eq_some_iff.1 hi).1; omega
 · refine ⟨g, Aa, rfl, h2 g rfl, ?_⟩
   have Ac := (List.getElem?_eq_some_iff.1 hi).1
   rw [h1.cellAt i (by omega)]
   unfold cS at hx
   have := congrArg (fun l => l[0]?) hx
   simp only [List.getElem?_take, List.getElem?_drop] at this
   simpa using this
section
variable (R : Nat) (L : List fw) (N : Nat) (s : RS) (st : St9) (w : World)
theorem tZ (most : Int) (h : Rd R L N s st w) (o : Out (List (ee × ee))) (ho : kl (kt L) most s = o) :
    Calls Tryz.prog 184 #[.pointer (some ⟨R, 0, none⟩), .int .i64 most] w (Ends R L N st w (Rows (fo w) 124 2 cM) o) := by
 have HO := ec ho
 have H := ec h
 have F := ec (Fq.refl R w)
 clear h ho
 obtain ⟨iM, Am, Aj, As, Ar⟩ := fY og
 go_enter Tryz.func184, Tryz.ntmps184
 have C1 := ec (jn R L N s st _ (gw (kt L)) (fun s w h => gv R L N s st w h _ rfl) (iz (kt L)) (fun s w h => jk R L N s st w h _ rfl) (fun s a u => go _ s a u) (fun s u => gC) most H.out _ rfl)
 go_wp2_with fail
 refine C1.out.mono ?_
 intro e w1 he
 rcases he.split with ⟨a1, s1, v1, ho, rfl, hv, hR, hF⟩ | ⟨c, m, ho, rfl, hF⟩
 rotate_left 1
 · exact eg rfl (.of_bad (el HO.out ho) (F.out.trans hF))
 have Af := ec (ej HO.out ho)
 have H1 := ec hR
 have F1 := ec (F.out.trans hF)
 obtain ⟨p1, r1, rfl⟩ := ed hv
 have V1 := ec (Strs.mono hv fun g hg => Nat.le_trans F.out.size hg)
 clear hv
 have At : Hid (a1.length ≤ 65536) := ec (by have := sY (fun s a u => go _ s a u) (fun s b u => good_comma.le _ s b u) ho; have := hR.nle; have := hR.Lle; omega)
 clear he ho hR hF C1 H F HO
 have C2 := ec (fM R L N s1 st _ [58] H1.out _ rfl)
 go_wp2_with fail
 refine C2.out.mono ?_
 intro e w2 he
 rcases he.split with ⟨a2, s2, v2, ho, rfl, hv, hR, hF⟩ | ⟨c, m, ho, rfl, hF⟩
 rotate_left 1
 · exact eg rfl (.of_bad (el Af.out ho) (F1.out.trans hF))
 have Ad := ec (ej Af.out ho)
 have q0 := ec (Strs.keep V1.out (Kp.of_fq (T := [9]) hF H1.out (by decide)) (by decide))
 clear V1
 have H2 := ec hR
 have F2 := ec (F1.out.trans hF)
 cases hv
 clear he ho hR hF C2 H1 F1 Af
 have C3 := ec (gv R L N s2 st _ H2.out _ rfl)
 go_wp2_with fail
 refine C3.out.mono ?_
 intro e w3 he
 rcases he.split with ⟨a3, s3, v3, ho, rfl, hv, hR, hF⟩ | ⟨c, m, ho, rfl, hF⟩
 rotate_left 1
 · exact eg rfl (.of_bad (el Ad.out ho) (F2.out.trans hF))
 have An := ec (ej Ad.out ho)
 have q1 := ec (Strs.keep q0.out (Kp.of_fq (T := [9]) hF H2.out (by decide)) (by decide))
 clear q0
 have H3 := ec hR
 have F3 := ec (F2.out.trans hF)
 cases hv
 clear he ho hR hF C3 H2 F2 Ad
 have Av := At.out
 go_wp2_with (at_make; go_must (refine wpList_make_full _ rfl _ _ 23 rfl 0 124 iM _ 2 Tryz.underlying23 Am Aj As .i64 .i64 _ _ a1.length rfl rfl rfl rfl (by rw [Ar]; omega) (by unfold maxLen; omega) (Nat.zero_le _) ?_))
 intro w7 Ac hg
 have Ae := ec Ac
 have HQ : Hid (R < w3.heap.size) := ec H3.out.lt
 have HG : Hid (w.heap.size ≤ w3.heap.size) := ec F3.out.size
 have HB : Hid (Below w3.heap.size w3 w7) := ec ⟨hg.os, hg.tape, hg.output, hg.size, fun k hk => hg.block k hk (by simp)⟩
 have V7 := ec (Strs.keep q1.out (Kp.of_below (T := [9]) HB.out) (by decide))
 have H7 := ec (H3.out.below HB.out)
 have F7 := ec (F3.out.trans (Fq.of_below HB.out))
 clear Ac hg HB q1 H3 F3
 go_wp2_with fail
 go_loopw [26] (fun z wr => ∃ (k : Nat) (xs : List Value), k ≤ a1.length ∧ z = .int .i64 k ∧ Hid (wr.ownsRow 0 124 2 (.slice (some ⟨w3.heap.size, 0, none⟩) a1.length a1.length) a1.length xs) ∧
     Hid (∀ i x, i < k → a1[i]? = some x → xs[i * 2]? = some (.string ⟨x.toArray⟩) ∧ xs[i * 2 + 1]? = some (.string ⟨a3.toArray⟩)) ∧ Hid (Rd R L N s3 st wr) ∧ Hid (Fq R w wr) ∧ Hid (Strs (fo w) wr a1 (.slice p1 a1.length r1))) (fun z _ => a1.length - (intOf z).toNat)
 case atStart => exact ⟨0, _, Nat.zero_le _, rfl, Ae, ec (fun i x hi => by omega), H7, F7, V7⟩
 case round =>
  obtain ⟨k, xs, hk, rfl, HW, HX, HR, HF, HV⟩ := hrel
  clear H7 F7 V7 Ae
  by_cases hlt : k < a1.length
  · obtain ⟨x, e⟩ : ∃ x, a1[k]? = some x := ⟨a1[k], by simp [hlt]⟩
    have HE := ec e
    obtain ⟨sg, sc, Ah, _, Aw⟩ := Strs.at HV.out e
    simp only [Value.slice.injEq] at Ah
    obtain ⟨rfl, _, rfl⟩ := Ah
    clear e
    have m0 : ∃ u, wr.cell? ⟨w3.heap.size, k * 2, none⟩ = some u := by
     rw [HW.out.cellAt (k * 2) (by omega)]
     have := HW.out.1
     exact ⟨xs[k * 2]'(by omega), List.getElem?_eq_getElem (by omega)⟩
    have m1 : ∃ u, wr.cell? ⟨w3.heap.size, k * 2 + 1, none⟩ = some u := by
     rw [HW.out.cellAt (k * 2 + 1) (by omega)]
     have := HW.out.1
     exact ⟨xs[k * 2 + 1]'(by omega), List.getElem?_eq_getElem (by omega)⟩
    obtain ⟨u0, m0⟩ := m0
    obtain ⟨u1, m1⟩ := m1
    have fz := fun i => HW.out.frozenAt i
    have S1 := HW.out.stored (k * 2) (.string ⟨x.toArray⟩)
    have S2 := S1.1.stored (k * 2 + 1) (.string ⟨a3.toArray⟩)
    obtain ⟨Ab, Aa⟩ : ∃ Ab, wr.heap[w3.heap.size]? = some (.cells Ab 124 (0, 0)) := by
     rcases HW.out.2 with ⟨h1, _⟩ | ⟨g, Ax, Ab, h1, _, h3, _⟩
     · cases h1
     · cases h1; exact ⟨Ab, h3⟩
    have Ag := ec (Strs.keep HV.out (Kp.setLoc (T := [9]) (i := k * 2) (v := .string ⟨x.toArray⟩) Aa (by decide)) (by decide))
    have Ak := ec (Strs.keep Ag.out (Kp.setLoc (T := [9]) (i := k * 2 + 1) (v := .string ⟨a3.toArray⟩) (fN (i := k * 2) (v := .string ⟨x.toArray⟩) Aa) (by decide)) (by decide))
    have Al := ec S2.1
    have Ao := ec ((HR.out.setLoc HQ.out (k * 2) (.string ⟨x.toArray⟩)).setLoc HQ.out (k * 2 + 1) (.string ⟨a3.toArray⟩))
    have Ap := ec ((HF.out.setLoc HG.out (k * 2) (.string ⟨x.toArray⟩)).setLoc HG.out (k * 2 + 1) (.string ⟨a3.toArray⟩))
    have Aq := HW.out.1
    have Au : Hid (∀ i y, i < k + 1 → a1[i]? = some y → ((xs.set (k * 2) (.string ⟨x.toArray⟩)).set (k * 2 + 1) (.string ⟨a3.toArray⟩))[i * 2]? = some (.string ⟨y.toArray⟩) ∧ ((xs.set (k * 2) (.string ⟨x.toArray⟩)).set (k * 2 + 1) (.string ⟨a3.toArray⟩))[i * 2 + 1]? = some (.string ⟨a3.toArray⟩)) := ec (by
     intro i y hi hy
     by_cases hik : i = k
     · subst hik
       rw [HE.out] at hy
       cases hy
       constructor
       · rw [List.getElem?_set_ne (by omega), List.getElem?_set_self (by omega)]
       · rw [List.getElem?_set_self (by simp; omega)]
     · have := HX.out i y (by omega) hy
       constructor
       · rw [List.getElem?_set_ne (by omega), List.getElem?_set_ne (by omega)]; exact this.1
       · rw [List.getElem?_set_ne (by omega), List.getElem?_set_ne (by omega)]; exact this.2)
    clear S1 S2 Aa HV Ag HR HF HX HE Aq HW
    go_wp2_with fail
    go_roundw
    case rel => exact ⟨k + 1, _, by omega, by go_num, Al, Au, Ao, Ap, Ak⟩
    case measure => simp [intOf]; omega
  · have ek : k = a1.length := by omega
    subst ek
    have HRow : Hid (Rows (fo w) 124 2 cM wr (a1.map fun x => (x, a3)) (.slice (some ⟨w3.heap.size, 0, none⟩) a1.length a1.length)) := ec ⟨xs, ⟨by simpa using HW.out, fun g hg => by cases hg; exact HG.out⟩, fun i p hp => by
     rw [List.getElem?_map] at hp
     cases hx : a1[i]? with
     | none => rw [hx] at hp; cases hp
     | some x =>
      rw [hx] at hp
      cases hp
      have Ai := (List.getElem?_eq_some_iff.1 hx).1
      exact J1 (HX.out i x Ai hx).1 (HX.out i x Ai hx).2⟩
    go_wp2_with fail
    go_ret
    exact .of_ok An.out HRow.out HR.out HF.out
end
end Go.Proofs.YtbpphlmakmeoaaaGreatDoor.Sy
