/- bind. -/
import Derived.Test.YtbdlgglbcaoakaaGreatScope8
namespace Go.Proofs.YtbdlgglbcaoakaaGreat
open Go.RowKit Go.Shelf Go.Maps Go.WideMaps

section
variable {Z : Nat → Prop} {V M : Nat} {nv kv : Value} {v : Scope} {w : World}
theorem names_len (v : Scope) : v.names.length = v.length := by unfold Scope.names; simp
theorem kinds_len (v : Scope) : v.kinds.length = v.length := by unfold Scope.kinds; simp
theorem stand_mem (v : Scope) (s : Bytes) : s ∈ (standM v s).names := by
  by_cases h : s ∈ v.names
  · rw [stand_in h]; exact h
  · rw [stand_new h]; unfold Scope.names; simp
theorem stand_len (v : Scope) (s : Bytes) : (standM v s).length ≤ v.length + 1 := by
  by_cases h : s ∈ v.names
  · rw [stand_in h]; omega
  · rw [stand_new h]; simp
theorem pos_lt {l : List Bytes} {s : Bytes} (h : s ∈ l) : posB l s < l.length := by unfold posB; rw [if_pos h]; exact List.idxOf_lt_length_of_mem h
theorem pos_get {l : List Bytes} {s : Bytes} (h : s ∈ l) : l[posB l s]? = some s := by
  unfold posB
  rw [if_pos h, List.getElem?_eq_getElem (List.idxOf_lt_length_of_mem h)]
  simp
theorem set_names {v : Scope} {s : Bytes} {k : Int} (h : s ∈ v.names) : Scope.names (v.set (posB v.names s) (s, k)) = v.names := by
  unfold Scope.names at *
  rw [List.map_set]
  apply List.ext_getElem?
  intro i
  by_cases e : posB (v.map (·.1)) s = i
  · subst e
    have hp := pos_get h
    rw [hp, List.getElem?_set_self (by simpa using (pos_lt h))]
  · rw [List.getElem?_set_ne e]
theorem set_kinds {v : Scope} {s : Bytes} {k : Int} {n : Nat} : Scope.kinds (v.set n (s, k)) = v.kinds.set n k := by unfold Scope.kinds; rw [List.map_set]
theorem bind_len (v : Scope) (s : Bytes) (k : Int) : (bindS v s k).length ≤ v.length + 1 := by
  unfold bindS
  have := stand_len v s
  split
  · simpa using this
  · exact this

set_option maxRecDepth 100000 in
set_option maxHeartbeats 6400000 in
theorem bind_any (h : Scp Z V M nv kv v w) (hz : ∀ g, w.heap.size ≤ g → Z g) (hl : v.length + 1 ≤ 4096) (s : Bytes) (hs : s.length ≤ maxLen) (k : Int) :
    Calls Tryz.prog 113 #[ptr V, str s, .int .i64 k] w fun e w' => e = .returned (.bool (decide (kindAt (bindS v s k) s = k))) ∧ (∃ nv' kv', Scp Z V M nv' kv' (bindS v s k) w') ∧ Fr Z w w' := by
  have CS := hide (stand_any h hz hl s hs)
  have HM := hide (stand_mem v s)
  have HL := hide (stand_len v s)
  obtain ⟨v2, hv2⟩ : ∃ v2, bindS v s k = v2 := ⟨_, rfl⟩
  rw [hv2]
  have HV2 : Hid ((if kindAt (standM v s) s = -1 then (standM v s).set (posB (standM v s).names s) (s, k) else standM v s) = v2) := hv2
  clear hv2
  generalize standM v s = v1 at *
  unfold str at *
  clear h hz
  go_enter Tryz.func113, Tryz.ntmps113
  go_wp2_with fail
  refine CS.out.mono ?_
  rintro _ w1 ⟨rfl, ⟨nv1, kv1, hS⟩, hf⟩
  have HS := hide hS
  have HF := hide hf
  have hn := pos_lt HM.out
  rw [names_len] at hn
  have HN := hide hn
  generalize hpn : posB v1.names s = n at *
  have v1c := cell_of_row w1 V 1 _ _ _ hS.box
  simp only [List.getElem?_toArray, List.getElem?_cons_zero, List.getElem?_cons_succ] at v1c
  have hki : v1.kinds[n]? = some (kindAt v1 s) := by
    unfold kindAt
    rw [hpn, List.getD_eq_getElem?_getD, List.getElem?_eq_getElem (by rw [kinds_len]; exact hn)]
    rfl
  obtain ⟨g, cap, rfl, hc, hfz, -⟩ := owns_at hS.rowK (i := n) (x := .int .i64 (kindAt v1 s)) (by unfold ints; rw [List.getElem?_map, hki]; rfl)
  have hfn := hfz n
  have HKI := hide hki
  have hlen := HL.out
  have HP := hide hpn
  have hgV : V ≠ g := fun e => own_ne hS.rowK hS.box (by decide) (by rw [e]; rfl)
  clear hS hf CS hn hfz hki hpn
  generalize hq : kindAt v1 s = q at *
  have HQ := hide hq
  clear hq
  by_cases hq1 : q = -1
  · rw [if_pos hq1] at HV2
    subst hq1
    have o2 : ∀ j, j ≠ g → (w1.setCell ⟨g, n, none⟩ (.int .i64 k)).heap[j]? = w1.heap[j]? := fun j hj => heap_setCell_other w1 ⟨g, n, none⟩ j _ hj
    have HB2 := hide ((o2 V hgV).trans HS.out.box)
    have hv2 := cell_of_row _ V 1 _ _ _ HB2.out
    simp only [List.getElem?_toArray, List.getElem?_cons_zero, List.getElem?_cons_succ] at hv2
    have hst : (ints v1.kinds).set n (.int .i64 k) = ints (v1.kinds.set n k) := by unfold ints; rw [List.map_set]
    have hrk := (HS.out.rowK.stored n (.int .i64 k)).1
    rw [hst] at hrk
    have HRK := hide hrk
    have hki2 : (ints (v1.kinds.set n k))[n]? = some (.int .i64 k) := by unfold ints; rw [List.getElem?_map, List.getElem?_set_self (by rw [kinds_len]; exact HN.out)]; rfl
    obtain ⟨g', cap', e1, hc2, -, -⟩ := owns_at hrk hki2
    cases e1
    have HRN := hide (owns_keep (w' := w1.setCell ⟨g, n, none⟩ (.int .i64 k)) HS.out.rowN fun j hj => o2 j (fun e => own_ne2 HS.out.rowN HS.out.rowK (by decide) (g := g) rfl (by rw [← e]; exact hj)))
    have HMP := hide (HS.out.map.keep (w' := w1.setCell ⟨g, n, none⟩ (.int .i64 k)) (o2 M (fun e => own_neM HS.out.rowK HS.out.map (by rw [e]; rfl))))
    have HF2 := hide (HF.out.trans (.setCell ⟨g, n, none⟩ (.int .i64 k) (HS.out.zk g rfl)))
    clear hrk hst hki2 o2
    go_wp2_with fail
    go_ret
    have hnm : v2.names = v1.names := by rw [← HV2.out, ← HP.out]; exact set_names HM.out
    have hkd : v2.kinds = v1.kinds.set n k := by rw [← HV2.out]; exact set_kinds
    have hln : v2.length = v1.length := by rw [← HV2.out]; simp
    have hka : kindAt v2 s = k := by
      unfold kindAt
      rw [hnm, HP.out, hkd, List.getD_eq_getElem?_getD, List.getElem?_set_self (by rw [kinds_len]; exact HN.out)]
      rfl
    refine ⟨by rw [hka]; simp, ⟨nv1, .slice (some ⟨g, 0, none⟩) v1.length cap, ⟨HB2.out, ?_, ?_, ?_, HS.out.zV, HS.out.zM, HS.out.zn, HS.out.zk, ?_⟩⟩, HF2.out⟩
    · rw [hln, hnm]; exact HRN.out
    · rw [hln, hkd]; exact HRK.out
    · rw [hnm]; exact HMP.out
    · rw [hnm]; exact HS.out.short
  · rw [if_neg hq1] at HV2
    have hqb : (q == -1) = false := beq_eq_false_iff_ne.2 hq1
    go_wp2_with fail
    go_ret
    rw [← HV2.out, HQ.out]
    exact ⟨rfl, ⟨_, _, HS.out⟩, HF.out⟩
end
end Go.Proofs.YtbdlgglbcaoakaaGreat
/- The closure that binds a rule's variables. -/
namespace Go.Proofs.YtbdlgglbcaoakaaGreat
open Go.RowKit Go.Shelf Go.Maps Go.WideMaps

section
variable {Z : Nat → Prop} {R V M rb vb : Nat} {it : Int} {nv kv : Value} {v : Scope} {X : World}
/-- How a call ends that may write a rule's variables. -/
def Eb (Z : Nat → Prop) (V M : Nat) (it : Int) (X : World) (o : Er Scope) (e : Ending) (X' : World) : Prop := Fr Z X X' ∧ match o with
  | .ok v' => e = .returned (.tuple #[]) ∧ ∃ nv kv, Scp Z V M nv kv v' X'
  | .error c => e = .panicked [fl c it]
theorem Eb.bad {o : Er Scope} {c : Int} {X' : World} (h : .error c = o) (hf : Fr Z X X') : Eb Z V M it X o (.panicked [fl c it]) X' := by subst h; exact ⟨hf, rfl⟩
theorem Eb.ok {o : Er Scope} {v' : Scope} {X' : World} (h : .ok v' = o) (hf : Fr Z X X') (hs : ∃ nv kv, Scp Z V M nv kv v' X') : Eb Z V M it X o (.returned (.tuple #[])) X' := by subst h; exact ⟨hf, rfl, hs⟩
theorem Eb.no {o : Er Scope} {e : Ending} {X' : World} (h : Eb Z V M it X o e X') : (∃ c, o = .error c ∧ e = .panicked [fl c it] ∧ Fr Z X X') ∨ (∃ v', o = .ok v' ∧ e = .returned (.tuple #[]) ∧ (∃ nv kv, Scp Z V M nv kv v' X') ∧ Fr Z X X') := by
  obtain ⟨hf, h⟩ := h
  cases o with
  | ok a => exact .inr ⟨a, rfl, h.1, h.2, hf⟩
  | error c => exact .inl ⟨c, rfl, h, hf⟩
/-- What the closure reads. -/
structure Clo (Z : Nat → Prop) (R V rb vb : Nat) (it : Int) (X : World) : Prop where
  crb : X.cell? ⟨rb, 0, none⟩ = some (ptr R)
  cvb : X.cell? ⟨vb, 0, none⟩ = some (ptr V)
  c9 : X.cell? ⟨R, 9, none⟩ = some (.int .i64 it)
  nrb : ¬ Z rb
  nvb : ¬ Z vb
  nR : ¬ Z R
theorem Clo.fr {X' : World} (h : Clo Z R V rb vb it X) (hf : Fr Z X X') : Clo Z R V rb vb it X' :=
  ⟨(World.cell?_of_block (hf.block rb (World.block_lt_of_cell? X _ h.crb) h.nrb)).trans h.crb, (World.cell?_of_block (hf.block vb (World.block_lt_of_cell? X _ h.cvb) h.nvb)).trans h.cvb, (World.cell?_of_block (hf.block R (World.block_lt_of_cell? X _ h.c9) h.nR)).trans h.c9, h.nrb, h.nvb, h.nR⟩

set_option maxRecDepth 100000 in
set_option maxHeartbeats 6400000 in
theorem clos_any (hc : Clo Z R V rb vb it X) (h : Scp Z V M nv kv v X) (hz : ∀ g, X.heap.size ≤ g → Z g) (hl : v.length + 1 ≤ 4096) (s : Bytes) (hs : s.length ≤ maxLen) (k : Int) :
    Calls Tryz.prog 112 #[str s, .int .i64 k, ptr rb, ptr vb] X fun e X' => Eb Z V M it X (bindM v s k) e X' := by
  have CB : Hid (∀ Y, Lk X Y → Calls Tryz.prog 113 #[ptr V, str s, .int .i64 k] Y fun e Y' => e = .returned (.bool (decide (kindAt (bindS v s k) s = k))) ∧ Hid (∃ nv' kv', Scp Z V M nv' kv' (bindS v s k) Y') ∧ Hid (Fr Z X Y') ∧ Y'.cell? ⟨rb, 0, none⟩ = some (ptr R) ∧ Y'.cell? ⟨R, 9, none⟩ = some (.int .i64 it)) := by
    intro Y hY
    refine (bind_any (h.below hY.below) (fun g hg => hz g (by rw [hY.heap] at hg; exact hg)) hl s hs k).mono ?_
    rintro e Y' ⟨he, hS, hf⟩
    have hf2 := (Fr.of_below hY.below).trans hf
    have hc2 := hc.fr hf2
    exact ⟨he, hide hS, hide hf2, hc2.crb, hc2.c9⟩
  obtain ⟨o, ho⟩ : ∃ o, bindM v s k = o := ⟨_, rfl⟩
  rw [ho]
  have HO := hide ho
  unfold bindM at HO
  generalize decide (kindAt (bindS v s k) s = k) = bb at CB HO
  generalize bindS v s k = v2 at CB HO
  have r0 := hc.crb
  have r1 := hc.cvb
  unfold str at *
  clear h hc hz ho
  go_enter Tryz.func112, Tryz.ntmps112
  refine wp_region_any (by kernel_rfl) ?_
  change wpAny _ _ _ _ _ _ _ (World.drew _)
  refine wpAny_take (i := 2) (v := ?v1) rfl (by kernel_rfl) (by kernel_rfl) (by kernel_rfl) (fun _ _ _ h => h) (Or.inl ⟨by rfl, ?hy1⟩) ?rest1
  case hy1 => intro w; first | (go_simp; done) | (go_simp; with_reducible rfl)
  refine wpAny_take (i := 3) (v := ?v2) rfl (by kernel_rfl) (by kernel_rfl) (by kernel_rfl) (fun _ _ _ h => h) (Or.inl ⟨by rfl, ?hy2⟩) ?rest2
  case hy2 => intro w; first | (go_simp; done) | (go_simp; with_reducible rfl)
  refine wpAny_ready (rs := [0, 1]) (by kernel_rfl) (by simp) ?_
  refine AllReady.cons rfl (fun K hK => ?_) ?_
  · go_simp
    refine hK _ _ ?_
    clear hK K
    refine wpAny_ready (rs := [1]) (by kernel_rfl) (by simp) ?_
    refine AllReady.cons rfl (fun K hK => ?_) ?_
    · go_simp
      refine hK _ _ ?_
      clear hK K
      refine wpAny_ready (rs := [4]) (by kernel_rfl) (by simp) ?_
      refine AllReady.cons rfl (fun K hK => ?_) ?_
      · go_simp
        refine (CB.out _ .of).mono ?_
        rintro _ w5 ⟨rfl, HS5, HF5, q1, q2⟩
        refine hK _ _ ?_
        clear hK K
        refine wpAny_ready (rs := [5]) (by kernel_rfl) (by simp) ?_
        refine AllReady.cons rfl (fun K hK => ?_) ?_
        · go_simp
          refine (want_any q2 bb 81).mono ?_
          intro e w6 hE
          rcases hE.no with ⟨c1, h3, rfl, hw⟩ | ⟨_, h3, rfl, hw⟩
          · subst w6
            exact on_panic rfl (Eb.bad (ex_no HO.out h3) HF5.out)
          subst w6
          have HO2 := hide (ex_go HO.out h3)
          clear hE h3
          refine hK _ _ ?_
          clear hK K
          refine wpAny_done (by kernel_rfl) ?_ _
          go_wp2_with fail
          go_end0
          exact Eb.ok HO2.out HF5.out HS5.out
        exact AllReady.nil
      exact AllReady.nil
    exact AllReady.nil
  refine AllReady.cons rfl (fun K hK => ?_) ?_
  · go_simp
    refine hK _ _ ?_
    clear hK K
    refine wpAny_ready (rs := [0, 4]) (by kernel_rfl) (by simp) ?_
    refine AllReady.cons rfl (fun K hK => ?_) ?_
    · go_simp
      refine hK _ _ ?_
      clear hK K
      refine wpAny_ready (rs := [4]) (by kernel_rfl) (by simp) ?_
      refine AllReady.cons rfl (fun K hK => ?_) ?_
      · go_simp
        refine (CB.out _ .of).mono ?_
        rintro _ w5 ⟨rfl, HS5, HF5, q1, q2⟩
        refine hK _ _ ?_
        clear hK K
        refine wpAny_ready (rs := [5]) (by kernel_rfl) (by simp) ?_
        refine AllReady.cons rfl (fun K hK => ?_) ?_
        · go_simp
          refine (want_any q2 bb 81).mono ?_
          intro e w6 hE
          rcases hE.no with ⟨c1, h3, rfl, hw⟩ | ⟨_, h3, rfl, hw⟩
          · subst w6
            exact on_panic rfl (Eb.bad (ex_no HO.out h3) HF5.out)
          subst w6
          have HO2 := hide (ex_go HO.out h3)
          clear hE h3
          refine hK _ _ ?_
          clear hK K
          refine wpAny_done (by kernel_rfl) ?_ _
          go_wp2_with fail
          go_end0
          exact Eb.ok HO2.out HF5.out HS5.out
        exact AllReady.nil
      exact AllReady.nil
    refine AllReady.cons rfl (fun K hK => ?_) ?_
    · go_simp
      refine (CB.out _ .of).mono ?_
      rintro _ w5 ⟨rfl, HS5, HF5, q1, q2⟩
      refine hK _ _ ?_
      clear hK K
      refine wpAny_ready (rs := [0]) (by kernel_rfl) (by simp) ?_
      refine AllReady.cons rfl (fun K hK => ?_) ?_
      · go_simp
        refine hK _ _ ?_
        clear hK K
        refine wpAny_ready (rs := [5]) (by kernel_rfl) (by simp) ?_
        refine AllReady.cons rfl (fun K hK => ?_) ?_
        · go_simp
          refine (want_any q2 bb 81).mono ?_
          intro e w6 hE
          rcases hE.no with ⟨c1, h3, rfl, hw⟩ | ⟨_, h3, rfl, hw⟩
          · subst w6
            exact on_panic rfl (Eb.bad (ex_no HO.out h3) HF5.out)
          subst w6
          have HO2 := hide (ex_go HO.out h3)
          clear hE h3
          refine hK _ _ ?_
          clear hK K
          refine wpAny_done (by kernel_rfl) ?_ _
          go_wp2_with fail
          go_end0
          exact Eb.ok HO2.out HF5.out HS5.out
        exact AllReady.nil
      exact AllReady.nil
    exact AllReady.nil
  exact AllReady.nil
end
end Go.Proofs.YtbdlgglbcaoakaaGreat
/- Members that are named; unlike ones; arguments. -/
namespace Go.Proofs.YtbdlgglbcaoakaaGreat
open Go.RowKit Go.Shelf Go.Maps Go.WideMaps

section
variable {R : Nat} {S : StatM} {st : St9} {mp : Mp8} {it : Nat} {seen : List Bytes} {w : World}
set_option maxRecDepth 100000 in
set_option maxHeartbeats 1600000 in
theorem findMember_any (h : Res R S st mp it seen w) (s : Bytes) (hs : s.length ≤ maxLen) : Calls Tryz.prog 132 #[ptr R, str s] w fun e w' => Qd w it vN (findMemberM S.ctx s) e w' := by
  have CN := hide (isName_any ⟨s.toArray⟩ w)
  have CW := hide (fun b c => want_any h.c9 b c)
  have CF := hide (find_any h.c9 h.mM s hs 82)
  have c11 := h.c11
  obtain ⟨o, ho⟩ : ∃ o, findMemberM S.ctx s = o := ⟨_, rfl⟩
  rw [ho]
  have HO := hide ho
  unfold findMemberM at HO
  unfold str at *
  clear h ho
  go_enter Tryz.func132, Tryz.ntmps132
  go_wp2_with (go_at_call 108; refine CN.out.mono ?_; rintro _ w1 ⟨rfl, hw1⟩; subst w1)
  refine (CW.out _ _).mono ?_
  intro e w1 hE
  rcases hE.no with ⟨c1, h3, rfl, hw⟩ | ⟨_, h3, rfl, hw⟩
  · subst w1
    exact on_panic rfl (Qd.bad (ex_no HO.out h3))
  subst w1
  have HO2 := hide (ex_go HO.out h3)
  clear hE h3 HO
  go_wp2_with fail
  refine CF.out.mono ?_
  intro e w1 hE
  rcases hE.no with ⟨c1, h3, rfl, hw⟩ | ⟨m, h3, rfl, hw⟩
  · subst w1
    exact on_panic rfl (Qd.bad (h3.symm.trans HO2.out))
  subst w1
  go_wp2_with fail
  go_ret
  exact Qd.ok (h3.symm.trans HO2.out)
end

/-- All that a rule's parts are asked with. -/
structure Rx (W0 : World) (R : Nat) (S : StatM) (st : St9) (mp : Mp8) (it : Nat) (seen : List Bytes) (Z : Nat → Prop) (V M rb vb : Nat) (v : Scope) (X : World) : Prop where
  resW : Res R S st mp it seen W0
  bel : Below W0.heap.size W0 X
  low : ∀ k, Z k → W0.heap.size ≤ k
  scp : ∃ nv kv, Scp Z V M nv kv v X
  clo : Clo Z R V rb vb it X
  new : ∀ g, X.heap.size ≤ g → Z g
section
variable {W0 : World} {R : Nat} {S : StatM} {st : St9} {mp : Mp8} {it : Nat} {seen : List Bytes} {Z : Nat → Prop} {V M rb vb : Nat} {v : Scope} {X X' : World}
theorem Rx.res (h : Rx W0 R S st mp it seen Z V M rb vb v X) : Res R S st mp it seen X := h.resW.below h.bel
theorem Rx.fr (h : Rx W0 R S st mp it seen Z V M rb vb v X) {v' : Scope} (hf : Fr Z X X') (hs : ∃ nv kv, Scp Z V M nv kv v' X') : Rx W0 R S st mp it seen Z V M rb vb v' X' :=
  ⟨h.resW, h.bel.trans (hf.below fun k hk => ⟨Nat.lt_of_lt_of_le hk h.bel.size, fun hz => by have := h.low k hz; omega⟩), h.low, hs, h.clo.fr hf, fun g hg => h.new g (Nat.le_trans hf.size hg)⟩
theorem Rx.below (h : Rx W0 R S st mp it seen Z V M rb vb v X) (hb : Below X.heap.size X X') : Rx W0 R S st mp it seen Z V M rb vb v X' := by
  obtain ⟨nv, kv, hs⟩ := h.scp
  exact h.fr (.of_below hb) ⟨nv, kv, hs.below hb⟩
theorem Rx.at0 (h : Rx W0 R S st mp it seen Z V M rb vb v X) : ∀ g, g < R → X.heap[g]? = W0.heap[g]? := fun g hg => h.bel.block g (by have := loc_lt h.resW.box; omega)

set_option maxRecDepth 100000 in
set_option maxHeartbeats 1600000 in
theorem unlike_any (h : Rx W0 R S st mp it seen Z V M rb vb v X) (hl : v.length + 1 ≤ 4096) (s : Bytes) (hs : s.length ≤ maxLen) : Calls Tryz.prog 116 #[ptr R, str s, ptr V] X fun e X' => Eb Z V M it X (unlikeM S.ctx v s) e X' := by
  have CV := hide (isVar_any ⟨s.toArray⟩ X)
  have CM := hide (findMember_any h.res s hs)
  obtain ⟨nv, kv, hS⟩ := h.scp
  have CS := hide (stand_any hS h.new hl s hs)
  have HS := hide hS
  obtain ⟨o, ho⟩ : ∃ o, unlikeM S.ctx v s = o := ⟨_, rfl⟩
  rw [ho]
  have HO := hide ho
  unfold unlikeM at HO
  unfold str at *
  clear h hS ho
  cases hv : isVarB s with
  | true =>
    rw [show (⟨s.toArray⟩ : ByteArray).data.toList = s from rfl, hv] at CV
    rw [if_pos hv] at HO
    go_enter Tryz.func116, Tryz.ntmps116
    go_wp2_with (go_at_call 131; refine CV.out.mono ?_; rintro _ w1 ⟨rfl, hw1⟩; subst w1)
    refine CS.out.mono ?_
    rintro _ w1 ⟨rfl, hs1, hf1⟩
    have HS1 := hide hs1
    have HF1 := hide hf1
    clear hs1 hf1
    go_wp2_with fail
    go_end0
    exact Eb.ok HO.out HF1.out HS1.out
  | false =>
    rw [show (⟨s.toArray⟩ : ByteArray).data.toList = s from rfl, hv] at CV
    rw [if_neg (by rw [hv]; simp)] at HO
    go_enter Tryz.func116, Tryz.ntmps116
    go_wp2_with (go_at_call 131; refine CV.out.mono ?_; rintro _ w1 ⟨rfl, hw1⟩; subst w1)
    refine CM.out.mono ?_
    intro e w1 hE
    rcases hE.no with ⟨c1, h3, rfl, hw⟩ | ⟨m, h3, rfl, hw⟩
    · subst w1
      exact on_panic rfl (Eb.bad (ex_no HO.out h3) (.refl _ _))
    subst w1
    have HO2 := ex_go HO.out h3
    go_wp2_with fail
    go_end0
    exact Eb.ok HO2 (.refl _ _) ⟨_, _, HS.out⟩
end
end Go.Proofs.YtbdlgglbcaoakaaGreat
