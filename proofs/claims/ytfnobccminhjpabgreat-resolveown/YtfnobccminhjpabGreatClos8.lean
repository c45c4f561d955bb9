/- The closure that binds a rule's variables. -/
import Derived.Test.YtfnobccminhjpabGreatBind8
namespace Go.Proofs.YtfnobccminhjpabGreat
open Go.RowKit Go.Shelf Go.Maps Go.WideMaps

section
variable {Z : Nat → Prop} {R V M rb vb : Nat} {it : Int} {nv kv : Value} {v : Scope} {X : World}
/-- How a call ends that may write a rule's variables. -/
def Eb (Z : Nat → Prop) (V M : Nat) (it : Int) (X : World) (o : Er Scope) (e : Ending) (X' : World) : Prop := Fr Z X X' ∧ match o with
  | .ok v' => e = .returned (.tuple #[]) ∧ ∃ nv kv, Scp Z V M nv kv v' X'
  | .error c => e = .panicked [fl c it]
theorem Eb.bad {o : Er Scope} {c : Int} {X' : World} (h : .error c = o) (hf : Fr Z X X') : Eb Z V M it X o (.panicked [fl c it]) X' := by subst h; exact ⟨hf, rfl⟩
theorem Eb.ok {o : Er Scope} {v' : Scope} {X' : World} (h : .ok v' = o) (hf : Fr Z X X') (hs : ∃ nv kv, Scp Z V M nv kv v' X') : Eb Z V M it X o (.returned (.tuple #[])) X' := by subst h; exact ⟨hf, rfl, hs⟩
theorem Eb.no {o : Er Scope} {e : Ending} {X' : World} (h : Eb Z V M it X o e X') : (∃ c, o = .error c ∧ e = .panicked [fl c it] ∧ Fr Z X X') ∨ (∃ v', o = .ok v' ∧ e = .returned (.tuple #[]) ∧ (∃ nv kv, Scp Z V M nv kv v' X') ∧ Fr Z X X') := by
  obtain ⟨hf, h⟩ := h
  cases o with
  | ok a => exact .inr ⟨a, rfl, h.1, h.2, hf⟩
  | error c => exact .inl ⟨c, rfl, h, hf⟩
/-- What the closure reads. -/
structure Clo (Z : Nat → Prop) (R V rb vb : Nat) (it : Int) (X : World) : Prop where
  crb : X.cell? ⟨rb, 0, none⟩ = some (ptr R)
  cvb : X.cell? ⟨vb, 0, none⟩ = some (ptr V)
  c9 : X.cell? ⟨R, 9, none⟩ = some (.int .i64 it)
  nrb : ¬ Z rb
  nvb : ¬ Z vb
  nR : ¬ Z R
theorem Clo.fr {X' : World} (h : Clo Z R V rb vb it X) (hf : Fr Z X X') : Clo Z R V rb vb it X' :=
  ⟨(World.cell?_of_block (hf.block rb (World.block_lt_of_cell? X _ h.crb) h.nrb)).trans h.crb, (World.cell?_of_block (hf.block vb (World.block_lt_of_cell? X _ h.cvb) h.nvb)).trans h.cvb, (World.cell?_of_block (hf.block R (World.block_lt_of_cell? X _ h.c9) h.nR)).trans h.c9, h.nrb, h.nvb, h.nR⟩

set_option maxRecDepth 100000 in
set_option maxHeartbeats 6400000 in
theorem clos_any (hc : Clo Z R V rb vb it X) (h : Scp Z V M nv kv v X) (hz : ∀ g, X.heap.size ≤ g → Z g) (hl : v.length + 1 ≤ 4096) (s : Bytes) (hs : s.length ≤ maxLen) (k : Int) :
    Calls Tryz.prog 59 #[str s, .int .i64 k, ptr rb, ptr vb] X fun e X' => Eb Z V M it X (bindM v s k) e X' := by
  have CB : Hid (∀ Y, Lk X Y → Calls Tryz.prog 60 #[ptr V, str s, .int .i64 k] Y fun e Y' => e = .returned (.bool (decide (kindAt (bindS v s k) s = k))) ∧ Hid (∃ nv' kv', Scp Z V M nv' kv' (bindS v s k) Y') ∧ Hid (Fr Z X Y') ∧ Y'.cell? ⟨rb, 0, none⟩ = some (ptr R) ∧ Y'.cell? ⟨R, 9, none⟩ = some (.int .i64 it)) := by
    intro Y hY
    refine (bind_any (h.below hY.below) (fun g hg => hz g (by rw [hY.heap] at hg; exact hg)) hl s hs k).mono ?_
    rintro e Y' ⟨he, hS, hf⟩
    have hf2 := (Fr.of_below hY.below).trans hf
    have hc2 := hc.fr hf2
    exact ⟨he, hide hS, hide hf2, hc2.crb, hc2.c9⟩
  obtain ⟨o, ho⟩ : ∃ o, bindM v s k = o := ⟨_, rfl⟩
  rw [ho]
  have HO := hide ho
  unfold bindM at HO
  generalize decide (kindAt (bindS v s k) s = k) = bb at CB HO
  generalize bindS v s k = v2 at CB HO
  have r0 := hc.crb
  have r1 := hc.cvb
  unfold str at *
  clear h hc hz ho
  go_enter Tryz.func59, Tryz.ntmps59
  refine wp_region_any (by kernel_rfl) ?_
  change wpAny _ _ _ _ _ _ _ (World.drew _)
  refine wpAny_take (i := 2) (v := ?v1) rfl (by kernel_rfl) (by kernel_rfl) (by kernel_rfl) (fun _ _ _ h => h) (Or.inl ⟨by rfl, ?hy1⟩) ?rest1
  case hy1 => intro w; first | (go_simp; done) | (go_simp; with_reducible rfl)
  refine wpAny_take (i := 3) (v := ?v2) rfl (by kernel_rfl) (by kernel_rfl) (by kernel_rfl) (fun _ _ _ h => h) (Or.inl ⟨by rfl, ?hy2⟩) ?rest2
  case hy2 => intro w; first | (go_simp; done) | (go_simp; with_reducible rfl)
  refine wpAny_ready (rs := [0, 1]) (by kernel_rfl) (by simp) ?_
  refine AllReady.cons rfl (fun K hK => ?_) ?_
  · go_simp
    refine hK _ _ ?_
    clear hK K
    refine wpAny_ready (rs := [1]) (by kernel_rfl) (by simp) ?_
    refine AllReady.cons rfl (fun K hK => ?_) ?_
    · go_simp
      refine hK _ _ ?_
      clear hK K
      refine wpAny_ready (rs := [4]) (by kernel_rfl) (by simp) ?_
      refine AllReady.cons rfl (fun K hK => ?_) ?_
      · go_simp
        refine (CB.out _ .of).mono ?_
        rintro _ w5 ⟨rfl, HS5, HF5, q1, q2⟩
        refine hK _ _ ?_
        clear hK K
        refine wpAny_ready (rs := [5]) (by kernel_rfl) (by simp) ?_
        refine AllReady.cons rfl (fun K hK => ?_) ?_
        · go_simp
          refine (want_any q2 bb 81).mono ?_
          intro e w6 hE
          rcases hE.no with ⟨c1, h3, rfl, hw⟩ | ⟨_, h3, rfl, hw⟩
          · subst w6
            exact on_panic rfl (Eb.bad (ex_no HO.out h3) HF5.out)
          subst w6
          have HO2 := hide (ex_go HO.out h3)
          clear hE h3
          refine hK _ _ ?_
          clear hK K
          refine wpAny_done (by kernel_rfl) ?_ _
          go_wp2_with fail
          go_end0
          exact Eb.ok HO2.out HF5.out HS5.out
        exact AllReady.nil
      exact AllReady.nil
    exact AllReady.nil
  refine AllReady.cons rfl (fun K hK => ?_) ?_
  · go_simp
    refine hK _ _ ?_
    clear hK K
    refine wpAny_ready (rs := [0, 4]) (by kernel_rfl) (by simp) ?_
    refine AllReady.cons rfl (fun K hK => ?_) ?_
    · go_simp
      refine hK _ _ ?_
      clear hK K
      refine wpAny_ready (rs := [4]) (by kernel_rfl) (by simp) ?_
      refine AllReady.cons rfl (fun K hK => ?_) ?_
      · go_simp
        refine (CB.out _ .of).mono ?_
        rintro _ w5 ⟨rfl, HS5, HF5, q1, q2⟩
        refine hK _ _ ?_
        clear hK K
        refine wpAny_ready (rs := [5]) (by kernel_rfl) (by simp) ?_
        refine AllReady.cons rfl (fun K hK => ?_) ?_
        · go_simp
          refine (want_any q2 bb 81).mono ?_
          intro e w6 hE
          rcases hE.no with ⟨c1, h3, rfl, hw⟩ | ⟨_, h3, rfl, hw⟩
          · subst w6
            exact on_panic rfl (Eb.bad (ex_no HO.out h3) HF5.out)
          subst w6
          have HO2 := hide (ex_go HO.out h3)
          clear hE h3
          refine hK _ _ ?_
          clear hK K
          refine wpAny_done (by kernel_rfl) ?_ _
          go_wp2_with fail
          go_end0
          exact Eb.ok HO2.out HF5.out HS5.out
        exact AllReady.nil
      exact AllReady.nil
    refine AllReady.cons rfl (fun K hK => ?_) ?_
    · go_simp
      refine (CB.out _ .of).mono ?_
      rintro _ w5 ⟨rfl, HS5, HF5, q1, q2⟩
      refine hK _ _ ?_
      clear hK K
      refine wpAny_ready (rs := [0]) (by kernel_rfl) (by simp) ?_
      refine AllReady.cons rfl (fun K hK => ?_) ?_
      · go_simp
        refine hK _ _ ?_
        clear hK K
        refine wpAny_ready (rs := [5]) (by kernel_rfl) (by simp) ?_
        refine AllReady.cons rfl (fun K hK => ?_) ?_
        · go_simp
          refine (want_any q2 bb 81).mono ?_
          intro e w6 hE
          rcases hE.no with ⟨c1, h3, rfl, hw⟩ | ⟨_, h3, rfl, hw⟩
          · subst w6
            exact on_panic rfl (Eb.bad (ex_no HO.out h3) HF5.out)
          subst w6
          have HO2 := hide (ex_go HO.out h3)
          clear hE h3
          refine hK _ _ ?_
          clear hK K
          refine wpAny_done (by kernel_rfl) ?_ _
          go_wp2_with fail
          go_end0
          exact Eb.ok HO2.out HF5.out HS5.out
        exact AllReady.nil
      exact AllReady.nil
    exact AllReady.nil
  exact AllReady.nil
end
end Go.Proofs.YtfnobccminhjpabGreat
