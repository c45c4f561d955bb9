/- Kinds, members, sources, exceptions. -/
import Derived.Test.YtbdlgglbcaoakaaGreatNum8
import Derived.Test.YtbdlgglbcaoakaaGreatLast8
import Derived.Deep.Cut
import Derived.Deep.CutRange
namespace Go.Proofs.YtbdlgglbcaoakaaGreat
open Go.RowKit Go.Shelf Go.Maps Go.WideMaps

section
variable {R : Nat} {S : StatM} {st : St9} {mp : Mp8} {it : Nat} {seen : List Bytes} {w : World}
theorem Ed.of_q {α : Type} {w : World} {it : Int} {val : α → Value} {rep : World → α → Value → Prop} {o : Er α} {e : Ending} {w' : World} (h : Qd w it val o e w') (hr : ∀ a, rep w a (val a)) : Ed w it rep o e w' := by
  rcases h.split with ⟨a, rfl, rfl, rfl⟩ | ⟨c, rfl, rfl, rfl⟩
  · exact Ed.ok rfl (hr a) (Below.refl _ _)
  · exact Ed.bad rfl (Below.refl _ _)

set_option maxRecDepth 100000 in
/-- A number looked up where the map alone is known. -/
theorem look_S {w : World} {b : Nat} {l : List Bytes} (hm : KMap 9 w b l) (s : Bytes) (hs : s.length ≤ maxLen) : (Instr.lookup 67 (.map (some b)) (.string ⟨s.toArray⟩) false).run Tryz.prog w = .ok (.int .i64 (posB l s)) w := by
  obtain ⟨n, D, hown, hN, _⟩ := hm
  obtain ⟨c, hrun, hat, _⟩ := hown.lookup_int law Tryz.underlying67 Tryz.underlying3 (Tryz.zeroValue3 _) (key_mk hs)
  have : c = posB l s := by
    have := hat.symm.trans (hN s).2
    injection this with e
    injection e
  rw [← this]
  exact hrun
set_option maxRecDepth 100000 in
theorem look_E {w : World} {b : Nat} {l : List Bytes} (hm : KMap 41 w b l) (x : Bytes × Bytes) (h1 : x.1.length ≤ maxLen) (h2 : x.2.length ≤ maxLen) : (Instr.lookup 84 (.map (some b)) (.agg #[str x.1, str x.2]) false).run Tryz.prog w = .ok (.int .i64 (posB l (keyE x))) w := by
  obtain ⟨n, D, hown, hN, _⟩ := hm
  obtain ⟨c, hrun, hat, _⟩ := hown.lookup_int lawE Tryz.underlying84 Tryz.underlying3 (Tryz.zeroValue3 _) (keyE_mk h1 h2)
  have : c = posB l (keyE x) := by
    have := hat.symm.trans (hN (keyE x)).2
    injection this with e
    injection e
  rw [← this]
  exact hrun

theorem Qd.no {α : Type} {w : World} {it : Int} {val : α → Value} {o : Er α} {e : Ending} {w' : World} (h : Qd w it val o e w') : (∃ c, o = .error c ∧ e = .panicked [fl c it] ∧ w' = w) ∨ (∃ a, o = .ok a ∧ e = .returned (val a) ∧ w' = w) := h.split.symm
theorem Ed.no {α : Type} {w : World} {it : Int} {rep : World → α → Value → Prop} {o : Er α} {e : Ending} {w' : World} (h : Ed w it rep o e w') : (∃ c, o = .error c ∧ e = .panicked [fl c it] ∧ Below w.heap.size w w') ∨ (∃ a v, o = .ok a ∧ e = .returned v ∧ rep w' a v ∧ Below w.heap.size w w') := h.split.symm

/-- Alike but for draws. -/
structure Lk (w X : World) : Prop where
  heap : X.heap = w.heap
  os : X.os = w.os
  tape : X.tape = w.tape
  output : X.output = w.output
theorem Lk.of {w X : World} (h1 : X.heap = w.heap := by rfl) (h2 : X.os = w.os := by rfl) (h3 : X.tape = w.tape := by rfl) (h4 : X.output = w.output := by rfl) : Lk w X := ⟨h1, h2, h3, h4⟩
theorem Lk.below {w X : World} (h : Lk w X) : Below w.heap.size w X := ⟨h.os, h.tape, h.output, by rw [h.heap]; exact Nat.le_refl _, fun k _ => by rw [h.heap]⟩
theorem Res.like {w' : World} (h : Res R S st mp it seen w) (hk : Lk w w') : Res R S st mp it seen w' := h.below hk.below

theorem Res.mK' (h : Res R S st mp it seen w) : KMap 9 w mp.K S.ctx.kinds := h.mK

set_option maxRecDepth 100000 in
set_option maxHeartbeats 1600000 in
theorem kind_any (h : Res R S st mp it seen w) (n : Nat) (s : Bytes) (hs : s.length ≤ maxLen) : Calls Tryz.prog 62 #[ptr R, .int .i64 n, str s] w fun e w' => Ed w it rU (kindM S.kinds n s) e w' := by
  have C := hide (called_any h.c9 h.mK s hs n)
  have c10 := h.c10
  unfold str at *
  unfold kindM
  clear h
  go_enter Tryz.func62, Tryz.ntmps62
  go_wp2_with fail
  refine C.out.mono ?_
  intro e w1 hE
  rcases hE.split with ⟨_, h1, rfl, hw⟩ | ⟨c1, h1, rfl, hw⟩
  · subst w1
    go_wp2_with fail
    go_end0
    exact Ed.ok h1.symm rfl (Below.refl _ _)
  · subst w1
    exact on_panic rfl (Ed.bad h1.symm (Below.refl _ _))

set_option maxRecDepth 100000 in
set_option maxHeartbeats 1600000 in
theorem member_any (h : Res R S st mp it seen w) (n : Nat) (x : Bytes × Bytes) (h1 : x.1.length ≤ maxLen) (h2 : x.2.length ≤ maxLen) : Calls Tryz.prog 64 #[ptr R, .int .i64 n, .agg #[str x.1, str x.2]] w fun e w' => Ed w it rU (memberM S.ctx n x) e w' := by
  have hA : Below w.heap.size w (w.alloc (.cells #[str x.1, str x.2] 92)) := (Below.refl _ _).alloc (Nat.le_refl _) _
  have hR := h.below hA
  have HD := hide (fun X (hX : Lk (w.alloc (.cells #[str x.1, str x.2] 92)) X) => hA.trans (hX.below.mono hA.size))
  have C := hide (fun X hX => called_any (hR.like (w' := X) hX).c9 (hR.like (w' := X) hX).mM x.1 h1 n)
  have CF := hide (fun X hX => find_any (hR.like (w' := X) hX).c9 (hR.like (w' := X) hX).mK' x.2 h2 81)
  have c10 := hR.c10
  have c11 := hR.c11
  obtain ⟨o, ho⟩ : ∃ o, memberM S.ctx n x = o := ⟨_, rfl⟩
  rw [ho]
  have HO := hide ho
  unfold memberM at HO
  unfold str at *
  clear h hA hR ho
  go_enter Tryz.func64, Tryz.ntmps64
  go_upto_region 1 with fail
  refine region_last (by kernel_rfl) (by kernel_rfl) (by kernel_rfl) (by kernel_rfl) (by kernel_rfl) ?_
  dsimp only [List.dropLast, List.getLast, List.cons_append, List.nil_append]
  repeat (go_big_quiet_step (fail))
  refine wpQuiet_nil ?_
  rintro _ ⟨nq, rfl⟩
  go_wp2_with fail
  refine (C.out _ .of).mono ?_
  intro e w1 hE
  rcases hE.split with ⟨_, h3, rfl, hw⟩ | ⟨c1, h3, rfl, hw⟩
  · subst w1
    have HO2 := hide (ex_go HO.out h3)
    clear hE h3 HO
    go_upto_region 2 with fail
    refine region_last (by kernel_rfl) (by kernel_rfl) (by kernel_rfl) (by kernel_rfl) (by kernel_rfl) ?_
    dsimp only [List.dropLast, List.getLast, List.cons_append, List.nil_append]
    repeat (go_big_quiet_step (fail))
    refine wpQuiet_nil ?_
    rintro _ ⟨nq2, rfl⟩
    go_wp2_with fail
    refine (CF.out _ .of).mono ?_
    intro e w1 hE
    rcases hE.split with ⟨m, h3, rfl, hw⟩ | ⟨c1, h3, rfl, hw⟩
    · subst w1
      go_wp2_with fail
      go_end0
      have HO3 := ex_go HO2.out h3
      exact Ed.ok HO3 rfl (HD.out _ .of)
    · subst w1
      exact on_panic rfl (Ed.bad (ex_no HO2.out h3) (HD.out _ .of))
  · subst w1
    exact on_panic rfl (Ed.bad (ex_no HO.out h3) (HD.out _ .of))

set_option maxRecDepth 100000 in
set_option maxHeartbeats 1600000 in
theorem source_any (h : Res R S st mp it seen w) (n : Nat) (x : Bytes × Int) (h1 : x.1.length ≤ maxLen) : Calls Tryz.prog 70 #[ptr R, .int .i64 n, .agg #[str x.1, .int .i64 x.2]] w fun e w' => Ed w it rU (sourceM S.srcs n x) e w' := by
  have hA : Below w.heap.size w (w.alloc (.cells #[str x.1, .int .i64 x.2] 73)) := (Below.refl _ _).alloc (Nat.le_refl _) _
  have hR := h.below hA
  have HD := hide (fun X (hX : Lk (w.alloc (.cells #[str x.1, .int .i64 x.2] 73)) X) => hA.trans (hX.below.mono hA.size))
  have C := hide (fun X hX => called_any (hR.like (w' := X) hX).c9 (hR.like (w' := X) hX).mS x.1 h1 n)
  have CW := hide (fun X hX b c => want_any (hR.like (w' := X) hX).c9 b c)
  have c13 := hR.c13
  obtain ⟨o, ho⟩ : ∃ o, sourceM S.srcs n x = o := ⟨_, rfl⟩
  rw [ho]
  have HO := hide ho
  unfold sourceM at HO
  unfold str at *
  obtain ⟨x1, x2⟩ := x
  clear h hA hR ho
  simp only at *
  go_enter Tryz.func70, Tryz.ntmps70
  go_upto_region 1 with fail
  refine region_last (by kernel_rfl) (by kernel_rfl) (by kernel_rfl) (by kernel_rfl) (by kernel_rfl) ?_
  dsimp only [List.dropLast, List.getLast, List.cons_append, List.nil_append]
  repeat (go_big_quiet_step (fail))
  refine wpQuiet_nil ?_
  rintro _ ⟨nq, rfl⟩
  go_wp2_with fail
  refine (C.out _ .of).mono ?_
  intro e w1 hE
  rcases hE.split with ⟨_, h3, rfl, hw⟩ | ⟨c1, h3, rfl, hw⟩
  · subst w1
    have HO2 := hide (ex_go HO.out h3)
    clear hE h3 HO C
    by_cases hx : 0 ≤ x2
    · rw [decide_eq_true hx, Bool.true_and] at HO2
      go_wp2_with fail
      refine (CW.out _ .of _ _).mono ?_
      intro e w1 hE
      rcases hE.split with ⟨m, h3, rfl, hw⟩ | ⟨c1, h3, rfl, hw⟩
      · subst w1
        go_wp2_with fail
        go_end0
        exact Ed.ok (h3.symm.trans HO2.out) rfl (HD.out _ .of)
      · subst w1
        exact on_panic rfl (Ed.bad (h3.symm.trans HO2.out) (HD.out _ .of))
    · rw [decide_eq_false hx, Bool.false_and] at HO2
      go_wp2_with fail
      refine (CW.out _ .of _ _).mono ?_
      intro e w1 hE
      rcases hE.split with ⟨m, h3, rfl, hw⟩ | ⟨c1, h3, rfl, hw⟩
      · cases h3
      · subst w1
        exact on_panic rfl (Ed.bad (h3.symm.trans HO2.out) (HD.out _ .of))
  · subst w1
    exact on_panic rfl (Ed.bad (ex_no HO.out h3) (HD.out _ .of))

set_option maxRecDepth 100000 in
set_option maxHeartbeats 1600000 in
theorem except_any (h : Res R S st mp it seen w) (n : Nat) (x : Bytes × Bytes) (h1 : x.1.length ≤ maxLen) (h2 : x.2.length ≤ maxLen) : Calls Tryz.prog 74 #[ptr R, .int .i64 n, .agg #[str x.1, str x.2]] w fun e w' => Ed w it rU (exceptM S.heads S.keys n x) e w' := by
  have hA : Below w.heap.size w (w.alloc (.cells #[str x.1, str x.2] 41)) := (Below.refl _ _).alloc (Nat.le_refl _) _
  have hR := h.below hA
  have HD := hide (fun X (hX : Lk (w.alloc (.cells #[str x.1, str x.2] 41)) X) => hA.trans (hX.below.mono hA.size))
  have CF1 := hide (fun X hX => find_any (hR.like (w' := X) hX).c9 (hR.like (w' := X) hX).mR x.1 h1 82)
  have CF2 := hide (fun X hX => find_any (hR.like (w' := X) hX).c9 (hR.like (w' := X) hX).mR x.2 h2 82)
  have CW := hide (fun X hX b c => want_any (hR.like (w' := X) hX).c9 b c)
  have HL := hide (fun X hX => look_E (hR.like (w' := X) hX).mE x h1 h2)
  have c14 := hR.c14
  have c15 := hR.c15
  obtain ⟨o, ho⟩ : ∃ o, exceptM S.heads S.keys n x = o := ⟨_, rfl⟩
  rw [ho]
  have HO := hide ho
  unfold exceptM at HO
  unfold str at *
  clear h hA hR ho
  go_enter Tryz.func74, Tryz.ntmps74
  go_upto_region 1 with fail
  refine region_last (by kernel_rfl) (by kernel_rfl) (by kernel_rfl) (by kernel_rfl) (by kernel_rfl) ?_
  dsimp only [List.dropLast, List.getLast, List.cons_append, List.nil_append]
  repeat (go_big_quiet_step (fail))
  refine wpQuiet_nil ?_
  rintro _ ⟨nq, rfl⟩
  go_wp2_with fail
  refine (CF1.out _ .of).mono ?_
  intro e w1 hE
  rcases hE.split with ⟨_, h3, rfl, hw⟩ | ⟨c1, h3, rfl, hw⟩
  · subst w1
    have HO2 := hide (ex_go HO.out h3)
    clear hE h3 HO CF1
    go_upto_region 2 with fail
    refine region_last (by kernel_rfl) (by kernel_rfl) (by kernel_rfl) (by kernel_rfl) (by kernel_rfl) ?_
    dsimp only [List.dropLast, List.getLast, List.cons_append, List.nil_append]
    repeat (go_big_quiet_step (fail))
    refine wpQuiet_nil ?_
    rintro _ ⟨nq2, rfl⟩
    go_wp2_with fail
    refine (CF2.out _ .of).mono ?_
    intro e w1 hE
    rcases hE.split with ⟨m, h3, rfl, hw⟩ | ⟨c1, h3, rfl, hw⟩
    · subst w1
      have HO3 := hide (ex_go HO2.out h3)
      clear hE h3 HO2 CF2
      have hlk := fun q => HL.out ((w.alloc (.cells #[.string ⟨x.1.toArray⟩, .string ⟨x.2.toArray⟩] 41)).drewN q) .of
      go_upto_region 3 with fail
      refine region_last (by kernel_rfl) (by kernel_rfl) (by kernel_rfl) (by kernel_rfl) (by kernel_rfl) ?_
      dsimp only [List.dropLast, List.getLast, List.cons_append, List.nil_append]
      repeat (go_big_quiet_step (fail))
      refine wpQuiet_nil ?_
      rintro _ ⟨nq3, rfl⟩
      go_wp2_with fail
      refine (CW.out _ .of _ _).mono ?_
      intro e w1 hE
      rcases hE.split with ⟨m, h3, rfl, hw⟩ | ⟨c1, h3, rfl, hw⟩
      · subst w1
        go_wp2_with fail
        go_end0
        exact Ed.ok (h3.symm.trans HO3.out) rfl (HD.out _ .of)
      · subst w1
        exact on_panic rfl (Ed.bad (h3.symm.trans HO3.out) (HD.out _ .of))
    · subst w1
      exact on_panic rfl (Ed.bad (ex_no HO2.out h3) (HD.out _ .of))
  · subst w1
    exact on_panic rfl (Ed.bad (ex_no HO.out h3) (HD.out _ .of))
end
end Go.Proofs.YtbdlgglbcaoakaaGreat
