/- withdraw, use, drop. -/
import Derived.Test.YthifoamnmhlghaaGreatFs7
namespace Go.Proofs.YthifoamnmhlghaaGreat.Fa
open Go.RowKit

section
variable {N : Nat} {S : Nat → Prop} {A : Ad} {T : Th} {F : List Int} {n : Nat} {e : Es} {tv : Value} {w w' : World}
set_option maxRecDepth 100000 in
set_option maxHeartbeats 6400000 in
theorem withdraw_any {r : Nat} (h : Eg N S A T F n e w) (hr : r < T.rules.length) (ht : teamB T r = true) :
    Calls Tryz.prog 83 #[ptr A.K, .int .i64 r] w fun o w' => o = .returned (.tuple #[]) ∧ Eg N S A T F n (withE T e r) w' ∧ Fr (fun k => ¬ S k) w w' := by
  have HE0 := hide h
  obtain ⟨tv, h⟩ := h
  have HE := hide h
  have hrl : T.rules.length ≤ 4096 := h.pf.ok.rl
  obtain ⟨hm, gr, go, hh, hmn, er, hx1⟩ := rule_stay h hr
  have x1 := hx1 w fun _ _ => rfl
  obtain ⟨l, la, lc, gb, ob, el, eb, hrb, hll, cb, hin, -, hst⟩ := beats_stay h hr
  have k2 := h.bx.get (i := 2) rfl
  have k3 := h.bx.get (i := 3) rfl
  rw [er] at k2
  rw [eb] at k3
  have HIN := hide hin
  have HST := hide hst
  have HRV : Hid (∀ s : Nat, (s : Int) ∈ l → s < T.rules.length ∧ (hm : Int) ∈ rivalsL T (headOf T s)) := hide fun s hs => by
    obtain ⟨sm, e1, h1, h2⟩ := hin s hs
    have : s = sm := by omega
    subst this
    refine ⟨h1, ?_⟩
    have := beaten_rival h.pf hr ht h2
    rw [hh] at this
    exact this
  have HR : Hid (withE T e r = l.foldl (with1 (hm : Int)) e) := hide (by unfold withE; rw [el, hh])
  clear h hx1 hin hst er eb el hh ht
  go_enter Tryz.func83, Tryz.ntmps83
  go_wp2_with fail
  clear k2 k3 cb x1
  have hfol : Tryz.prog.follows .mixedOrders = true := by kernel_rfl
  go_loopw [28] (fun x wr => ∃ k : Nat, k ≤ l.length ∧ x = .int .i64 k ∧ Hid (Eg N S A T F n ((l.take k).foldl (with1 (hm : Int)) e) wr) ∧ Hid (Fr (fun k => ¬ S k) w wr)) (fun x _ => l.length - (intOf x).toNat)
  case atStart => exact ⟨0, by omega, rfl, hide HE0.out, hide (Fr.refl _ _)⟩
  case round =>
    obtain ⟨k, hk, rfl, HEr, HFr⟩ := hrel
    by_cases hlt : k < l.length
    · obtain ⟨s0, hs⟩ := get_at hlt
      obtain ⟨s, rfl, hsR, -⟩ := HIN.out s0 (List.mem_of_getElem? hs)
      obtain ⟨-, hrv⟩ := HRV.out s (List.mem_of_getElem? hs)
      obtain ⟨gx, ox, rfl, cx⟩ := (HST.out wr (HE.out.stay HFr.out)).get hs
      have HNX : Hid ((l.take (k + 1)).foldl (with1 (hm : Int)) e = with1 (hm : Int) ((l.take k).foldl (with1 (hm : Int)) e) s) := hide (fold_snoc hs)
      clear hs
      generalize (l.take k).foldl (with1 (hm : Int)) e = e1 at HEr HNX
      obtain ⟨tv1, hE1⟩ := HEr.out
      clear HEr
      obtain ⟨p, hp, hpl, hpm, c1, c2, -⟩ := clash_at hE1 hsR hrv
      have hnd := rivals_nd hE1.pf hsR
      have z16 := hE1.bx.get (i := 16) rfl
      have CP := hide fun d : Nat => placeOf_any (hE1.drewN d) hsR hp
      obtain ⟨rln, hrln⟩ : ∃ rln, (rivalsL T (headOf T (s : Int))).length = rln := ⟨_, rfl⟩
      rw [hrln] at c1 hpl hpm
      obtain ⟨v', hv'⟩ : ∃ v', IntKind.i64.wrap (e1.cd s hm - 1) = v' := ⟨_, rfl⟩
      have HV : Hid (dec (e1.cd s hm) = v') := hide hv'
      have HE1 := hide hE1
      have HP := hide hp
      have HND := hide hnd
      obtain ⟨e2, he2⟩ : ∃ e2 : Es, e2 = { e1 with cd := upd e1.cd s (upd (e1.cd s) hm v'), up := inc e1.up } := ⟨_, rfl⟩
      have HW1 : Hid (with1 (hm : Int) e1 s = if decide (v' = 0) && used e2 s then loseE e2 hm else e2) := hide (by
        unfold with1
        rw [HV.out, he2]
        simp only [upd_at])
      have HQD := hide fun d : Nat => (hE1.drewN d).setCd hsR hp hnd v'
      have HS2 : Hid (∀ d : Nat, En N S A T F n e2 tv1 (((wr.drewN d).setCell ⟨A.cr s, p * 2, none⟩ (.int .i64 v')).setCell ⟨A.K, 21, none⟩ (.int .i64 (inc e1.up)))) := hide fun d => by
        rw [he2]
        exact ((HQD.out d).1.setUp (inc e1.up)).1
      have HF2 := hide fun d : Nat => ((Fr.of_below (Z := fun k => ¬ S k) (below_drewN wr d)).trans (HQD.out d).2).trans ((HQD.out d).1.setUp (inc e1.up)).2
      have CS := hide fun d : Nat => setI_any (w := wr.drewN d) (K := A.K) (g := A.cr s) (i := p * 2) (v := v') (x := .int .i64 (e1.cd s hm)) c2 ((hE1.drewN d |>.cr s hsR).frz _) ((HQD.out d).1.bx.get (i := 21) rfl) ((HQD.out d).1.bx.frz 21)
      have HC9 : Hid (∀ d : Nat, (((wr.drewN d).setCell ⟨A.cr s, p * 2, none⟩ (.int .i64 v')).setCell ⟨A.K, 21, none⟩ (.int .i64 (inc e1.up))).cell? ⟨A.cr s, p * 2, none⟩ = some (.int .i64 v')) := hide fun d => by
        have := ((HS2.out d).cr s hsR).get (clsL_at hp).1
        rw [he2] at this
        simp only [upd_at] at this
        exact this
      have CU := hide fun d : Nat => used_any (HS2.out d) hsR
      have HEg := hide fun d : Nat => (⟨tv1, HS2.out d⟩ : Eg N S A T F n e2 _)
      generalize e1.cd s hm = x at c2 hv' CS
      clear hE1 hp hnd hrv hrln he2
      go_upto_region 4 with fail
      go_quiet ((go_at_call 52; exact Calls.quiet_of (CP.out _)))
      rename Nat => d0
      clear CP z16 c1 cx
      go_upto_region 5 with fail
      refine region_last (by assumption) (by kernel_rfl) (by kernel_rfl) (by kernel_rfl) (by kernel_rfl) ?_
      dsimp only [List.dropLast, List.getLast, List.cons_append, List.nil_append]
      repeat (go_big_quiet_step (fail))
      refine wpQuiet_nil ?_
      rintro _ ⟨nq, rfl⟩
      rw [World.drewN_drewN]
      generalize d0 + nq = dd
      have CSd := hide (CS.out dd)
      have c9 := HC9.out dd
      have CUd := hide (CU.out dd)
      have HEd := hide (HEg.out dd)
      have HFd := hide (HF2.out dd)
      clear CS HC9 CU HEg HF2 HS2 HQD c2 hv'
      by_cases hv0 : v' = 0
      · have hvb : (v' == 0) = true := by simpa using hv0
        cases hu : used e2 s with
        | true =>
          have HT : Hid (with1 (hm : Int) e1 s = loseE e2 hm) := hide (by rw [HW1.out, hu, decide_eq_true hv0]; rfl)
          have CL := hide (lose_any HEd.out hmn)
          rw [hu] at CUd
          clear hu hv0
          go_wp2_with (first | (go_at_call 66; refine CSd.out.mono ?_; rintro _ w2 ⟨rfl, rfl⟩) | (go_at_call 79; refine CUd.out.mono ?_; rintro _ w3 ⟨rfl, rfl⟩) | (go_at_call 61; refine CL.out.mono ?_; rintro _ w4 ⟨rfl, he, hf⟩; have HE4 := hide he; have HF4 := hide (HFd.out.trans hf); clear he hf))
          go_roundw
          case rel => exact ⟨k + 1, by omega, by go_num, hide (by rw [HNX.out, HT.out]; exact HE4.out), hide (HFr.out.trans HF4.out)⟩
          case measure => simp [intOf]; omega
        | false =>
          have HT : Hid (with1 (hm : Int) e1 s = e2) := hide (by rw [HW1.out, hu, decide_eq_true hv0]; rfl)
          rw [hu] at CUd
          clear hu hv0
          go_wp2_with (first | (go_at_call 66; refine CSd.out.mono ?_; rintro _ w2 ⟨rfl, rfl⟩) | (go_at_call 79; refine CUd.out.mono ?_; rintro _ w3 ⟨rfl, rfl⟩))
          go_roundw
          case rel => exact ⟨k + 1, by omega, by go_num, hide (by rw [HNX.out, HT.out]; exact HEd.out), hide (HFr.out.trans HFd.out)⟩
          case measure => simp [intOf]; omega
      · have hvb : (v' == 0) = false := by simpa using hv0
        have HT : Hid (with1 (hm : Int) e1 s = e2) := hide (by rw [HW1.out, decide_eq_false hv0]; rfl)
        clear hv0
        go_wp2_with (go_at_call 66; refine CSd.out.mono ?_; rintro _ w2 ⟨rfl, rfl⟩)
        go_roundw
        case rel => exact ⟨k + 1, by omega, by go_num, hide (by rw [HNX.out, HT.out]; exact HEd.out), hide (HFr.out.trans HFd.out)⟩
        case measure => simp [intOf]; omega
    · have HL : Hid (l.take k = l) := hide (List.take_of_length_le (by omega))
      go_wp2_with fail
      go_end0
      exact ⟨rfl, by rw [HR.out]; have := HEr.out; rw [HL.out] at this; exact this, HFr.out⟩
set_option maxRecDepth 100000 in
set_option maxHeartbeats 3200000 in
theorem isTeam_any {k h : Int} {v : Value} : Calls Tryz.prog 31 #[.agg #[.int .i64 k, .int .i64 h, v]] w fun o w' => o = .returned (.bool (!decide (k = 3))) ∧ Below w.heap.size w w' := by
  have hB := below_new w (.cells #[.int .i64 k, .int .i64 h, v] 36)
  have c0 : (w.alloc (.cells #[.int .i64 k, .int .i64 h, v] 36)).cell? ⟨w.heap.size, 0, none⟩ = some (.int .i64 k) := cell_of_row _ _ 0 _ _ _ (heap_alloc_new w _)
  have HB := hide hB
  have HK : Hid ((!decide (k = 3)) = (k != 3)) := hide (by by_cases e0 : k = 3 <;> simp [e0])
  clear hB
  go_enter Tryz.func31, Tryz.ntmps31
  go_wp2_with fail
  go_ret
  exact ⟨by rw [HK.out]; rfl, HB.out⟩
end
end Go.Proofs.YthifoamnmhlghaaGreat.Fa
