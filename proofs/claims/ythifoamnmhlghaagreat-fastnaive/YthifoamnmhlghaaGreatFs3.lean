/- tell, lose. -/
import Derived.Test.YthifoamnmhlghaaGreatFs2
import Derived.Deep.RegionLaw
namespace Go.Proofs.YthifoamnmhlghaaGreat.Fa
open Go.RowKit

theorem infoPr : (Tryz.prog.info? 75).map (fun i => (i.zero, i.size, i.bytes)) = some (some (.agg #[.int .i64 0, .int .i64 0]), 2, 16) := by kernel_rfl
section
variable {N : Nat} {S : Nat → Prop} {A : Ad} {T : Th} {F : List Int} {n : Nat} {e : Es} {w w' : World}
/-- The engine, wherever what is told lies. -/
def Eg (N : Nat) (S : Nat → Prop) (A : Ad) (T : Th) (F : List Int) (n : Nat) (e : Es) (w : World) : Prop := ∃ tv, En N S A T F n e tv w
theorem Eg.go (h : Eg N S A T F n e w) (hb : Below w.heap.size w w') : Eg N S A T F n e w' := by
  obtain ⟨tv, h⟩ := h
  exact ⟨tv, h.go hb⟩
set_option maxRecDepth 100000 in
set_option maxHeartbeats 6400000 in
theorem tell_any {q : Nat} {t : Int} (h : Eg N S A T F n e w) (hq : q < n) (ht : isTag t) :
    Calls Tryz.prog 56 #[ptr A.K, .int .i64 q, .int .i64 t] w fun o w' => o = .returned (.tuple #[]) ∧ Eg N S A T F n (tell e q t) w' ∧ Fr (fun k => ¬ S k) w w' := by
  obtain ⟨tv, h⟩ := h
  have CH := hide (has_any h hq ht)
  have HE := hide h
  cases hh : has e q t with
  | true =>
    rw [hh] at CH
    have HR : Hid (tell e q t = e) := hide (by unfold tell; rw [hh]; rfl)
    clear h hh
    go_enter Tryz.func56, Tryz.ntmps56
    go_wp2_with (go_at_call 57; refine CH.out.mono ?_; rintro _ w2 ⟨rfl, hb⟩; have HB := hide hb; clear hb)
    refine bodyPost_ret (results_none rfl _ _ _) rfl ?_
    exact ⟨rfl, by rw [HR.out]; exact ⟨tv, HE.out.go HB.out⟩, Fr.of_below HB.out⟩
  | false =>
    rw [hh] at CH
    have HHH := hide hh
    have HR : Hid (tell e q t = { e with mq := upd e.mq q (orB (e.mq q) t), td := e.td ++ [((q : Int), t)], up := inc (inc e.up) }) := hide (by unfold tell; rw [hh]; rfl)
    clear h hh
    have hfol : Tryz.prog.follows .mixedOrders = true := by kernel_rfl
    go_enter Tryz.func56, Tryz.ntmps56
    go_upto_region 1 with (go_at_call 57; refine CH.out.mono ?_; rintro _ w2 ⟨rfl, hb⟩; have HB := hide hb; clear hb)
    have HE2 := hide (HE.out.go HB.out)
    clear CH HE
    have k8 := HE2.out.bx.get (i := 18) rfl
    have cm := HE2.out.mq.get (rowU_at hq)
    have CB := hide fun d : Nat => bitF_any (w := w2.drewN d) ht
    obtain ⟨x, hx⟩ : ∃ x, e.mq (q : Int) = x := ⟨_, rfl⟩
    obtain ⟨y, hy⟩ : ∃ y, bitM t = y := ⟨_, rfl⟩
    obtain ⟨v, hv⟩ : ∃ v, bits .or .u8 x y = v := ⟨_, rfl⟩
    have HV : Hid (orB (e.mq (q : Int)) t = v) := hide (by unfold orB; rw [hx, hy]; exact hv)
    rw [hx] at cm
    rw [hy] at CB
    clear hx hy
    refine region_last (by assumption) (by kernel_rfl) (by kernel_rfl) (by kernel_rfl) (by kernel_rfl) ?_
    dsimp only [List.dropLast, List.getLast, List.cons_append, List.nil_append]
    repeat (go_big_quiet_step ((go_at_call 76; exact Calls.quiet_of_same (CB.out _))))
    refine wpQuiet_nil ?_
    rintro _ ⟨nq, rfl⟩
    have hE := HE2.out.drewN nq
    have h1 : Fx A.mq 42 (rowU n (upd e.mq q v)) ((w2.drewN nq).setCell ⟨A.mq, q, none⟩ (.int .u8 v)) := by
      have := hE.mq.set q (.int .u8 v)
      rw [rowU_set hq] at this
      exact this
    have h2 := hE.bx.keep (other_set (i := q) (v := .int .u8 v) (fx_ne hE.bx hE.mq (by decide)))
    have CS := hide (setU_any (K := A.K) (v := v) (hE.mq.get (rowU_at hq)) (hE.mq.frz q) (h2.get (i := 21) rfl) (h2.frz 21))
    have h3 := h2.set 21 (.int .i64 (inc e.up))
    have HTD : Hid ((((w2.drewN nq).setCell ⟨A.mq, q, none⟩ (.int .u8 v)).setCell ⟨A.K, 21, none⟩ (.int .i64 (inc e.up))).ownsRow 0 75 2 tv e.td.length (prs e.td)) := hide (owns_keep hE.td fun g hg => by rw [other_set (show g ≠ A.K from fun x => own_ne' hE.td hE.bx (by decide) (x ▸ hg)), other_set (show g ≠ A.mq from fun x => own_ne' hE.td hE.mq (by decide) (x ▸ hg))])
    have HED := hide hE
    clear k8 cm h1 h2 hE CB hv
    go_upto_region 2 with (go_at_call 75; refine CS.out.mono ?_; rintro _ w3 ⟨rfl, rfl⟩)
    clear CS
    have HW3 : Hid (∀ k, k < w2.heap.size → (((w2.drewN nq).setCell ⟨A.mq, q, none⟩ (.int .u8 v)).setCell ⟨A.K, 21, none⟩ (.int .i64 (inc e.up))).heap[k]? = (((w2.drewN nq).setCell ⟨A.mq, q, none⟩ (.int .u8 (orB (e.mq q) t))).setCell ⟨A.K, 21, none⟩ (.int .i64 (inc e.up))).heap[k]?) := hide fun k _ => by rw [HV.out]
    have HS3 : Hid ((((w2.drewN nq).setCell ⟨A.mq, q, none⟩ (.int .u8 v)).setCell ⟨A.K, 21, none⟩ (.int .i64 (inc e.up))).heap.size = w2.heap.size ∧ (((w2.drewN nq).setCell ⟨A.mq, q, none⟩ (.int .u8 v)).setCell ⟨A.K, 21, none⟩ (.int .i64 (inc e.up))).os = w2.os ∧ (((w2.drewN nq).setCell ⟨A.mq, q, none⟩ (.int .u8 v)).setCell ⟨A.K, 21, none⟩ (.int .i64 (inc e.up))).tape = w2.tape ∧ (((w2.drewN nq).setCell ⟨A.mq, q, none⟩ (.int .u8 v)).setCell ⟨A.K, 21, none⟩ (.int .i64 (inc e.up))).output = w2.output) := hide ⟨by simp, rfl, rfl, rfl⟩
    have HBX3 := hide h3
    clear h3
    generalize ((w2.drewN nq).setCell ⟨A.mq, q, none⟩ (.int .u8 v)).setCell ⟨A.K, 21, none⟩ (.int .i64 (inc e.up)) = w3 at *
    obtain ⟨ta, tc, htv⟩ := owns_slice HTD.out
    subst htv
    obtain ⟨m, hm⟩ : ∃ m, e.td.length = m := ⟨_, rfl⟩
    have HM := hide hm
    have c19 : w3.cell? ⟨A.K, 19, none⟩ = some (.slice ta m tc) := by rw [← hm]; exact HBX3.out.get (i := 19) rfl
    have c19b : (w3.alloc (.cells #[.int .i64 q, .int .i64 t] 75)).cell? ⟨A.K, 19, none⟩ = some (.slice ta m tc) := by rw [← hm]; exact (HBX3.out.keep ((below_new w3 _).block _ HBX3.out.lt)).get (i := 19) rfl
    have hml : m ≤ 16384 := by have := HED.out.tok.len; have := HED.out.pf.n4; omega
    obtain ⟨iP, hiP, zP0, zP1, zP2⟩ := info_parts infoPr
    have HOM : Hid ((w3.alloc (.cells #[.int .i64 q, .int .i64 t] 75)).drew.ownsRow 0 75 2 (.slice ta m tc) m (prs e.td)) := hide (by
      have := owns_keep HTD.out fun g hg => ((below_new w3 (.cells #[.int .i64 q, .int .i64 t] 75)).drew).block g (owns_lt HTD.out hg)
      rw [hm] at this
      exact this)
    have HNA : Hid (∀ j u, [Value.int .i64 q, .int .i64 t][j]? = some u → (w3.alloc (.cells #[.int .i64 q, .int .i64 t] 75)).drew.cell? ((⟨w3.heap.size, 0, none⟩ : Addr).add j) = some u) := hide (World.news_of_block (cs := [Value.int .i64 q, .int .i64 t].toArray) (t := 75) (fr := (0, 0)) (heap_alloc_new w3 (.cells #[.int .i64 q, .int .i64 t] 75)))
    have HSA : Hid ((w3.alloc (.cells #[.int .i64 q, .int .i64 t] 75)).drew.heap.size = w3.heap.size + 1) := hide (by show (w3.alloc (.cells #[.int .i64 q, .int .i64 t] 75)).heap.size = _; simp)
    have HKN : Hid (Value.ownBlock (.slice ta m tc) ≠ some A.K) := hide (by rw [← hm]; exact own_ne' HTD.out HBX3.out (by decide))
    clear hm
    go_region_law (first | (refine step_append_lies _ (by rfl) _ _ _ (by rfl) 0 75 iP _ 2 16 Tryz.underlying50 hiP zP0 zP1 zP2 rfl (by decide) (.slice ta m tc) m (prs e.td) (by rfl) HOM.out ⟨w3.heap.size, 0, none⟩ 1 1 [.int .i64 q, .int .i64 t] (by rfl) rfl HNA.out (by simp [Value.oneCell']) (by decide) (by unfold maxLen; omega) (by omega) (Nat.zero_le _) (w3.heap.size + 1) HSA.out ?_; intro gg cap w5 hown hgrow hat hlt5; have HGR := hide hgrow; have HOW := hide hown; have HAT := hide hat; have HLT := hide hlt5; have HB5 := hide (HBX3.out.keep (grown_old2 hgrow HBX3.out.lt HKN.out)); have HB6 := hide (HB5.out.set 19 (.slice (some ⟨gg, 0, none⟩) (m + 1) cap)); have CS := hide (setS_any (K := A.K) (a := some ⟨gg, 0, none⟩) (m := m + 1) (c := cap) (HB5.out.get (i := 19) rfl) (HB5.out.frz 19) (HB6.out.get (i := 21) rfl) (HB6.out.frz 21)); clear hown hgrow hat hlt5) | (go_simp; go_wp2_with (go_at_call 77; refine CS.out.mono ?_; rintro _ w6 ⟨rfl, rfl⟩)))
    all_goals
      have hm := HM.out
      subst hm
      have hs3 := HS3.out
      have hgs := HGR.out.size
      have hga := HSA.out
      have hfin := HED.out.setMk hq ht HHH.out (w1 := w5) (u1 := inc e.up) (g := gg) (c := cap) (by rw [prs_snoc]; exact HOW.out)
        (fun k hk hn => (grown_old2 HGR.out (by rw [hs3.1]; exact hk) hn).trans (HW3.out k hk)) (by show w2.heap.size ≤ _; omega)
        (by rcases HAT.out with h | h; exact .inl h; exact .inr (by show w2.heap.size ≤ gg; omega)) ⟨HGR.out.os.trans hs3.2.1, HGR.out.tape.trans hs3.2.2.1, HGR.out.output.trans hs3.2.2.2⟩ (inc (inc e.up))
      have HFIN := hide hfin
      clear hfin hs3 hgs hga c19 c19b
      go_end0
      exact ⟨rfl, by rw [HR.out]; exact ⟨_, HFIN.out.1⟩, (Fr.of_below HB.out).trans ((Fr.of_below (below_drewN w2 nq)).trans HFIN.out.2)⟩
set_option maxRecDepth 100000 in
set_option maxHeartbeats 6400000 in
theorem lose_any {q : Nat} (h : Eg N S A T F n e w) (hq : q < n) :
    Calls Tryz.prog 61 #[ptr A.K, .int .i64 q] w fun o w' => o = .returned (.tuple #[]) ∧ Eg N S A T F n (loseE e q) w' ∧ Fr (fun k => ¬ S k) w w' := by
  have HE := hide h
  obtain ⟨tv, h⟩ := h
  have CH := hide (has_any h hq tag2)
  cases hh : has e q 2 with
  | true =>
    rw [hh] at CH
    have HR : Hid (loseE e q = tell e q 4) := hide (by unfold loseE; rw [hh]; rfl)
    clear h hh
    go_enter Tryz.func61, Tryz.ntmps61
    go_wp2_with (first | (go_at_call 57; refine CH.out.mono ?_; rintro _ w2 ⟨rfl, hb⟩; have HB := hide hb; have CT := hide (tell_any (HE.out.go hb) hq tag4); clear hb) | (go_at_call 56; refine CT.out.mono ?_; rintro _ w3 ⟨rfl, he, hf⟩; have HE3 := hide he; have HF3 := hide hf; clear he hf))
    go_end0
    exact ⟨rfl, by rw [HR.out]; exact HE3.out, (Fr.of_below HB.out).trans HF3.out⟩
  | false =>
    rw [hh] at CH
    have HR : Hid (loseE e q = e) := hide (by unfold loseE; rw [hh]; rfl)
    clear h hh
    go_enter Tryz.func61, Tryz.ntmps61
    go_wp2_with (go_at_call 57; refine CH.out.mono ?_; rintro _ w2 ⟨rfl, hb⟩; have HB := hide hb; clear hb)
    go_end0
    exact ⟨rfl, by rw [HR.out]; exact HE.out.go HB.out, Fr.of_below HB.out⟩
end
end Go.Proofs.YthifoamnmhlghaaGreat.Fa
