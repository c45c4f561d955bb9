/- The document's answer, layer 15: Round. -/
import Derived.Test.YtddlhlifkhaokaaGreatRg3
import Derived.Test.YtddlhlifkhaokaaGreatLast
namespace Go.Proofs.YtddlhlifkhaokaaGreat.Rf
open Go.RowKit

theorem infoM8 : (Tryz.prog.info? 50).map (fun i => (i.zero, i.size, i.bytes)) = some (some (.int .u8 0), 1, 1) := by kernel_rfl
theorem set8 {X : List Int} {q : Nat} {x : Int} : (u8s X).set q (.int .u8 x) = u8s (X.set q x) := by unfold u8s; rw [List.map_set]
/-- A round half made: the rows below are whole, the one at hand is x, the rest is 0. -/
def half (T : Th) (F m : List Int) (q : Nat) (x : Int) : List Int := (List.range m.length).map fun i : Nat => if i < q then addsM T F m i 4 (m.getD i 0) else if i = q then x else 0
section
variable {T : Th} {F m : List Int} {q : Nat} {x y : Int}
theorem half_len : (half T F m q x).length = m.length := by unfold half; simp
theorem half_at {i : Nat} (hi : i < m.length) : (half T F m q x)[i]? = some (if i < q then addsM T F m i 4 (m.getD i 0) else if i = q then x else 0) := by unfold half; rw [List.getElem?_map, List.getElem?_range hi]; rfl
theorem half_ext {l k : List Int} (h1 : l.length = m.length) (h2 : k.length = m.length) (h : ∀ i : Nat, i < m.length → l[i]? = k[i]?) : l = k := by
  apply List.ext_getElem?
  intro i
  by_cases hi : i < m.length
  · exact h i hi
  · rw [List.getElem?_eq_none (by omega), List.getElem?_eq_none (by omega)]
theorem half_start : half T F m 0 0 = List.replicate m.length 0 := by
  refine half_ext (m := m) half_len (by simp) fun i hi => ?_
  rw [half_at hi, List.getElem?_replicate, if_pos hi, if_neg (by omega)]
  split <;> rfl
theorem half_end : half T F m m.length 0 = roundM T F m := by
  refine half_ext (m := m) half_len round_len fun i hi => ?_
  rw [half_at hi, if_pos hi]
  unfold roundM
  rw [List.getElem?_map, List.getElem?_range hi]
  rfl
theorem half_next : half T F m q (addsM T F m q 4 (m.getD q 0)) = half T F m (q + 1) 0 := by
  refine half_ext (m := m) half_len half_len fun i hi => ?_
  rw [half_at hi, half_at hi]
  by_cases h1 : i < q
  · rw [if_pos h1, if_pos (by omega)]
  · by_cases h2 : i = q
    · subst h2; rw [if_neg h1, if_pos rfl, if_pos (by omega)]
    · rw [if_neg h1, if_neg h2, if_neg (by omega)]
      split <;> rfl
theorem half_set (hq : q < m.length) : (half T F m q x).set q y = half T F m q y := by
  refine half_ext (m := m) (by rw [List.length_set, half_len]) half_len fun i hi => ?_
  rw [List.getElem?_set]
  by_cases h2 : q = i
  · subst h2; rw [if_pos rfl, if_pos (by rw [half_len]; exact hq), half_at hi, if_neg (by omega), if_pos rfl]
  · rw [if_neg h2, half_at hi, half_at hi]
    by_cases h1 : i < q
    · rw [if_pos h1, if_pos h1]
    · rw [if_neg h1, if_neg h1, if_neg (fun e => h2 e.symm), if_neg (fun e => h2 e.symm)]
theorem half_val (hq : q < m.length) : (half T F m q x).getD q 0 = x := by
  rw [List.getD_eq_getElem?_getD, half_at hq, if_neg (by omega), if_pos rfl]
  rfl
theorem adds_hb (hx : isByte x) : ∀ k : Nat, k ≤ 4 → isByte (addsM T F m q k x) ∧ ∀ u, isTag u → (k : Int) < u → hb (addsM T F m q k x) u = hb x u
  | 0, _ => ⟨hx, fun _ _ _ => rfl⟩
  | k + 1, hk => by
    obtain ⟨h1, h2⟩ := adds_hb hx k (by omega)
    have ht : isTag ((k : Int) + 1) := by
      unfold isTag
      omega
    show isByte (addM T F m q ((k : Int) + 1) (addsM T F m q k x)) ∧ _
    rw [show addsM T F m q (k + 1) x = addM T F m q ((k : Int) + 1) (addsM T F m q k x) from rfl]
    unfold addM
    split
    · refine ⟨(or_facts h1 ht ht).2.1, fun u hu hlt => ?_⟩
      rw [(or_facts h1 ht hu).1, decide_eq_false (by omega), Bool.or_false]
      exact h2 u hu (by omega)
    · exact ⟨h1, fun u hu hlt => h2 u hu (by omega)⟩
end
structure Rr (X : List Int) (w w' : World) : Prop where
  low : Below w.heap.size w w'
  fx : Fx w.heap.size 50 (u8s X) w'
theorem Rr.go {X : List Int} {w w' w'' : World} (h : Rr X w w') (hb : Below w'.heap.size w' w'') : Rr X w w'' := ⟨h.low.trans (hb.mono h.low.size), h.fx.keep (hb.block _ h.fx.lt)⟩
theorem Rr.set {X : List Int} {w w' : World} (h : Rr X w w') (q : Nat) (x : Int) : Rr (X.set q x) w (w'.setCell ⟨w.heap.size, q, none⟩ (.int .u8 x)) :=
  ⟨h.low.setCell (p := ⟨w.heap.size, q, none⟩) (Nat.le_refl _) _, by rw [← set8]; exact h.fx.set q _⟩
theorem rep8 {n : Nat} : Array.replicate n (.int .u8 0) = (u8s (List.replicate n 0)).toArray := by unfold u8s; simp
section
variable {K n : Nat} {A : Wa} {T : Th} {F m : List Int} {ma : Option Addr} {mc : Nat} {w w' : World}
set_option maxRecDepth 100000 in
set_option maxHeartbeats 12800000 in
theorem rround_any (h : Wd K A T F n w) (hm : At1 w ma (u8s m)) (hml : m.length = n) (hby : ∀ q : Nat, q < n → isByte (m.getD q 0)) :
    Calls Tryz.prog 25 #[ptr K, .slice ma n mc] w fun e w' => e = .returned (.slice (some ⟨w.heap.size, 0, none⟩) n n) ∧ At1 w' (some ⟨w.heap.size, 0, none⟩) (u8s (roundM T F m)) ∧ Below w.heap.size w w' := by
  obtain ⟨iB, hiB, zB0, zB1, zB2⟩ := info_parts infoM8
  have HH := hide h
  have HM := hide hm
  have HML := hide hml
  have HBy := hide hby
  have hn4 := h.pf.n4
  have RR0 : Hid (Rr (half T F m 0 0) w (w.alloc (.cells (Array.replicate n (.int .u8 0)) 50))) := hide ⟨below_new _ _, by
    unfold Fx
    rw [heap_alloc_new, rep8, half_start, hml]⟩
  clear h hm hml hby
  go_enter Tryz.func25, Tryz.ntmps25
  go_upto_region 2 with (at_make; go_must (refine wpList_make_fix _ rfl _ _ 27 rfl 50 iB _ Tryz.underlying27 hiB zB0 zB1 rfl _ _ n rfl rfl rfl rfl (by rw [zB2]; omega) (by unfold maxLen; omega) ?_))
  generalize w.alloc (.cells (Array.replicate n (.int .u8 0)) 50) = W at *
  go_wp2_with fail
  go_loopw [6] (fun x wr => ∃ q : Nat, q ≤ n ∧ x = .int .i64 q ∧ Hid (Rr (half T F m q 0) w wr)) (fun x _ => n - (intOf x).toNat)
  case atStart => exact ⟨0, by omega, rfl, RR0⟩
  case round =>
    clear RR0
    obtain ⟨q, hq, rfl, HR⟩ := hrel
    by_cases hlt : q < n
    · have hqm : q < m.length := by rw [HML.out]; exact hlt
      have HQM := hide hqm
      obtain ⟨gm, om, rfl, cm⟩ := (HM.out.below HR.out.low) q _ (u8s_at hqm)
      have f0 := HR.out.fx.frz q
      have r0 := HR.out.fx.get (u8s_at (l := half T F m q 0) (i := q) (by rw [half_len]; exact hqm))
      have HR1 := hide (HR.out.set q (m.getD q 0))
      rw [half_set hqm, show m.getD q 0 = addsM T F m q 0 (m.getD q 0) from rfl] at HR1
      have HXB := hide (HBy.out q hlt)
      rw [half_val hqm] at r0
      have HV : Hid (hs m (q : Int) = hb (m.getD q 0)) := hide (by funext t; unfold hs; rw [Int.toNat_natCast])
      rw [show addsM T F m q 0 (m.getD q 0) = m.getD q 0 from rfl] at HR1
      have HR1' : Hid (Rr (half T F m q (addsM T F m q 0 (m.getD q 0))) w (wr.setCell ⟨w.heap.size, q, none⟩ (.int .u8 (m.getD q 0)))) := HR1
      generalize hx0 : m.getD q 0 = x0 at *
      have HX0 := hide hx0
      clear HR HR1 hqm hx0
      go_wp2_with fail
      generalize wr.setCell ⟨w.heap.size, q, none⟩ (.int .u8 x0) = wq at *
      clear cm f0 r0
      go_loopw [7] (fun x wr => ∃ k : Nat, k ≤ 4 ∧ x = .int .i64 (k + 1 : Nat) ∧ Hid (Rr (half T F m q (addsM T F m q k x0)) w wr)) (fun x _ => 5 - (intOf x).toNat)
      case atStart => exact ⟨0, by omega, rfl, HR1'⟩
      case round =>
        clear HR1'
        obtain ⟨k, hk4, rfl, HR⟩ := hrel
        by_cases hk : k < 4
        · have ht : isTag ((k + 1 : Nat) : Int) := by unfold isTag; omega
          have CB := hide fun W : World => rbit_any (w := W) ht
          have HW := hide (HH.out.go HR.out.low)
          have CH := hide fun d : Nat => holds_any (w := wr.drewN d) (mc := mc) (HW.out.drewN d) ((HM.out.below HR.out.low).below (below_drewN wr d)) HML.out hlt ht
          have r0 := HR.out.fx.get (u8s_at (l := half T F m q (addsM T F m q k x0)) (i := q) (by rw [half_len]; exact HQM.out))
          have f0 := HR.out.fx.frz q
          rw [half_val HQM.out] at r0
          have HHb : Hid (hb (addsM T F m q k x0) ((k + 1 : Nat) : Int) = hs m (q : Int) ((k + 1 : Nat) : Int)) := hide (by rw [HV.out]; exact (adds_hb HXB.out k (by omega)).2 _ ht (by omega))
          have HAD : Hid (addsM T F m q (k + 1) x0 = if !hs m q ((k + 1 : Nat) : Int) && condM T F m ((k + 1 : Nat) : Int) q then orB (addsM T F m q k x0) ((k + 1 : Nat) : Int) else addsM T F m q k x0) := hide rfl
          have hkt : (((k + 1 : Nat) : Int)) ≤ 4 := by omega
          clear ht
          cases ha : hs m (q : Int) ((k + 1 : Nat) : Int) with
          | true =>
            have hz : (bits .and .u8 (addsM T F m q k x0) (bitM ((k + 1 : Nat) : Int)) == 0) = false := by
              have h1 := HHb.out
              rw [ha] at h1
              unfold hb at h1
              simpa using h1
            have HS : Hid (addsM T F m q (k + 1) x0 = addsM T F m q k x0) := hide (by rw [HAD.out, ha]; rfl)
            generalize addsM T F m q k x0 = x1 at *
            generalize bitM ((k + 1 : Nat) : Int) = y1 at *
            clear ha HHb HAD CH
            go_wp2_with fail
            go_quiet ((go_at_call 38; exact Calls.quiet_of_same (CB.out _)))
            go_wp2_with fail
            go_roundw
            case rel => exact ⟨k + 1, by omega, by go_num, hide (by rw [HS.out]; exact HR.out.go (below_drewN wr _))⟩
            case measure => simp [intOf]; omega
          | false =>
            have hz : (bits .and .u8 (addsM T F m q k x0) (bitM ((k + 1 : Nat) : Int)) == 0) = true := by
              have h1 := HHb.out
              rw [ha] at h1
              unfold hb at h1
              simpa using h1
            cases hc : condM T F m ((k + 1 : Nat) : Int) q with
            | false =>
              have HS : Hid (addsM T F m q (k + 1) x0 = addsM T F m q k x0) := hide (by rw [HAD.out, ha, hc]; rfl)
              rw [hc] at CH
              generalize addsM T F m q k x0 = x1 at *
              generalize bitM ((k + 1 : Nat) : Int) = y1 at *
              clear ha hc HHb HAD
              go_wp2_with fail
              go_quiet (first
                | (go_at_call 38; exact Calls.quiet_of_same (CB.out _))
                | (go_at_call 39; exact Calls.quiet_of (CH.out _)))
              go_wp2_with fail
              go_roundw
              case rel => exact ⟨k + 1, by omega, by go_num, hide (by rw [HS.out]; exact HR.out.go (below_drewN wr _))⟩
              case measure => simp [intOf]; omega
            | true =>
              have HS : Hid (addsM T F m q (k + 1) x0 = bits .or .u8 (addsM T F m q k x0) (bitM ((k + 1 : Nat) : Int))) := hide (by rw [HAD.out, ha, hc]; rfl)
              rw [hc] at CH
              generalize addsM T F m q k x0 = x1 at *
              generalize bitM ((k + 1 : Nat) : Int) = y1 at *
              clear ha hc HHb HAD
              go_wp2_with fail
              go_quiet (first
                | (go_at_call 38; exact Calls.quiet_of_same (CB.out _))
                | (go_at_call 39; exact Calls.quiet_of (CH.out _)))
              have HR6 := hide (HR.out.go (below_drewN wr nq))
              replace r0 : (wr.drewN nq).cell? _ = _ := r0
              replace f0 : (wr.drewN nq).frozen? _ = _ := f0
              generalize wr.drewN nq = w6 at *
              clear CH HW HR hz
              go_upto_region 10 with fail
              refine region_last (by kernel_rfl) (by kernel_rfl) (by kernel_rfl) (by kernel_rfl) (by kernel_rfl) ?_
              dsimp only [List.dropLast, List.getLast, List.cons_append, List.nil_append]
              repeat (go_big_quiet_step ((go_at_call 38; exact Calls.quiet_of_same (CB.out _))))
              refine wpQuiet_nil ?_
              rintro _ ⟨nq2, rfl⟩
              have HR7 : Hid (Rr (half T F m q (addsM T F m q (k + 1) x0)) w ((w6.drewN nq2).setCell ⟨w.heap.size, q, none⟩ (.int .u8 (bits .or .u8 x1 y1)))) := hide (by
                have h1 := (HR6.out.go (below_drewN w6 nq2)).set q (bits .or .u8 x1 y1)
                rw [half_set HQM.out] at h1
                rw [HS.out]
                exact h1)
              have r7 : (w6.drewN nq2).cell? ⟨w.heap.size, q, none⟩ = some (.int .u8 x1) := r0
              have f7 : (w6.drewN nq2).frozen? ⟨w.heap.size, q, none⟩ = false := f0
              go_wp2_with fail
              go_roundw
              case rel => exact ⟨k + 1, by omega, by go_num, HR7⟩
              case measure => simp [intOf]; omega
        · have hk5 : k = 4 := by omega
          subst hk5
          have HN : Hid (Rr (half T F m (q + 1) 0) w wr) := hide (by have := HR.out; rw [← HX0.out, half_next] at this; exact this)
          clear HR
          go_wp2_with fail
          go_roundw
          case rel => exact ⟨q + 1, by omega, by go_num, HN⟩
          case measure => simp [intOf]; omega
    · have HN : Hid (At1 wr (some ⟨w.heap.size, 0, none⟩) (u8s (roundM T F m))) := hide (by
        have hqe : q = m.length := by rw [HML.out]; omega
        have h1 := HR.out.fx
        rw [hqe, half_end] at h1
        exact fun i v hi => ⟨_, _, rfl, by rw [Nat.zero_add]; exact h1.get hi⟩)
      have HLo := hide HR.out.low
      clear HR
      go_wp2_with fail
      go_ret
      exact ⟨rfl, HN.out, HLo.out⟩
end
end Go.Proofs.YtddlhlifkhaokaaGreat.Rf
