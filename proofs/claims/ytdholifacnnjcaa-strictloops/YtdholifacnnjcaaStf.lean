/- strictFor. -/
import Derived.Test.YtdholifacnnjcaaLs
namespace Go.Proofs.Ytdholifacnnjcaa
open Go.RowKit

def strB (T : Th) (z : Int) (a : Nat) : Bool := match T.rules[a]? with
  | some x => decide (x.kind = 1) && decide (x.head = z)
  | none => false
def strL (T : Th) (k : Nat) (z : Int) : List Int := ((List.range k).filter (strB T z)).map Int.ofNat
theorem strL_succ {T : Th} {k : Nat} {z : Int} : strL T (k + 1) z = if strB T z k then strL T k z ++ [(k : Int)] else strL T k z := by
  unfold strL
  rw [List.range_succ, List.filter_append, List.map_append]
  cases h : strB T z k <;> simp [h]
theorem strL_len {T : Th} {k : Nat} {z : Int} : (strL T k z).length ≤ k := by
  unfold strL
  rw [List.length_map]
  exact Nat.le_trans (List.length_filter_le _ _) (by simp)
structure Str (T : Th) (n k : Nat) (H : List (List Int)) : Prop where
  ln : H.length = n
  at_ : ∀ z : Nat, z < n → H.getD z [] = strL T k z
section
variable {T : Th} {n k : Nat} {H : List (List Int)} {R : RuleM}
theorem Str.start (T : Th) (n : Nat) : Str T n 0 (List.replicate n []) := by
  refine ⟨by simp, fun z hz => ?_⟩
  rw [List.getD_eq_getElem?_getD, List.getElem?_replicate]
  simp [hz, strL]
theorem Str.skip (h : Str T n k H) (hr : T.rules[k]? = some R) (hk : R.kind ≠ 1) : Str T n (k + 1) H := by
  refine ⟨h.ln, fun z hz => ?_⟩
  rw [h.at_ z hz, strL_succ]
  have : strB T z k = false := by unfold strB; rw [hr]; simp [hk]
  simp [this]
theorem Str.add {y : Nat} (h : Str T n k H) (hr : T.rules[k]? = some R) (hk : R.kind = 1) (hy : R.head = (y : Int)) (hyn : y < n) : Str T n (k + 1) (H.set y (H.getD y [] ++ [(k : Int)])) := by
  refine ⟨by rw [List.length_set]; exact h.ln, fun z hz => ?_⟩
  rw [getD_set (by rw [h.ln]; exact hyn), strL_succ]
  by_cases e : z = y
  · subst e
    have : strB T z k = true := by unfold strB; rw [hr]; simp [hk, hy]
    rw [if_pos rfl, h.at_ z hz, this]
    rfl
  · have : strB T z k = false := by
      have hne : ¬ R.head = (z : Int) := by omega
      unfold strB; rw [hr]; simp [hne]
    rw [if_neg e, h.at_ z hz, this]
    rfl
theorem Str.row_le (h : Str T n k H) {z : Nat} {m : List Int} (hm : H[z]? = some m) : m.length ≤ k := by
  have hz : z < n := by rw [← h.ln]; exact (List.getElem?_eq_some_iff.1 hm).1
  have := h.at_ z hz
  rw [List.getD_eq_getElem?_getD, hm] at this
  have e : m = _ := this
  rw [e]
  exact strL_len
end
set_option maxRecDepth 100000 in
set_option maxHeartbeats 12800000 in
theorem strictFor_any {w : World} {T : Th} {F : List Int} {n : Nat} {fa ra ba : Option Addr} {fc rc bc : Nat} (h : TA w.heap.size w T fa fc ra rc ba bc) (hw : Nm T F n) (hn : T.lits = (n : Int)) (hn4 : n ≤ 4096) (hrl : T.rules.length ≤ 4096) :
    Calls Try.prog 29 #[tv T fa fc ra rc ba bc] w fun e w' => ∃ ub H vs, e = .returned (.slice (some ⟨ub, 0, none⟩) n n) ∧ Hv ub n H vs w' ∧ Str T n T.rules.length H ∧ w.heap.size ≤ ub ∧ Below w.heap.size w w' := by
  obtain ⟨iI, hiI, zI0, zI1, zI2⟩ := info_parts infoI
  obtain ⟨iL, hiL, zL0, zL1, zL2⟩ := info_parts infoL
  have hm := fun W => run_make_fix (P := Try.prog) Try.underlying22 hiL zL0 zL1 rfl n (by rw [zL2]; omega) (by unfold maxLen; omega) W
  have HW := hide hw
  have hB := below_new w (.cells #[.int .i64 T.lits, .slice fa T.foes.length fc, .slice ra T.rules.length rc, .slice ba T.beats.length bc] 25)
  have hX := heap_alloc_new w (.cells #[.int .i64 T.lits, .slice fa T.foes.length fc, .slice ra T.rules.length rc, .slice ba T.beats.length bc] 25)
  have HL := hide (TR.go hB h)
  have HB := hide hB
  have HX := hide hX
  have HN0 := hide hn
  clear h hB hw hn
  go_enter Try.func29, Try.ntmps29
  go_upto_region 1 with fail
  generalize w.alloc (.cells #[.int .i64 T.lits, .slice fa T.foes.length fc, .slice ra T.rules.length rc, .slice ba T.beats.length bc] 25) = W at *
  obtain ⟨-, c0, c1, c2, c3⟩ := Bt.of hX
  clear hX
  rw [HN0.out] at c0
  go_upto_region 2 with fail
  have HV := hide (Hv.start W n)
  have hA := below_new W (.cells (Array.replicate n (.slice none 0 0)) 26)
  have HX1 := hide ((hA.block _ (loc_lt HX.out)).trans HX.out)
  have HBc := hide hA
  generalize W.alloc (.cells (Array.replicate n (.slice none 0 0)) 26) = wc at *
  clear hA c0 c1 c2 c3 hm
  generalize hub : W.heap.size = ub at *
  have HRU := hide HL.out.rules
  clear HX HL
  obtain ⟨-, c0, c1, c2, c3⟩ := Bt.of HX1.out
  go_upto_region 3 with fail
  clear c0 c1 c2 c3
  go_loopw [12] (fun x wr => ∃ (k : Nat) (H : List (List Int)) (vs : List Value), k ≤ T.rules.length ∧ x = .int .i64 k ∧ Hid (Str T n k H) ∧ Hid (Hv ub n H vs wr) ∧ Hid (Below ub W wr)) (fun x _ => T.rules.length - (intOf x).toNat)
  case atStart => exact ⟨0, _, _, by omega, rfl, hide (Str.start T n), HV, HBc⟩
  case round =>
    clear HV
    obtain ⟨k, H, vs, hk, rfl, HUS, HV, HBr⟩ := hrel
    by_cases hlt : k < T.rules.length
    · obtain ⟨r, hr⟩ := get_at hlt
      obtain ⟨gr, go, bd, bp, rfl, hgr, x0, x1, x2, -, hbl, -⟩ := at_R (Rules.keep HBr.out.block HRU.out) hr
      have hmem := List.mem_of_getElem? hr
      have hA := below_new wr (.cells #[.int .i64 r.kind, .int .i64 r.head, .slice bd r.body.length bp] 36)
      have hWr : ub ≤ wr.heap.size := by have := HBr.out.size; omega
      have HVq := hide (HV.out.go hA)
      have HBq := hide (HBr.out.trans (hA.mono hWr))
      have HQ : Hid (Fx wr.heap.size 36 [.int .i64 r.kind, .int .i64 r.head, .slice bd r.body.length bp] (wr.alloc (.cells #[.int .i64 r.kind, .int .i64 r.head, .slice bd r.body.length bp] 36))) := hide (heap_alloc_new wr _)
      by_cases hk1 : r.kind = 1
      · have hh := HW.out.head r hmem
        obtain ⟨xm, hhm⟩ := Int.eq_ofNat_of_zero_le hh.1
        have hxn : xm < n := by omega
        have HK1 := hide hk1
        have HHM := hide hhm
        have HRr := hide hr
        clear hr hmem hA HV hh hbl
        rw [hhm, hk1] at HQ HVq HBq
        rw [hhm] at x1
        rw [hk1] at x0
        clear hhm hk1
        go_upto_region 6 with fail
        generalize wr.alloc (.cells #[.int .i64 1, .int .i64 xm, .slice bd r.body.length bp] 36) = wq at *
        generalize hq : wr.heap.size = q at *
        clear x0 x1 x2
        obtain ⟨m, ma, mc, hm1, hvm, cm, om⟩ := HVq.out.at hxn
        have hml := HUS.out.row_le hm1
        have HU2 : Hid (Str T n (k + 1) (H.set xm (m ++ [(k : Int)]))) := hide (by
          have := HUS.out.add HRr.out HK1.out HHM.out hxn
          rw [List.getD_eq_getElem?_getD, hm1] at this
          exact this)
        have y1 := HQ.out.get (i := 1) rfl
        have fz := HVq.out.fx.frz xm
        have hA := below_new wq (.cells #[.int .i64 k] 3)
        have hbs : ub + 1 ≤ wq.heap.size := HVq.out.fx.lt
        have HVA := hide (HVq.out.go hA)
        have HOM := hide (owns_keep om fun g hg => hA.block g (owns_lt om hg))
        have cmA := HVA.out.fx.get hvm
        have fzA := HVA.out.fx.frz xm
        have yA := (HQ.out.keep (hA.block _ HQ.out.lt)).get (i := 1) rfl
        have HSA : Hid ((wq.alloc (.cells #[.int .i64 k] 3)).drew.heap.size = wq.heap.size + 1) := hide (by show (wq.alloc (.cells #[.int .i64 k] 3)).heap.size = _; simp)
        have HNA : Hid (∀ j u, [Value.int .i64 k][j]? = some u → (wq.alloc (.cells #[.int .i64 k] 3)).drew.cell? ((⟨wq.heap.size, 0, none⟩ : Addr).add j) = some u) := hide (World.news_of_block (cs := [Value.int .i64 k].toArray) (t := 3) (fr := (0, 0)) (heap_alloc_new wq (.cells #[.int .i64 k] 3)))
        have HNE : Hid (Value.ownBlock (.slice ma m.length mc) ≠ some ub) := hide (own_fx om HVq.out.fx (by decide))
        have HNQ : Hid (Value.ownBlock (.slice ma m.length mc) ≠ some q) := hide (own_fx om HQ.out (by decide))
        have HHI : Hid (∀ g, Value.ownBlock (.slice ma m.length mc) = some g → ub ≤ g) := hide fun g e => by have := (om.lt g e).1; omega
        have HM := hide hm1
        have HVM := hide hvm
        clear hA hm1 hvm om
        go_region_law (refine step_append_lies _ (by rfl) _ _ _ (by rfl) (ub + 1) 3 iI _ 1 8 Try.underlying26 hiI zI0 zI1 zI2 rfl (by decide) (.slice ma m.length mc) m.length (ints m) (by rfl) HOM.out ⟨wq.heap.size, 0, none⟩ 1 1 [.int .i64 k] (by rfl) rfl HNA.out (by simp [Value.oneCell']) (by decide) (by unfold maxLen; omega) (by omega) (by rw [HSA.out]; omega) (wq.heap.size + 1) HSA.out ?_; intro gg cap w5 hown hgrow hat hlt5; have f5 := HVq.out.fx.keep (grown_old2 hgrow HVq.out.fx.lt HNE.out); have q1 := f5.get HVM.out; have q2 := f5.frz xm; have q3 := (HQ.out.keep (grown_old2 hgrow HQ.out.lt HNQ.out)).get (i := 1) rfl; clear f5)
        all_goals
          have HN5 := hide (HVq.out.add HM.out HVM.out hown (fun k hk hn => grown_old2 hgrow hk hn) (by rcases hat with h | h; exact .inl h; exact .inr (by omega)))
          have HB5 := hide (HBq.out.trans ((grown_low hgrow HHI.out (by omega)).setCell (p := ⟨ub, xm, none⟩) (Nat.le_refl ub) (.slice (some ⟨gg, 0, none⟩) (m.length + 1) cap)))
          clear hown hgrow hat hlt5 q1 q2 q3 y1 fz cmA fzA yA cm
          generalize w5.setCell ⟨ub, xm, none⟩ (.slice (some ⟨gg, 0, none⟩) (m.length + 1) cap) = w6 at *
          go_wp2_with fail
          go_roundw
          case rel => exact ⟨k + 1, _, _, by omega, by go_num, HU2, HN5, HB5⟩
          case measure => simp [intOf]; omega
      · have hk2 : (r.kind == 1) = false := by simpa using hk1
        have HUK := hide (HUS.out.skip hr hk1)
        clear hr hmem hA HV hk1
        go_wp2_with fail
        go_roundw
        case rel => exact ⟨k + 1, H, vs, by omega, by go_num, HUK, HVq, HBq⟩
        case measure => simp [intOf]; omega
    · have HE : Hid (k = T.rules.length) := hide (by omega)
      have HSz := hide HB.out.size
      rw [hub] at HSz
      go_wp2_with fail
      go_ret
      have hus := HUS.out
      rw [HE.out] at hus
      exact ⟨ub, H, vs, rfl, HV.out, hus, HSz.out, HB.out.trans (HBr.out.mono (by have := HSz.out; omega))⟩
end Go.Proofs.Ytdholifacnnjcaa
