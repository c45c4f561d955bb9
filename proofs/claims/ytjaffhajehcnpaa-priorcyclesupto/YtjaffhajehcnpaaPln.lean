/- The law's plain. -/
import Derived.Test.YtjaffhajehcnpaaCpy
namespace Go.Proofs.Ytjaffhajehcnpaa
open Go.RowKit

def inL (n : Nat) (l : List Int) : List Int := l.filter fun z => inN z n
def plainM (next : List (List Int)) : List (List Int) := next.map (inL next.length)
def PlI (next : List (List Int)) (i : Nat) (r : List Int) (H : List (List Int)) : Prop := H.length = next.length ∧ ∀ j row, next[j]? = some row → H[j]? = some (if j < i then inL next.length row else if j = i then inL next.length r else [])
theorem inL_snoc {n : Nat} {r : List Int} {z : Int} : inL n (r ++ [z]) = if inN z n then inL n r ++ [z] else inL n r := by
  unfold inL
  rw [List.filter_append, List.filter_cons, List.filter_nil]
  split <;> simp
section
variable {next H : List (List Int)} {i : Nat} {r : List Int} {z : Int}
theorem PlI.start : PlI next 0 [] (List.replicate next.length []) := by
  refine ⟨by simp, fun j row hj => ?_⟩
  have := (List.getElem?_eq_some_iff.1 hj).1
  rw [List.getElem?_replicate, if_pos this, if_neg (by omega)]
  split <;> simp [inL]
theorem PlI.skip (h : PlI next i r H) (hz : inN z next.length = false) : PlI next i (r ++ [z]) H := by
  refine ⟨h.1, fun j row hj => ?_⟩
  have e : inL next.length (r ++ [z]) = inL next.length r := by rw [inL_snoc, if_neg (by rw [hz]; decide)]
  rw [h.2 j row hj, e]
theorem PlI.more (h : PlI next i r H) (hi : i < next.length) (hz : inN z next.length = true) : PlI next i (r ++ [z]) (H.set i (inL next.length r ++ [z])) := by
  refine ⟨by rw [List.length_set]; exact h.1, fun j row hj => ?_⟩
  by_cases e : j = i
  · subst e
    rw [List.getElem?_set_self (by rw [h.1]; exact hi), if_neg (by omega), if_pos rfl, inL_snoc, if_pos hz]
  · rw [List.getElem?_set_ne (fun h => e h.symm), h.2 j row hj, if_neg e]
    by_cases h2 : j < i
    · rw [if_pos h2, if_pos h2]
    · rw [if_neg h2, if_neg h2, if_neg e]
theorem PlI.row (h : PlI next i r H) (hr : next[i]? = some r) : PlI next (i + 1) [] H := by
  refine ⟨h.1, fun j row hj => ?_⟩
  rw [h.2 j row hj]
  by_cases e : j = i
  · subst e
    rw [hr] at hj
    cases hj
    rw [if_neg (by omega), if_pos rfl, if_pos (by omega)]
  · rw [if_neg e]
    by_cases h2 : j < i
    · rw [if_pos h2, if_pos (by omega)]
    · rw [if_neg h2, if_neg (by omega)]
      split <;> simp [inL]
theorem PlI.done (h : PlI next next.length [] H) : H = plainM next := by
  apply List.ext_getElem?
  intro j
  unfold plainM
  rw [List.getElem?_map]
  cases hj : next[j]? with
  | none =>
    rw [List.getElem?_eq_none_iff] at hj
    rw [List.getElem?_eq_none (by rw [h.1]; exact hj)]
    rfl
  | some row =>
    have := (List.getElem?_eq_some_iff.1 hj).1
    rw [h.2 j row hj, if_pos this]
    rfl
theorem PlI.at (h : PlI next i r H) (hi : i < next.length) : H[i]? = some (inL next.length r) := by
  obtain ⟨row, hr⟩ := get_at hi
  rw [h.2 i row hr, if_neg (by omega), if_pos rfl]
end
theorem inL_len {n : Nat} {l : List Int} : (inL n l).length ≤ l.length := List.length_filter_le _ _
theorem plain_len {next : List (List Int)} : (plainM next).length = next.length := by unfold plainM; simp
theorem plain_total {next : List (List Int)} : total (plainM next) ≤ total next := by
  unfold total plainM
  rw [List.map_map]
  exact sum_le fun l => inL_len
theorem plain_ed {next : List (List Int)} {a b : Nat} : Ed (plainM next) a b ↔ Ed next a b := by
  unfold Ed
  rw [plain_len]
  constructor
  · rintro ⟨h1, h2⟩
    refine ⟨h1, ?_⟩
    unfold plainM at h2
    rw [List.getD_eq_getElem?_getD, List.getElem?_map] at h2
    rw [List.getD_eq_getElem?_getD]
    cases hr : next[a]? with
    | none => rw [hr] at h2; simp at h2
    | some r => rw [hr] at h2; exact (List.mem_filter.1 h2).1
  · rintro ⟨h1, h2⟩
    refine ⟨h1, ?_⟩
    unfold plainM
    rw [List.getD_eq_getElem?_getD, List.getElem?_map]
    rw [List.getD_eq_getElem?_getD] at h2
    cases hr : next[a]? with
    | none => rw [hr] at h2; simp at h2
    | some r => rw [hr] at h2; exact List.mem_filter.2 ⟨h2, inN_iff.2 (by omega)⟩
theorem Hv.lists {hb n : Nat} {H : List (List Int)} {vs : List Value} {w : World} (h : Hv hb n H vs w) (hn : n ≤ 1048576) (hr : ∀ (i : Nat) (l : List Int), H[i]? = some l → l.length ≤ 1048576) : Lists w.heap.size w H (.slice (some ⟨hb, 0, none⟩) n n) := by
  have := Lists.blk (N := w.heap.size) (l := H) h.fx h.fx.lt (by rw [h.ln]; omega) fun i x hi => by
    obtain ⟨v, hv⟩ := get_at (l := vs) (i := i) (by rw [h.vl, ← h.ln]; exact (List.getElem?_eq_some_iff.1 hi).1)
    have ho := h.own i x v hi hv
    obtain ⟨a, c, e⟩ := owns_slice ho
    rw [e] at ho
    exact ⟨v, hv, by rw [e]; exact ints_owns ho (Nat.le_refl _) (by have := hr i x hi; omega)⟩
  rw [h.ln] at this
  exact this
set_option maxRecDepth 100000 in
set_option maxHeartbeats 12800000 in
theorem plain_any {w : World} {next : List (List Int)} {a : Option Addr} {c : Nat} (h : Lists w.heap.size w next (.slice a next.length c)) (hn : next.length ≤ 1048576) (ht : total next ≤ 1048576) :
    Calls Try.prog 5 #[.slice a next.length c] w fun e w' => ∃ va, e = .returned (.slice va next.length next.length) ∧ Lists w'.heap.size w' (plainM next) (.slice va next.length next.length) ∧ Below w.heap.size w w' := by
  obtain ⟨iI, hiI, zI0, zI1, zI2⟩ := info_parts infoI
  obtain ⟨iL, hiL, zL0, zL1, zL2⟩ := info_parts infoL
  have HL := hide h
  have HRL : Hid (∀ (i : Nat) (l : List Int), next[i]? = some l → l.length ≤ 1048576) := hide fun i l hi => Nat.le_trans (row_le hi) ht
  obtain ⟨n, hnn⟩ : ∃ n, next.length = n := ⟨_, rfl⟩
  have HNN := hide hnn
  rw [hnn] at hn HL ⊢
  clear h hnn
  have HN0 : Hid ((n : Int) = (n : Int)) := hide rfl
  go_enter Try.func5, Try.ntmps5
  go_upto_region 2 with (at_make; go_must (refine wpList_make_fix _ rfl _ _ 22 rfl 27 iL _ Try.underlying22 hiL zL0 zL1 rfl _ _ n rfl rfl HN0.out HN0.out (by rw [zL2]; omega) (by unfold maxLen; omega) ?_))
  have HV0 := hide (Hv.start w n)
  have HB0 := hide (below_new w (.cells (Array.replicate n (.slice none 0 0)) 27))
  have HP0 : Hid (PlI next 0 [] (List.replicate n [])) := hide (by rw [← HNN.out]; exact PlI.start)
  generalize w.alloc (.cells (Array.replicate n (.slice none 0 0)) 27) = w0 at *
  go_wp2_with fail
  go_loopw [4] (fun x wr => ∃ (i : Nat) (H : List (List Int)) (vs : List Value), i ≤ n ∧ x = .int .i64 i ∧ Hid (PlI next i [] H) ∧ Hid (Hv w.heap.size n H vs wr) ∧ Hid (Below w.heap.size w wr)) (fun x _ => n - (intOf x).toNat)
  case atStart => exact ⟨0, _, _, by omega, rfl, HP0, HV0, HB0⟩
  case round =>
    clear HP0 HV0 HB0
    obtain ⟨i, H, vs, hi, rfl, HP, HV, HB⟩ := hrel
    by_cases hlt : i < n
    · obtain ⟨r, hr⟩ := get_at (l := next) (i := i) (by rw [HNN.out]; exact hlt)
      obtain ⟨g1, o1, a2, c2, rfl, hg1, hc0, hrc, _, hI⟩ := at_L HL.out hr
      have HR := hide hr
      have HI := hide hI
      have HC0 := hide hc0
      have hrl := HRL.out i r hr
      obtain ⟨m, hm⟩ : ∃ m, r.length = m := ⟨_, rfl⟩
      rw [hm] at HC0 hrc HI hrl
      have HMM := hide hm
      clear hr hI hm hc0
      go_upto_region 6 with fail
      go_wp2_with fail
      go_loopw [5] (fun x ws => ∃ (k : Nat) (H : List (List Int)) (vs : List Value), k ≤ m ∧ x = .int .i64 k ∧ Hid (PlI next i (r.take k) H) ∧ Hid (Hv w.heap.size n H vs ws) ∧ Hid (Below w.heap.size w ws)) (fun x _ => m - (intOf x).toNat)
      case atStart => exact ⟨0, H, vs, by omega, rfl, HP, HV, HB⟩
      case round =>
        clear HP HV HB
        obtain ⟨k, H, vs, hk, rfl, HP, HV, HB⟩ := hrel
        have cn := (World.cell?_of_block (HB.out.block g1 hg1)).trans HC0.out
        have hBr : w.heap.size ≤ wr.heap.size := HB.out.size
        by_cases hkt : k < m
        · obtain ⟨z, hz⟩ := get_at (l := r) (i := k) (by rw [HMM.out]; exact hkt)
          obtain ⟨g2, o2, rfl, hg2, hcz0⟩ := at_I HI.out hz
          have hcz := (World.cell?_of_block (HB.out.block g2 hg2)).trans hcz0
          have HT := hide (take_snoc hz)
          clear hz hcz0
          by_cases hin : inN z n = true
          · obtain ⟨hz0, hzn⟩ := inN_iff.1 hin
            have hd0 : decide (0 ≤ z) = true := decide_eq_true hz0
            have hd1 : decide (z < n) = true := decide_eq_true hzn
            have hHi := HP.out.at (i := i) (by rw [HNN.out]; exact hlt)
            obtain ⟨l, ma, mc, e1, hvm, cm, om⟩ := HV.out.at hlt
            have hll : l.length ≤ 1048576 := by
              rw [hHi] at e1
              cases e1
              have h1 := inL_len (n := next.length) (l := r.take k)
              rw [List.length_take, HMM.out] at h1
              omega
            have HP2 : Hid (PlI next i (r.take (k + 1)) (H.set i (l ++ [z]))) := hide (by
              have := HP.out.more (z := z) (by rw [HNN.out]; exact hlt) (by rw [HNN.out]; exact hin)
              rw [hHi] at e1
              cases e1
              rw [HT.out]
              exact this)
            have hA := below_new wr (.cells #[.int .i64 z] 3)
            have hbs : w.heap.size + 1 ≤ wr.heap.size := HV.out.fx.lt
            have HVA := hide (HV.out.go hA)
            have HOM := hide (owns_keep om fun g hg => hA.block g (owns_lt om hg))
            have cmA := HVA.out.fx.get hvm
            have fz := HV.out.fx.frz i
            have fzA := HVA.out.fx.frz i
            have cnA := (World.cell?_of_block (hA.block g1 (by omega))).trans cn
            have czA := (World.cell?_of_block (hA.block g2 (by omega))).trans hcz
            have HSA : Hid ((wr.alloc (.cells #[.int .i64 z] 3)).drew.heap.size = wr.heap.size + 1) := hide (by show (wr.alloc (.cells #[.int .i64 z] 3)).heap.size = _; simp)
            have HNA : Hid (∀ j u, [Value.int .i64 z][j]? = some u → (wr.alloc (.cells #[.int .i64 z] 3)).drew.cell? ((⟨wr.heap.size, 0, none⟩ : Addr).add j) = some u) := hide (World.news_of_block (cs := [Value.int .i64 z].toArray) (t := 3) (fr := (0, 0)) (heap_alloc_new wr (.cells #[.int .i64 z] 3)))
            have HNE : Hid (Value.ownBlock (.slice ma l.length mc) ≠ some w.heap.size) := hide (own_fx om HV.out.fx (by decide))
            have HHI : Hid (∀ g, Value.ownBlock (.slice ma l.length mc) = some g → w.heap.size < g) := hide fun g e => by have := (om.lt g e).1; omega
            have HM := hide e1
            have HVM := hide hvm
            clear hA hHi e1 hvm om HP hin
            go_upto_region 9 with fail
            go_region_law (refine step_append_lies _ (by rfl) _ _ _ (by rfl) (w.heap.size + 1) 3 iI _ 1 8 Try.underlying27 hiI zI0 zI1 zI2 rfl (by decide) (.slice ma l.length mc) l.length (ints l) (by rfl) HOM.out ⟨wr.heap.size, 0, none⟩ 1 1 [.int .i64 z] (by rfl) rfl HNA.out (by simp [Value.oneCell']) (by decide) (by unfold maxLen; omega) (by omega) (by rw [HSA.out]; omega) (wr.heap.size + 1) HSA.out ?_; intro gg cap w5 hown hgrow hat hlt5; have o5 := grown_old2 hgrow HV.out.fx.lt HNE.out; have f5 := HV.out.fx.keep o5; have q1 := f5.get HVM.out; have q2 := f5.frz i; clear o5 f5)
            all_goals
              have HV5 := hide (HV.out.add HM.out HVM.out hown (fun k hk hn => grown_old2 hgrow hk hn) (by rcases hat with h | h; exact .inl h; exact .inr (by omega)))
              have HB5 := hide (HB.out.trans ((grown_low hgrow HHI.out (by omega)).setCell (p := ⟨w.heap.size, i, none⟩) (Nat.le_refl _) (.slice (some ⟨gg, 0, none⟩) (l.length + 1) cap)))
              clear hown hgrow hat hlt5 q1 q2 fz cmA fzA cm cn hcz cnA czA
              generalize w5.setCell ⟨w.heap.size, i, none⟩ (.slice (some ⟨gg, 0, none⟩) (l.length + 1) cap) = w6 at *
              go_wp2_with fail
              go_roundw
              case rel => exact ⟨k + 1, _, _, by omega, by go_num, HP2, HV5, HB5⟩
              case measure => simp [intOf]; omega
          · have HP2 : Hid (PlI next i (r.take (k + 1)) H) := hide (by rw [HT.out]; exact HP.out.skip (by rw [HNN.out]; simpa using hin))
            by_cases hz0 : 0 ≤ z
            · have hzn : ¬ z < n := fun h => hin (inN_iff.2 ⟨hz0, h⟩)
              have hd0 : decide (0 ≤ z) = true := decide_eq_true hz0
              have hd1 : decide (z < n) = false := decide_eq_false hzn
              clear HP hin
              go_wp2_with fail
              go_roundw
              case rel => exact ⟨k + 1, H, vs, by omega, by go_num, HP2, HV, HB⟩
              case measure => simp [intOf]; omega
            · have hd0 : decide (0 ≤ z) = false := decide_eq_false hz0
              clear HP hin
              go_wp2_with fail
              go_roundw
              case rel => exact ⟨k + 1, H, vs, by omega, by go_num, HP2, HV, HB⟩
              case measure => simp [intOf]; omega
        · have HP2 : Hid (PlI next (i + 1) [] H) := hide (by
            have := HP.out
            rw [List.take_of_length_le (by rw [HMM.out]; omega)] at this
            exact this.row HR.out)
          clear HP
          go_wp2_with fail
          go_roundw
          case rel => exact ⟨i + 1, H, vs, by omega, by go_num, HP2, HV, HB⟩
          case measure => simp [intOf]; omega
    · have HE : Hid (Lists wr.heap.size wr (plainM next) (.slice (some ⟨w.heap.size, 0, none⟩) n n)) := hide (by
        have h1 := HP.out
        rw [show i = next.length by rw [HNN.out]; omega] at h1
        rw [← h1.done]
        refine HV.out.lists hn fun j l hj => ?_
        rw [h1.done] at hj
        unfold plainM at hj
        rw [List.getElem?_map] at hj
        obtain ⟨row, hrow, rfl⟩ := Option.map_eq_some_iff.1 hj
        have h2 := HRL.out j row hrow
        have h3 := inL_len (n := next.length) (l := row)
        omega)
      go_wp2_with fail
      go_ret
      exact ⟨_, rfl, HE.out, HB.out⟩
end Go.Proofs.Ytjaffhajehcnpaa
