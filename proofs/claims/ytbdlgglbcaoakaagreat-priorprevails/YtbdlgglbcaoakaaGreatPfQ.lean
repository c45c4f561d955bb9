/- The page's Prevails. -/
import Derived.Test.YtbdlgglbcaoakaaGreatPfP
import Derived.Test.YtbdlgglbcaoakaaGreatBkC9
import Derived.Test.YtbdlgglbcaoakaaGreatPrHdn
namespace Go.Proofs.YtbdlgglbcaoakaaGreat
open Go.RowKit Go.Shelf Go.Maps Go.WideMaps
theorem prev_out {S : StatM} {a b : Int} (hc : (checkM S).1 = 0) (h : a < 0 ∨ S.rules.length ≤ a ∨ b < 0 ∨ S.rules.length ≤ b) : prevM S a b = (false, 1) := by
  unfold prevM
  rw [if_pos hc]
  by_cases h1 : Pr.inN a S.rules.length = true
  · rw [if_pos h1]
    have := Pr.inN_iff.1 h1
    rw [if_neg (fun h2 => by have := Pr.inN_iff.1 h2; omega)]
  · rw [if_neg h1]
theorem prev_in {S : StatM} {a b : Nat} {x y : RuleM} (hc : (checkM S).1 = 0) (hx : S.rules[a]? = some x) (hy : S.rules[b]? = some y) (hn1 : x.name.length ≤ maxLen) (hn2 : y.name.length ≤ maxLen) (hxl : ∀ p ∈ S.excepts, p.1.length ≤ maxLen ∧ p.2.length ≤ maxLen) :
    prevM S a b = (refP (decide ((x.name, y.name) ∈ S.excepts)) (decide ((y.name, x.name) ∈ S.excepts)) a b (rkV S.sources x.source) (rkV S.sources y.source) x.day y.day, 0) := by
  have ha : a < S.rules.length := (List.getElem?_eq_some_iff.1 hx).1
  have hb : b < S.rules.length := (List.getElem?_eq_some_iff.1 hy).1
  unfold prevM
  rw [if_pos hc, if_pos (Pr.inN_iff.2 (by omega)), if_pos (Pr.inN_iff.2 (by omega))]
  rw [ref_eq _ _ _ _ _ _ _ _ (fun e => by subst e; rw [hx] at hy; cases hy; exact ⟨rfl, rfl⟩)]
  rw [← exB_iff (x := (x.name, y.name)) hn1 hn2 hxl, ← exB_iff (x := (y.name, x.name)) hn2 hn1 hxl]
  simp only [Int.toNat_natCast]
  unfold StatM.weighM
  simp only [List.getD_eq_getElem?_getD, hx, hy]
  rfl
set_option maxRecDepth 100000 in
set_option maxHeartbeats 12800000 in
theorem rprevails_fn {S : StatM} {st : St9} {w : World} (h : SR w.heap.size w S st) (za zb : Int) :
    Calls Tryz.prog 6 #[st.agg, .int .i64 za, .int .i64 zb] w fun e w' => e = .returned (.tuple #[.bool (prevM S za zb).1, .int .i64 (prevM S za zb).2]) ∧ Below w.heap.size w w' := by
  obtain ⟨tt, ht⟩ := h.title
  obtain ⟨a1, b1, f1, _, l1⟩ := h.kinds.form
  obtain ⟨a2, b2, f2, _, l2⟩ := h.members.form
  obtain ⟨a3, b3, f3, _, l3⟩ := h.preds.form
  obtain ⟨a4, b4, f4, _, l4⟩ := h.classes.form
  obtain ⟨a5, b5, f5, _, l5⟩ := h.sources.form
  obtain ⟨a6, b6, f6, _, l6⟩ := h.rules.form
  obtain ⟨a7, b7, f7, _, l7⟩ := h.excepts.form
  obtain ⟨a8, b8, f8, _, l8⟩ := h.totals.form
  obtain ⟨s0, s1, s2, s3, s4, s5, s6, s7, s8⟩ := st
  simp only at ht f1 f2 f3 f4 f5 f6 f7 f8
  subst ht f1 f2 f3 f4 f5 f6 f7 f8
  have hA : Below w.heap.size w (w.alloc (.cells #[.string tt, .slice a1 S.kinds.length b1, .slice a2 S.members.length b2, .slice a3 S.preds.length b3, .slice a4 S.classes.length b4, .slice a5 S.sources.length b5, .slice a6 S.rules.length b6, .slice a7 S.excepts.length b7, .slice a8 S.totals.length b8] 31)) := (Below.refl _ w).alloc (Nat.le_refl _) _
  have hbx := heap_alloc_new w (.cells #[.string tt, .slice a1 S.kinds.length b1, .slice a2 S.members.length b2, .slice a3 S.preds.length b3, .slice a4 S.classes.length b4, .slice a5 S.sources.length b5, .slice a6 S.rules.length b6, .slice a7 S.excepts.length b7, .slice a8 S.totals.length b8] 31)
  have CK := hide (rcheck_any (h.up hA))
  have HS := hide fun (X : World) (hb : Below w.heap.size w X) => h.up hb
  unfold St9.agg at *
  simp only at *
  have HA := hide hA
  have HBX := hide hbx
  clear h hA hbx
  go_enter Tryz.func6, Tryz.ntmps6
  go_wp2_with fail
  refine CK.out.mono ?_
  rintro _ w1 ⟨rfl, hb1⟩
  have HB1 := hide (HA.out.trans (hb1.mono HA.out.size))
  have HX1 := hide ((hb1.block w.heap.size (loc_lt HBX.out)).trans HBX.out)
  clear hb1 CK HA HBX
  have k0 := cell_of_row w1 w.heap.size 0 _ _ _ HX1.out
  have k1 := cell_of_row w1 w.heap.size 1 _ _ _ HX1.out
  have k2 := cell_of_row w1 w.heap.size 2 _ _ _ HX1.out
  have k3 := cell_of_row w1 w.heap.size 3 _ _ _ HX1.out
  have k4 := cell_of_row w1 w.heap.size 4 _ _ _ HX1.out
  have k5 := cell_of_row w1 w.heap.size 5 _ _ _ HX1.out
  have k6 := cell_of_row w1 w.heap.size 6 _ _ _ HX1.out
  have k7 := cell_of_row w1 w.heap.size 7 _ _ _ HX1.out
  have k8 := cell_of_row w1 w.heap.size 8 _ _ _ HX1.out
  simp at k0 k1 k2 k3 k4 k5 k6 k7 k8
  obtain ⟨c0, hc0⟩ : ∃ c, (checkM S).1 = c := ⟨_, rfl⟩
  have HC := hide hc0
  rw [hc0]
  generalize ((checkM S).2 : Int) = n0
  clear hc0
  by_cases hc : c0 = 0
  · subst hc
    have HP := hide (prev_out (a := za) (b := zb) HC.out)
    obtain ⟨nr, hnr⟩ : ∃ n, S.rules.length = n := ⟨_, rfl⟩
    have HNR := hide hnr
    rw [hnr] at HP k6 l6
    clear hnr
    by_cases h1 : za < 0
    · go_wp2_with fail
      go_ret2
      exact ⟨by rw [HP.out (.inl h1)]; rfl, HB1.out⟩
    · by_cases h2 : (nr : Int) ≤ za
      · go_wp2_with fail
        go_ret2
        exact ⟨by rw [HP.out (.inr (.inl h2))]; rfl, HB1.out⟩
      · by_cases h3 : zb < 0
        · go_wp2_with fail
          go_ret2
          exact ⟨by rw [HP.out (.inr (.inr (.inl h3)))]; rfl, HB1.out⟩
        · by_cases h4 : (nr : Int) ≤ zb
          · go_wp2_with fail
            go_ret2
            exact ⟨by rw [HP.out (.inr (.inr (.inr h4)))]; rfl, HB1.out⟩
          · obtain ⟨a, rfl⟩ := Int.eq_ofNat_of_zero_le (show 0 ≤ za by omega)
            obtain ⟨b, rfl⟩ := Int.eq_ofNat_of_zero_le (show 0 ≤ zb by omega)
            obtain ⟨x, hx⟩ : ∃ x, S.rules[a]? = some x := ⟨_, List.getElem?_eq_getElem (by rw [HNR.out]; omega)⟩
            obtain ⟨y, hy⟩ : ∃ y, S.rules[b]? = some y := ⟨_, List.getElem?_eq_getElem (by rw [HNR.out]; omega)⟩
            have hS3 := HS.out w1 HB1.out
            have hn1 : x.name.length ≤ maxLen := by obtain ⟨_, _, _, _, _, _, _, _, _, _, _, _, _, _, _, _, _, _, _, hn1, _⟩ := at_R hS3.rules hx; exact hn1
            have hn2 : y.name.length ≤ maxLen := by obtain ⟨_, _, _, _, _, _, _, _, _, _, _, _, _, _, _, _, _, _, _, hn2, _⟩ := at_R hS3.rules hy; exact hn2
            have hxl : ∀ p ∈ S.excepts, p.1.length ≤ maxLen ∧ p.2.length ≤ maxLen := by
              intro p hp
              obtain ⟨i, hi⟩ := List.mem_iff_getElem?.1 hp
              obtain ⟨_, _, _, _, _, _, h1, h2⟩ := at_M hS3.excepts hi
              exact ⟨h1, h2⟩
            have HPP := hide (prev_in HC.out hx hy hn1 hn2 hxl)
            have CV := hide (rprev_any hS3 (ok_names HC.out) hx hy)
            unfold St9.agg at CV
            simp only at CV
            rw [HNR.out] at CV
            clear hS3 hx hy hxl HP
            generalize refP (decide ((x.name, y.name) ∈ S.excepts)) (decide ((y.name, x.name) ∈ S.excepts)) a b (rkV S.sources x.source) (rkV S.sources y.source) x.day y.day = rv at *
            go_wp2_with fail
            refine CV.out.mono ?_
            rintro _ w3 ⟨rfl, hb3⟩
            have HB3 := hide (HB1.out.trans (hb3.mono HB1.out.size))
            clear hb3 CV
            go_wp2_with fail
            go_ret2
            exact ⟨by rw [HPP.out]; rfl, HB3.out⟩
  · have HP : Hid (prevM S za zb = (false, c0)) := hide (by unfold prevM; rw [if_neg (by rw [HC.out]; exact hc), HC.out])
    have hcb : (c0 == 0) = false := by simpa using hc
    clear k0 k1 k2 k3 k4 k5 k6 k7 k8
    go_wp2_with fail
    go_ret2
    exact ⟨by rw [HP.out]; rfl, HB1.out⟩
end Go.Proofs.YtbdlgglbcaoakaaGreat
/- awaits. -/
namespace Go.Proofs.YtbdlgglbcaoakaaGreat.Pr
open Go.RowKit

def AwI (next : List (List Int)) (i : Nat) (r : List Int) (T : List Int) : Prop := T.length = next.length ∧ ∀ k, k < next.length → T.getD k 0 = ((((next.take i).map fun l => l.count (k : Int)).sum + r.count (k : Int) : Nat) : Int)
section
variable {next : List (List Int)} {i : Nat} {r T : List Int} {z : Int}
theorem AwI.start : AwI next 0 [] (List.replicate next.length 0) := ⟨by simp, fun k hk => by simp [List.getD, hk]⟩
theorem AwI.skip (h : AwI next i r T) (hz : inN z next.length = false) : AwI next i (r ++ [z]) T := by
  refine ⟨h.1, fun k hk => ?_⟩
  have hne : z ≠ (k : Int) := fun e => by
    have : inN z next.length = true := inN_iff.2 (by omega)
    rw [hz] at this; cases this
  rw [h.2 k hk, List.count_append, List.count_singleton]
  simp [hne]
theorem AwI.more (h : AwI next i r T) {n : Nat} (hn : n < next.length) : AwI next i (r ++ [(n : Int)]) (T.set n (T.getD n 0 + 1)) := by
  refine ⟨by rw [List.length_set]; exact h.1, fun k hk => ?_⟩
  rw [List.count_append, List.count_singleton]
  by_cases e : n = k
  · subst e
    have : (T.set n (T.getD n 0 + 1)).getD n 0 = T.getD n 0 + 1 := by simp [List.getD, show n < T.length by rw [h.1]; exact hn]
    rw [this, h.2 n hk]
    simp
    omega
  · have : (T.set n (T.getD n 0 + 1)).getD k 0 = T.getD k 0 := by simp [List.getD, List.getElem?_set_ne e]
    rw [this, h.2 k hk]
    have hne : ((n : Int) == (k : Int)) = false := by simp; omega
    simp [hne]
theorem AwI.row (h : AwI next i r T) (hr : next[i]? = some r) : AwI next (i + 1) [] T := by
  refine ⟨h.1, fun k hk => ?_⟩
  rw [h.2 k hk, take_snoc hr, List.map_append, List.sum_append]
  simp
theorem take_le : ((next.take i).map fun l => l.count z).sum ≤ total next := by
  have h1 : ((next.take i).map fun l => l.count z).sum ≤ ((next.take i).map List.length).sum := sum_le fun _ => List.count_le_length
  have h2 : ((next.take i).map List.length).sum + ((next.drop i).map List.length).sum = total next := by
    unfold total
    rw [← List.sum_append, ← List.map_append, List.take_append_drop]
  omega
theorem AwI.bound (h : AwI next i r T) {k : Nat} (hk : k < next.length) : 0 ≤ T.getD k 0 ∧ T.getD k 0 ≤ total next + r.length := by
  have h1 := take_le (next := next) (i := i) (z := (k : Int))
  have h2 := List.count_le_length (a := (k : Int)) (l := r)
  rw [h.2 k hk]
  omega
theorem AwI.cnt (h : AwI next next.length [] T) : T.length = next.length ∧ ∀ k, k < next.length → T.getD k 0 = ((cnt next [] k : Nat) : Int) := by
  refine ⟨h.1, fun k hk => ?_⟩
  rw [h.2 k hk, cnt_nil, List.take_length]
  simp
end
set_option maxRecDepth 100000 in
set_option maxHeartbeats 6400000 in
theorem awaits_any {N : Nat} {w : World} {next : List (List Int)} {a : Option Addr} {c : Nat} (h : Lists N w next (.slice a next.length c)) (hN : N ≤ w.heap.size) (hn : next.length ≤ 1048576) (ht : total next ≤ 1048576) :
    Calls Tryz.prog 42 #[.slice a next.length c] w fun e w' => e = .returned (.slice (some ⟨w.heap.size, 0, none⟩) next.length next.length) ∧ (∃ T, AwI next next.length [] T ∧ Fx w.heap.size 3 (ints T) w') ∧ Below w.heap.size w w' := by
  obtain ⟨iI, hiI, zI0, zI1, zI2⟩ := info_parts infoI
  have HL := hide h
  have HRL : Hid (∀ (i : Nat) (l : List Int), next[i]? = some l → l.length ≤ 1048576) := hide fun i l hi => Nat.le_trans (row_le hi) ht
  obtain ⟨n, hnn⟩ : ∃ n, next.length = n := ⟨_, rfl⟩
  have HNN := hide hnn
  rw [hnn] at hn ⊢
  clear h hnn
  go_enter Tryz.func42, Tryz.ntmps42
  have HN0 : Hid ((n : Int) = (n : Int)) := hide rfl
  go_upto_region 2 with (at_make; go_must (refine wpList_make_fix _ rfl _ _ 57 rfl 3 iI _ Tryz.underlying57 hiI zI0 zI1 rfl _ _ n rfl rfl HN0.out HN0.out (by rw [zI2]; omega) (by unfold maxLen; omega) ?_))
  have HF0 : Hid (Fx w.heap.size 3 (ints (List.replicate n 0)) (w.alloc (.cells (Array.replicate n (.int .i64 0)) 3))) := hide (by rw [ints_rep]; exact heap_alloc_new w _)
  have HB0 := hide (below_new w (.cells (Array.replicate n (.int .i64 0)) 3))
  have HA0 : Hid (AwI next 0 [] (List.replicate n 0)) := hide (by rw [← HNN.out]; exact AwI.start)
  generalize w.alloc (.cells (Array.replicate n (.int .i64 0)) 3) = w0 at *
  go_wp2_with fail
  go_loopw [13] (fun x wr => ∃ (i : Nat) (T : List Int), i ≤ n ∧ x = .int .i64 i ∧ Hid (AwI next i [] T) ∧ Hid (Fx w.heap.size 3 (ints T) wr) ∧ Hid (Below w.heap.size w wr)) (fun x _ => n - (intOf x).toNat)
  case atStart => exact ⟨0, _, by omega, rfl, HA0, HF0, HB0⟩
  case round =>
    clear HA0 HF0 HB0
    obtain ⟨i, T, hi, rfl, HA, HF, HB⟩ := hrel
    by_cases hlt : i < n
    · obtain ⟨r, hr⟩ := get_at (l := next) (i := i) (by rw [HNN.out]; exact hlt)
      obtain ⟨g1, o1, a2, c2, rfl, hg1, hc0, hrc, _, hI⟩ := at_L HL.out hr
      have hc1 : wr.cell? ⟨g1, o1 + i, none⟩ = some (.slice a2 r.length c2) := (World.cell?_of_block (HB.out.block g1 (by omega))).trans hc0
      have HR := hide hr
      have HI := hide hI
      have hrl := HRL.out i r hr
      obtain ⟨m, hm⟩ : ∃ m, r.length = m := ⟨_, rfl⟩
      rw [hm] at hc1 hrc HI hrl
      have HMM := hide hm
      clear hr hI hm hc0
      go_upto_region 6 with fail
      go_wp2_with fail
      go_loopw [19] (fun x ws => ∃ (j : Nat) (T : List Int), j ≤ m ∧ x = .int .i64 j ∧ Hid (AwI next i (r.take j) T) ∧ Hid (Fx w.heap.size 3 (ints T) ws) ∧ Hid (Below w.heap.size w ws)) (fun x _ => m - (intOf x).toNat)
      case atStart => exact ⟨0, T, by omega, rfl, HA, HF, HB⟩
      case round =>
        clear HA HF HB hc1 T
        obtain ⟨j, T, hj, rfl, HA, HF, HB⟩ := hrel
        by_cases hjt : j < m
        · obtain ⟨z, hz⟩ := get_at (l := r) (i := j) (by rw [HMM.out]; exact hjt)
          obtain ⟨g2, o2, rfl, hg2, hcz0⟩ := at_I HI.out hz
          have hcz : wr.cell? ⟨g2, o2 + j, none⟩ = some (.int .i64 z) := (World.cell?_of_block (HB.out.block g2 (by omega))).trans hcz0
          have HT := hide (take_snoc hz)
          clear hz hcz0
          cases hin : inN z n with
          | true =>
            have hzz := inN_iff.1 hin
            obtain ⟨k, rfl⟩ := Int.eq_ofNat_of_zero_le hzz.1
            have hkn : k < n := by omega
            have hbd := HA.out.bound (k := k) (by rw [HNN.out]; exact hkn)
            have hrj : (r.take j).length ≤ 1048576 := by rw [List.length_take, HMM.out]; omega
            have kc := HF.out.get (ints_at (l := T) (i := k) (by rw [HA.out.1, HNN.out]; exact hkn))
            have kf := HF.out.frz k
            have HA2 : Hid (AwI next i (r.take (j + 1)) (T.set k (T.getD k 0 + 1))) := hide (by rw [HT.out]; exact HA.out.more (by rw [HNN.out]; exact hkn))
            have HF2 : Hid (Fx w.heap.size 3 (ints (T.set k (T.getD k 0 + 1))) (wr.setCell ⟨w.heap.size, k, none⟩ (.int .i64 (T.getD k 0 + 1)))) := hide (by rw [← ints_set]; exact HF.out.set k _)
            have HB2 := hide (HB.out.setCell (p := ⟨w.heap.size, k, none⟩) (Nat.le_refl _) (.int .i64 (T.getD k 0 + 1)))
            have hb2 : 0 ≤ T.getD k 0 ∧ T.getD k 0 ≤ 2097152 := by omega
            generalize hgt : T.getD k 0 = t at *
            clear HA HF HB hzz hbd hgt HT
            go_wp2_with (go_at_call 10; refine (within_any _ _ _).mono ?_; rw [hin]; rintro e w2 ⟨rfl, hw2⟩; subst w2)
            go_roundw
            case rel => exact ⟨j + 1, _, by omega, by go_num, HA2, HF2, HB2⟩
            case measure => simp [intOf]; omega
          | false =>
            have HA2 : Hid (AwI next i (r.take (j + 1)) T) := hide (by rw [HT.out]; exact HA.out.skip (by rw [HNN.out]; exact hin))
            clear HA HT
            go_wp2_with (go_at_call 10; refine (within_any _ _ _).mono ?_; rw [hin]; rintro e w2 ⟨rfl, hw2⟩; subst w2)
            go_roundw
            case rel => exact ⟨j + 1, T, by omega, by go_num, HA2, HF, HB⟩
            case measure => simp [intOf]; omega
        · have HA2 : Hid (AwI next (i + 1) [] T) := hide (by
            have := HA.out
            rw [List.take_of_length_le (by rw [HMM.out]; omega)] at this
            exact this.row HR.out)
          clear HA
          go_wp2_with fail
          go_roundw
          case rel => exact ⟨i + 1, T, by omega, by go_num, HA2, HF, HB⟩
          case measure => simp [intOf]; omega
    · have HA2 : Hid (AwI next n [] T) := hide (by have := HA.out; rw [show i = n by omega] at this; exact this)
      clear HA
      go_wp2_with fail
      go_ret
      exact ⟨rfl, ⟨T, HA2.out, HF.out⟩, HB.out⟩
end Go.Proofs.YtbdlgglbcaoakaaGreat.Pr
/- How an order is made, lowest first; no Go in sight. -/
namespace Go.Proofs.YtbdlgglbcaoakaaGreat.Pr

/-- What was found at first. -/
structure K1 (A l : List Int) (i : Nat) : Prop where
  mem : ∀ x, x ∈ l ↔ ∃ k : Nat, k < i ∧ x = (k : Int) ∧ A.getD k 0 = 0
  nd : l.Nodup
  hp : Hpl l l.length
theorem K1.start {A : List Int} : K1 A [] 0 := ⟨fun x => by simp, List.nodup_nil, hpl_nil⟩
theorem K1.skip {A l : List Int} {i : Nat} (h : K1 A l i) (h0 : ¬ A.getD i 0 = 0) : K1 A l (i + 1) := by
  refine ⟨fun x => ?_, h.nd, h.hp⟩
  rw [h.mem x]
  constructor
  · rintro ⟨k, h1, h2, h3⟩; exact ⟨k, by omega, h2, h3⟩
  · rintro ⟨k, h1, h2, h3⟩
    have : k ≠ i := fun e => h0 (e ▸ h3)
    exact ⟨k, by omega, h2, h3⟩
theorem nd_snoc {l l' : List Int} {x : Int} (hp : l'.Perm (l ++ [x])) (nd : l.Nodup) (hx : x ∉ l) : l'.Nodup := by
  rw [hp.nodup_iff, List.nodup_append]
  refine ⟨nd, by simp, fun a ha b hb e => ?_⟩
  simp at hb
  exact hx (hb ▸ e ▸ ha)
theorem K1.more {A l l' : List Int} {i : Nat} (h : K1 A l i) (h0 : A.getD i 0 = 0) (hp : l'.Perm (l ++ [(i : Int)])) (hh : Hpl l' l'.length) : K1 A l' (i + 1) := by
  have hni : (i : Int) ∉ l := fun hm => by
    obtain ⟨k, h1, h2, _⟩ := (h.mem _).1 hm
    omega
  refine ⟨fun x => ?_, nd_snoc hp h.nd hni, hh⟩
  rw [hp.mem_iff, List.mem_append, h.mem x]
  constructor
  · rintro (⟨k, h1, h2, h3⟩ | hx)
    · exact ⟨k, by omega, h2, h3⟩
    · simp at hx; exact ⟨i, by omega, hx, h0⟩
  · rintro ⟨k, h1, h2, h3⟩
    by_cases e : k = i
    · subst e; exact .inr (by simp [h2])
    · exact .inl ⟨k, by omega, h2, h3⟩
/-- What is kept while an order is made. -/
structure Ki (next : List (List Int)) (out : List Nat) (rest A l : List Int) : Prop where
  la : A.length = next.length
  kh : Kahn next out
  ca : ∀ k, k < next.length → A.getD k 0 = ((cnt next out k + rest.count (k : Int) : Nat) : Int)
  mem : ∀ x, x ∈ l ↔ ∃ k : Nat, k < next.length ∧ x = (k : Int) ∧ k ∉ out ∧ A.getD k 0 = 0
  nd : l.Nodup
  hp : Hpl l l.length
  re : ∀ k : Nat, k < next.length → (k : Int) ∈ rest → k ∉ out
theorem nd_len {n : Nat} {l : List Int} (nd : l.Nodup) (h : ∀ x ∈ l, ∃ k : Nat, k < n ∧ x = (k : Int)) : l.length ≤ n := by
  have h1 : (l.map Int.toNat).Nodup := by
    refine List.pairwise_map.2 (List.Pairwise.imp_of_mem (fun {a b} ha hb hne e => ?_) nd)
    obtain ⟨k, _, rfl⟩ := h a ha
    obtain ⟨j, _, rfl⟩ := h b hb
    simp at e
    exact hne (by rw [e])
  have h2 := nodup_le (n := n) h1 fun a ha => by
    obtain ⟨x, hx, rfl⟩ := List.mem_map.1 ha
    obtain ⟨k, hk, rfl⟩ := h x hx
    simpa using hk
  simpa using h2
theorem K1.len {A l : List Int} {i : Nat} (h : K1 A l i) : l.length ≤ i := nd_len h.nd fun x hx => by
  obtain ⟨k, h1, h2, _⟩ := (h.mem x).1 hx
  exact ⟨k, h1, h2⟩
theorem cnt_le2 {next : List (List Int)} {out : List Nat} {k : Nat} : cnt next out k ≤ total next := by
  have h1 : cnt next out k ≤ cnt next [] k := sum_le fun a => by
    simp only [List.not_mem_nil, if_false]
    split <;> omega
  have h2 := cnt_le (next := next) (k := k)
  rw [← cnt_nil] at h2
  omega
section
variable {next : List (List Int)} {out : List Nat} {rest A l l' : List Int}
theorem Ki.start (h : AwI next next.length [] A) (h1 : K1 A l next.length) : Ki next [] [] A l := by
  obtain ⟨e1, e2⟩ := h.cnt
  refine ⟨e1, kahn_nil, fun k hk => by rw [e2 k hk]; simp, fun x => ?_, h1.nd, h1.hp, fun k _ hm => by simp at hm⟩
  rw [h1.mem x]
  constructor
  · rintro ⟨k, a, b, c⟩; exact ⟨k, a, b, by simp, c⟩
  · rintro ⟨k, a, b, _, c⟩; exact ⟨k, a, b, c⟩
theorem Ki.len (h : Ki next out rest A l) : l.length ≤ next.length := nd_len h.nd fun x hx => by
  obtain ⟨k, h1, h2, _⟩ := (h.mem x).1 hx
  exact ⟨k, h1, h2⟩
theorem Ki.bound (h : Ki next out rest A l) {k : Nat} (hk : k < next.length) : 0 ≤ A.getD k 0 ∧ A.getD k 0 ≤ total next + rest.length := by
  have h1 := cnt_le2 (next := next) (out := out) (k := k)
  have h2 := List.count_le_length (a := (k : Int)) (l := rest)
  rw [h.ca k hk]
  omega
theorem Ki.free (h : Ki next out [] A l) {k : Nat} : (k : Int) ∈ l ↔ Free next out k := by
  rw [h.mem, free_iff]
  constructor
  · rintro ⟨j, h1, h2, h3, h4⟩
    have e : k = j := by omega
    subst e
    rw [h.ca k h1] at h4
    simp at h4
    exact ⟨h1, h3, h4⟩
  · rintro ⟨h1, h2, h3⟩
    exact ⟨k, h1, rfl, h2, by rw [h.ca k h1]; simp [h3]⟩
theorem Ki.done (h : Ki next out [] A []) : KMax next out := fun k hf => by
  have := h.free.2 hf
  simp at this
theorem Ki.top (h : Ki next out [] A l) (hn : l ≠ []) : ∃ k : Nat, l.getD 0 0 = (k : Int) ∧ k < next.length ∧ Free next out k ∧ ∀ i, Free next out i → k ≤ i := by
  have hl : 0 < l.length := by cases l with | nil => exact absurd rfl hn | cons _ _ => simp
  have hm : l.getD 0 0 ∈ l := take_hit (d := 0) hl rfl
  obtain ⟨k, h1, h2, h3⟩ := (h.mem _).1 hm
  refine ⟨k, h2, h1, h.free.1 (h2 ▸ hm), fun i hi => ?_⟩
  obtain ⟨j, hj⟩ := List.getElem?_of_mem (h.free.2 hi)
  have hjl := (List.getElem?_eq_some_iff.1 hj).1
  have := hpl_min h.hp j hjl
  rw [h2, getD_of hj] at this
  omega
theorem Ki.pop (h : Ki next out [] A l) {k : Nat} (hk : k < next.length) (hf : Free next out k) (hm : ∀ i, Free next out i → k ≤ i) (hp : (l' ++ [(k : Int)]).Perm l) (hh : Hpl l' l'.length) : Ki next (out ++ [k]) (next.getD k []) A l' := by
  have hkn := kahn_snoc h.kh hf hm
  have hnd : (l' ++ [(k : Int)]).Nodup := hp.nodup_iff.2 h.nd
  rw [List.nodup_append] at hnd
  have hkl : (k : Int) ∉ l' := fun hm => hnd.2.2 _ hm (k : Int) (by simp) rfl
  refine ⟨h.la, hkn, fun j hj => ?_, fun x => ?_, hnd.1, hh, fun j hj hm => kahn_last hkn ⟨hj, hm⟩⟩
  · rw [h.ca j hj, cnt_snoc (k := j) hk hf.2.1]
    simp
  · have h1 : x ∈ l' ↔ x ∈ l ∧ x ≠ (k : Int) := by
      rw [← hp.mem_iff, List.mem_append]
      constructor
      · intro hx; exact ⟨.inl hx, fun e => hkl (e ▸ hx)⟩
      · rintro ⟨hx | hx, hne⟩
        · exact hx
        · simp at hx; exact absurd hx hne
    rw [h1, h.mem x]
    constructor
    · rintro ⟨⟨j, a, b, c, d⟩, hne⟩
      refine ⟨j, a, b, ?_, d⟩
      rw [List.mem_append]
      rintro (e | e)
      · exact c e
      · simp at e; subst e; exact hne b
    · rintro ⟨j, a, b, c, d⟩
      rw [List.mem_append] at c
      refine ⟨⟨j, a, b, fun e => c (.inl e), d⟩, fun e => c (.inr ?_)⟩
      simp
      omega
theorem Ki.skip {z : Int} {r : List Int} (h : Ki next out (z :: r) A l) (hz : inN z next.length = false) : Ki next out r A l := by
  refine ⟨h.la, h.kh, fun k hk => ?_, h.mem, h.nd, h.hp, fun k hk hm => h.re k hk (by simp [hm])⟩
  have hne : z ≠ (k : Int) := fun e => by
    have : inN z next.length = true := inN_iff.2 (by omega)
    rw [hz] at this; cases this
  rw [h.ca k hk, List.count_cons]
  simp [hne]
theorem set_get {A : List Int} {k j : Nat} {v : Int} (hk : k < A.length) : (A.set k v).getD j 0 = if j = k then v else A.getD j 0 := by
  by_cases e : j = k
  · subst e; rw [if_pos rfl]; simp [List.getD, hk]
  · rw [if_neg e]; simp [List.getD, List.getElem?_set_ne (fun h => e h.symm)]
theorem Ki.caDec {k : Nat} {r : List Int} (h : Ki next out ((k : Int) :: r) A l) (hk : k < next.length) : ∀ j, j < next.length → (A.set k (A.getD k 0 - 1)).getD j 0 = ((cnt next out j + r.count (j : Int) : Nat) : Int) := by
  intro j hj
  rw [set_get (by rw [h.la]; exact hk)]
  have h1 := h.ca j hj
  rw [List.count_cons] at h1
  by_cases e : j = k
  · subst e
    rw [if_pos rfl, h1]
    simp
    omega
  · rw [if_neg e, h1]
    have hne : ((k : Int) == (j : Int)) = false := by simp; omega
    simp [hne]
theorem Ki.pos {k : Nat} {r : List Int} (h : Ki next out ((k : Int) :: r) A l) (hk : k < next.length) : 1 ≤ A.getD k 0 := by
  have h1 := h.ca k hk
  rw [List.count_cons] at h1
  rw [h1]
  simp
  omega
theorem Ki.dec {k : Nat} {r : List Int} (h : Ki next out ((k : Int) :: r) A l) (hk : k < next.length) (h0 : ¬ A.getD k 0 - 1 = 0) : Ki next out r (A.set k (A.getD k 0 - 1)) l := by
  have hp := h.pos hk
  refine ⟨by rw [List.length_set]; exact h.la, h.kh, h.caDec hk, fun x => ?_, h.nd, h.hp, fun j hj hm => h.re j hj (by simp [hm])⟩
  rw [h.mem x]
  constructor
  · rintro ⟨j, a, b, c, d⟩
    refine ⟨j, a, b, c, ?_⟩
    rw [set_get (by rw [h.la]; exact hk), if_neg (fun e => by subst e; omega)]
    exact d
  · rintro ⟨j, a, b, c, d⟩
    rw [set_get (by rw [h.la]; exact hk)] at d
    by_cases e : j = k
    · rw [if_pos e] at d; exact absurd d h0
    · rw [if_neg e] at d; exact ⟨j, a, b, c, d⟩
theorem Ki.last {k : Nat} {r : List Int} (h : Ki next out ((k : Int) :: r) A l) (hk : k < next.length) (h0 : A.getD k 0 - 1 = 0) (hp : l'.Perm (l ++ [(k : Int)])) (hh : Hpl l' l'.length) : Ki next out r (A.set k (A.getD k 0 - 1)) l' := by
  have hpos := h.pos hk
  have hkl : (k : Int) ∉ l := fun hm => by
    obtain ⟨j, _, b, _, d⟩ := (h.mem _).1 hm
    have e : k = j := by omega
    subst e
    omega
  refine ⟨by rw [List.length_set]; exact h.la, h.kh, h.caDec hk, fun x => ?_, nd_snoc hp h.nd hkl, hh, fun j hj hm => h.re j hj (by simp [hm])⟩
  rw [hp.mem_iff, List.mem_append, h.mem x]
  constructor
  · rintro (⟨j, a, b, c, d⟩ | hx)
    · refine ⟨j, a, b, c, ?_⟩
      rw [set_get (by rw [h.la]; exact hk), if_neg (fun e => by subst e; omega)]
      exact d
    · simp at hx
      exact ⟨k, hk, hx, h.re k hk (by simp), by rw [set_get (by rw [h.la]; exact hk), if_pos rfl]; exact h0⟩
  · rintro ⟨j, a, b, c, d⟩
    by_cases e : j = k
    · subst e; exact .inr (by simp [b])
    · rw [set_get (by rw [h.la]; exact hk), if_neg e] at d
      exact .inl ⟨j, a, b, c, d⟩
end
end Go.Proofs.YtbdlgglbcaoakaaGreat.Pr
