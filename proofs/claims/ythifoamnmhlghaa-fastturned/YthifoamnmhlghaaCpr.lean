/- CopyRule, CopyRules, CopyTheory: what they answer lies in memory of its own. -/
import Derived.Test.YthifoamnmhlghaaCpf
namespace Go.Proofs.Ythifoamnmhlghaa.Fa
open Go.RowKit

set_option maxRecDepth 100000 in
set_option maxHeartbeats 6400000 in
theorem copyRule_any {N : Nat} {w : World} {k h : Int} {l : List Int} {a : Option Addr} {c : Nat} (hi : Ints N w l (.slice a l.length c)) (hN : N ≤ w.heap.size) (hl : l.length ≤ 1048576) :
    Calls Try.prog 60 #[.agg #[.int .i64 k, .int .i64 h, .slice a l.length c]] w fun e w' => ∃ va vc, e = .returned (.agg #[.int .i64 k, .int .i64 h, .slice va l.length vc]) ∧ w'.ownsRow w.heap.size 3 1 (.slice va l.length vc) l.length (ints l) ∧ Below w.heap.size w w' := by
  obtain ⟨n, hn⟩ : ∃ n, l.length = n := ⟨_, rfl⟩
  have HN := hide hn
  rw [hn] at hi ⊢
  have hF1 : Fx w.heap.size 42 [.int .i64 k, .int .i64 h, .slice a n c] (w.alloc (.cells #[.int .i64 k, .int .i64 h, .slice a n c] 42)) := heap_alloc_new w (.cells #[.int .i64 k, .int .i64 h, .slice a n c] 42)
  have hF2 : Fx (w.heap.size + 1) 42 [.int .i64 0, .int .i64 0, .slice none 0 0] ((w.alloc (.cells #[.int .i64 k, .int .i64 h, .slice a n c] 42)).alloc (.cells #[.int .i64 0, .int .i64 0, .slice none 0 0] 42)) := by
    have := heap_alloc_new (w.alloc (.cells #[.int .i64 k, .int .i64 h, .slice a n c] 42)) (.cells #[.int .i64 0, .int .i64 0, .slice none 0 0] 42)
    have e : (w.alloc (.cells #[.int .i64 k, .int .i64 h, .slice a n c] 42)).heap.size = w.heap.size + 1 := by simp
    rw [e] at this
    exact this
  have hB1 := below_new w (.cells #[.int .i64 k, .int .i64 h, .slice a n c] 42)
  have hB2 := below_new (w.alloc (.cells #[.int .i64 k, .int .i64 h, .slice a n c] 42)) (.cells #[.int .i64 0, .int .i64 0, .slice none 0 0] 42)
  have HF1 := hide (hF1.keep (hB2.block _ hF1.lt))
  have HF2 := hide hF2
  have HB := hide (hB1.trans (hB2.mono hB1.size))
  clear hF1 hF2 hB1 hB2
  go_enter Try.func60, Try.ntmps60
  go_upto_region 1 with fail
  generalize (w.alloc (.cells #[.int .i64 k, .int .i64 h, .slice a n c] 42)).alloc (.cells #[.int .i64 0, .int .i64 0, .slice none 0 0] 42) = W at *
  have CI := hide (copyInts_any (w := W) (l := l) (by rw [hn]; exact Ints.keep (fun g hg => HB.out.block g (by omega)) hi) (Nat.le_trans hN HB.out.size) hl)
  rw [hn] at CI hl
  clear hn
  have q2 := HF1.out.get (i := 2) rfl
  go_upto_region 2 with (go_at_call 59; refine CI.out.mono ?_; rintro _ w3 ⟨v, rfl, hv, hb⟩; obtain ⟨va, vc, rfl⟩ := owns_slice hv; have HV := hide hv; have HB3 := hide hb; clear hv hb; have q3 := (HF1.out.keep (HB3.out.block _ HF1.out.lt)).get (i := 2) rfl; have q4 := (HF1.out.keep (HB3.out.block _ HF1.out.lt)).frz 2)
  have hlt1 := HF1.out.lt
  have hlt2 := HF2.out.lt
  have HG1 : Hid (Fx w.heap.size 42 [.int .i64 k, .int .i64 h, .slice va n vc] (w3.setCell ⟨w.heap.size, 2, none⟩ (.slice va n vc))) := hide ((HF1.out.keep (HB3.out.block _ HF1.out.lt)).set 2 (.slice va n vc))
  have HG2 : Hid (Fx (w.heap.size + 1) 42 [.int .i64 0, .int .i64 0, .slice none 0 0] (w3.setCell ⟨w.heap.size, 2, none⟩ (.slice va n vc))) := hide ((HF2.out.keep (HB3.out.block _ HF2.out.lt)).keep (other_set (by omega)))
  have HV4 : Hid ((w3.setCell ⟨w.heap.size, 2, none⟩ (.slice va n vc)).ownsRow W.heap.size 3 1 (.slice va n vc) n (ints l)) := hide (owns_keep HV.out fun g hg => other_set (by have := (HV.out.lt g hg).1; omega))
  have HB4 := hide ((HB.out.trans (HB3.out.mono HB.out.size)).setCell (p := ⟨w.heap.size, 2, none⟩) (Nat.le_refl _) (.slice va n vc))
  clear q2 q3 q4 HV HB3 HF1 HF2 CI HB
  generalize w3.setCell ⟨w.heap.size, 2, none⟩ (.slice va n vc) = w4 at *
  have r0 := HG1.out.get (i := 0) rfl
  have r1 := HG1.out.get (i := 1) rfl
  have r2 := HG1.out.get (i := 2) rfl
  have s0 := HG2.out.get (i := 0) rfl
  have s1 := HG2.out.get (i := 1) rfl
  have s2 := HG2.out.get (i := 2) rfl
  have f0 := HG2.out.frz 0
  have f1 := HG2.out.frz 1
  have f2 := HG2.out.frz 2
  go_wp2_with fail
  have HG5 : Hid (Fx (w.heap.size + 1) 42 [.int .i64 k, .int .i64 h, .slice va n vc] (((w4.setCell ⟨w.heap.size + 1, 0, none⟩ (.int .i64 k)).setCell ⟨w.heap.size + 1, 1, none⟩ (.int .i64 h)).setCell ⟨w.heap.size + 1, 2, none⟩ (.slice va n vc))) := hide (((HG2.out.set 0 (.int .i64 k)).set 1 (.int .i64 h)).set 2 (.slice va n vc))
  have HV5 : Hid ((((w4.setCell ⟨w.heap.size + 1, 0, none⟩ (.int .i64 k)).setCell ⟨w.heap.size + 1, 1, none⟩ (.int .i64 h)).setCell ⟨w.heap.size + 1, 2, none⟩ (.slice va n vc)).ownsRow w.heap.size 3 1 (.slice va n vc) n (ints l)) := hide (owns_down (owns_keep HV4.out fun g hg => by
    have := (HV4.out.lt g hg).1
    rw [other_set (by omega), other_set (by omega), other_set (by omega)]) (by omega))
  have HB5 := hide (((HB4.out.setCell (p := ⟨w.heap.size + 1, 0, none⟩) (Nat.le_succ _) (.int .i64 k)).setCell (p := ⟨w.heap.size + 1, 1, none⟩) (Nat.le_succ _) (.int .i64 h)).setCell (p := ⟨w.heap.size + 1, 2, none⟩) (Nat.le_succ _) (.slice va n vc))
  clear r0 r1 r2 s0 s1 s2 f0 f1 f2
  generalize ((w4.setCell ⟨w.heap.size + 1, 0, none⟩ (.int .i64 k)).setCell ⟨w.heap.size + 1, 1, none⟩ (.int .i64 h)).setCell ⟨w.heap.size + 1, 2, none⟩ (.slice va n vc) = w5 at *
  refine bodyPost_ret (results_cell_row rfl _ _ (w.heap.size + 1) 42 #[.int .i64 k, .int .i64 h, .slice va n vc] _ _ rfl HG5.out Try.underlying42 rfl (by kernel_rfl)) rfl ?_
  exact ⟨va, vc, rfl, HV5.out, HB5.out⟩
/-- A rule in three cells, its body in blocks of Z. -/
def cRz (Z : Nat → Prop) (w : World) (r : RuleM) (xs : List Value) : Prop := ∃ v, xs = [.int .i64 r.kind, .int .i64 r.head, v] ∧ RZ Z 1 cI w r.body v
theorem cRz_ag : ∀ Z Z' w w' x xs, Ag Z Z' w w' → cRz Z w x xs → cRz Z' w' x xs := fun _ _ _ _ _ _ hag ⟨v, e, h⟩ => ⟨v, e, RZ.keep h hag fun _ _ h => h⟩
set_option maxRecDepth 100000 in
set_option maxHeartbeats 6400000 in
theorem copyRules_any {N : Nat} {w : World} {rs : List RuleM} {a : Option Addr} {c : Nat} (h : Rules N w rs (.slice a rs.length c)) (hN : N ≤ w.heap.size) (hn : rs.length ≤ 1048576) (ht : ∀ (i : Nat) (r : RuleM), rs[i]? = some r → r.body.length ≤ 1048576) :
    Calls Try.prog 35 #[.slice a rs.length c] w fun e w' => ∃ va vc, e = .returned (.slice va rs.length vc) ∧ Gz 42 3 cRz w rs rs.length (.slice va rs.length vc) w' := by
  obtain ⟨iR, hiR, zR0, zR1, zR2⟩ := info_parts infoR
  have HL := hide h
  have HRL := hide ht
  obtain ⟨n, hnn⟩ : ∃ n, rs.length = n := ⟨_, rfl⟩
  have HNN := hide hnn
  rw [hnn] at hn HL ⊢
  clear h hnn ht
  go_enter Try.func35, Try.ntmps35
  go_wp2_with fail
  go_loopw [3, 4] (fun mv x wr => ∃ (k : Nat) (ma : Option Addr) (mc : Nat), k ≤ n ∧ x = .int .i64 k ∧ mv = .slice ma k mc ∧ Hid (Gz 42 3 cRz w (rs.take k) k (.slice ma k mc) wr)) (fun _ x _ => n - (intOf x).toNat)
  case atStart => exact ⟨0, none, 0, by omega, rfl, rfl, hide Gz.nil⟩
  case round =>
    obtain ⟨k, ma, mc, hk, rfl, rfl, HG⟩ := hrel
    have HB := hide HG.out.low
    by_cases hlt : k < n
    · obtain ⟨r, hr⟩ := get_at (l := rs) (i := k) (by rw [HNN.out]; exact hlt)
      obtain ⟨g1, o1, a2, c2, rfl, hg1, p0, p1, p2, hrc, _, hI⟩ := at_R HL.out hr
      have hc0 := (World.cell?_of_block (HB.out.block g1 (by omega))).trans p0
      have hc1 := (World.cell?_of_block (HB.out.block g1 (by omega))).trans p1
      have hc2 := (World.cell?_of_block (HB.out.block g1 (by omega))).trans p2
      have hrl := HRL.out k r hr
      have CC := hide (copyRule_any (w := wr) (k := r.kind) (h := r.head) (Ints.keep (fun g hg => HB.out.block g (by omega)) hI) (Nat.le_trans hN HB.out.size) hrl)
      have HT := hide (take_snoc hr)
      obtain ⟨m, hm⟩ : ∃ m, r.body.length = m := ⟨_, rfl⟩
      have HMM := hide hm
      rw [hm] at hc2 hrc hrl CC
      have hs := HB.out.size
      clear hr hI hm p0 p1 p2
      generalize hkd : r.kind = kd at *
      generalize hhd : r.head = hd at *
      go_upto_region 5 with fail
      go_wp2_with (first | (at_builtin; go_must (refine wpList_append_two _ rfl _ _ 23 rfl w.heap.size 42 iR _ 3 40 Try.underlying23 hiR zR0 zR1 zR2 rfl (by decide) _ _ xs rfl HROW.out ⟨wd.heap.size, 0, none⟩ 1 [.int .i64 kd, .int .i64 hd, .slice va m vc] rfl rfl (news_at (cs := [.int .i64 kd, .int .i64 hd, .slice va m vc]) rfl) (by intro u hu; simp at hu; rcases hu with rfl | rfl | rfl <;> rfl) (by unfold maxLen; omega) (by omega) (by simp; omega) ?_); intro g4 cap4 w4 hown4 hg4; have HO4 := hide hown4; have HG5 := hide hg4; clear hown4 hg4) | (go_at_call 60; refine CC.out.mono ?_; rintro e wd ⟨va, vc, rfl, hv, hbd⟩; have HV := hide hv; have HBD := hide hbd; clear hv hbd; obtain ⟨hlow, hlen, Z, xs, hrow, hz, hold⟩ := HG.out; have HXS := hide hrow; have HZ := hide hz; have HOL := hide hold; have HLE := hide hlen; have HROW := hide (owns_keep hrow fun g hg => (HBD.out.trans ((below_new wd (.cells #[.int .i64 kd, .int .i64 hd, .slice va m vc] 42)).mono HBD.out.size)).block g (owns_lt hrow hg)); clear hlow hlen hrow hz hold; have hsd := HBD.out.size))
      have HG4 : Hid (Gz 42 3 cRz w (rs.take k ++ [r]) (k + 1) (.slice (some ⟨g4, 0, none⟩) (k + 1) cap4) w4) := hide (Gz.grow cRz_ag HB.out HLE.out HXS.out HZ.out HOL.out HBD.out ⟨_, by rw [hkd, hhd], rz_ints (by rw [HMM.out]; exact HV.out) (fun g e => HV.out.lt g e) (by rw [HMM.out]; omega)⟩ (ys := [.int .i64 kd, .int .i64 hd, .slice va m vc]) rfl HO4.out (by rcases HG5.out with h | ⟨h1, h2⟩; exact .inl h; exact .inr ⟨by simpa using h1, h2⟩))
      go_roundw
      case rel => exact ⟨k + 1, some ⟨g4, 0, none⟩, cap4, by omega, by go_num, rfl, hide (by rw [HT.out]; exact HG4.out)⟩
      case measure => simp [intOf]; omega
    · have hkn : k = n := by omega
      subst hkn
      have HE : Hid (Gz 42 3 cRz w rs k (.slice ma k mc) wr) := hide (by
        have := HG.out
        rw [List.take_of_length_le (by rw [HNN.out]; omega)] at this
        exact this)
      clear HG
      go_wp2_with fail
      go_ret
      exact ⟨_, _, rfl, HE.out⟩
end Go.Proofs.Ythifoamnmhlghaa.Fa
