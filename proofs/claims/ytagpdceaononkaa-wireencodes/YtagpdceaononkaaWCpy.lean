/- CopyChoices, CopyStep, CopySteps. -/
import Derived.Test.YtagpdceaononkaaWSam
namespace Go.Proofs.Ytagpdceaononkaa
open Go.RowKit

theorem chL_snoc {l : List (Int × Int)} {k : Nat} {x : Int × Int} (h : l[k]? = some x) : chL (l.take (k + 1)) = chL (l.take k) ++ [.int .i64 x.1, .int .i64 x.2] := by rw [take_snoc h, chL_app]; rfl
set_option maxRecDepth 100000 in
set_option maxHeartbeats 6400000 in
theorem copyChoices_any {N : Nat} {w : World} {l : List (Int × Int)} {a : Option Addr} {c : Nat} (h : ChN N w a l) (hN : N ≤ w.heap.size) (hl : l.length ≤ 8796093021952) :
    Calls Try.prog 33 #[.slice a l.length c] w fun e w' => ∃ v, e = .returned v ∧ w'.ownsRow w.heap.size 54 2 v l.length (chL l) ∧ Below w.heap.size w w' := by
  obtain ⟨iC, hiC, zC0, zC1, zC2⟩ := info_parts' infoCh
  have HL := hide h
  obtain ⟨n, hnn⟩ : ∃ n, l.length = n := ⟨_, rfl⟩
  have HNN := hide hnn
  rw [hnn] at hl ⊢
  clear h hnn
  go_enter Try.func33, Try.ntmps33
  go_wp2_with fail
  go_loopw [3, 4] (fun mv x wr => ∃ (k : Nat) (ma : Option Addr) (mc : Nat), k ≤ n ∧ x = .int .i64 k ∧ mv = .slice ma k mc ∧ Hid (wr.ownsRow w.heap.size 54 2 (.slice ma k mc) k (chL (l.take k))) ∧ Hid (Below w.heap.size w wr)) (fun _ x _ => n - (intOf x).toNat)
  case atStart => exact ⟨0, none, 0, by omega, rfl, rfl, hide ⟨rfl, .inl ⟨rfl, rfl⟩⟩, hide (Below.refl _ _)⟩
  case round =>
    obtain ⟨k, ma, mc, hk, rfl, rfl, HO, HB⟩ := hrel
    by_cases hlt : k < n
    · obtain ⟨z, hz⟩ := get_at (l := l) (i := k) (by rw [HNN.out]; exact hlt)
      obtain ⟨g2, o2, rfl, hg2, hc0, hc1⟩ := HL.out k z hz
      have d0 := (World.cell?_of_block (HB.out.block g2 (by omega))).trans hc0
      have d1 := (World.cell?_of_block (HB.out.block g2 (by omega))).trans hc1
      have HT := hide (chL_snoc hz)
      have hA := below_new wr (.cells #[.int .i64 z.1, .int .i64 z.2] 54)
      have HROW := hide (owns_keep HO.out fun g hg => hA.block g (owns_lt HO.out hg))
      have hs := HB.out.size
      have HOL : Hid (∀ g, Value.ownBlock (.slice ma k mc) = some g → w.heap.size ≤ g) := hide fun g e => (HO.out.lt g e).1
      clear hA hz hc0 hc1 HO
      go_wp2_with (at_builtin; go_must (refine wpList_append_two _ rfl _ _ 50 rfl w.heap.size 54 iC _ 2 16 Try.underlying50 hiC zC0 zC1 zC2 rfl (by decide) _ _ (chL (l.take k)) rfl HROW.out ⟨wr.heap.size, 0, none⟩ 1 [.int .i64 z.1, .int .i64 z.2] rfl rfl (news_at rfl) (by intro u hu; simp at hu; rcases hu with rfl | rfl <;> rfl) (by unfold maxLen; omega) (by omega) (by simp; omega) ?_); intro g4 cap4 w4 hown4 hg4; have HO4 := hide hown4; have HB4 : Hid (Below w.heap.size w w4) := hide (HB.out.trans ((grown_fr (Z := fun k => w.heap.size ≤ k) rfl (by rcases hg4 with h | ⟨h1, h2⟩; exact .inl h; exact .inr ⟨by simpa using h1, h2⟩) HOL.out).below fun k hk => ⟨by omega, by omega⟩)); clear hown4 hg4)
      go_roundw
      case rel => exact ⟨k + 1, some ⟨g4, 0, none⟩, cap4, by omega, by go_num, rfl, hide (by rw [HT.out]; exact HO4.out), HB4⟩
      case measure => simp [intOf]; omega
    · have HE : Hid (wr.ownsRow w.heap.size 54 2 (.slice ma n mc) n (chL l)) := hide (by have := HO.out; rw [show k = n by omega, List.take_of_length_le (by rw [HNN.out]; omega)] at this; exact this)
      have hkn : k = n := by omega
      subst hkn
      clear HO
      go_wp2_with fail
      go_ret
      exact ⟨_, rfl, HE.out, HB.out⟩
set_option maxRecDepth 100000 in
set_option maxHeartbeats 6400000 in
theorem copyStep_any {N : Nat} {w : World} {s : StM} {ca : Option Addr} {cc : Nat} (h : ChN N w ca s.ch) (hN : N ≤ w.heap.size) (hl : s.ch.length ≤ 8796093021952) :
    Calls Try.prog 20 #[stv s ca cc] w fun e w' => ∃ va vc, e = .returned (stv s va vc) ∧ w'.ownsRow w.heap.size 54 2 (.slice va s.ch.length vc) s.ch.length (chL s.ch) ∧ Below w.heap.size w w' := by
  have hB1 := below_new w (.cells #[.int .i64 s.tag, .int .i64 s.lit, .int .i64 s.how, .int .i64 s.rule, .slice ca s.ch.length cc] 52)
  have hB2 := hB1.alloc hB1.size (.cells #[.int .i64 0, .int .i64 0, .int .i64 0, .int .i64 0, .slice none 0 0] 52)
  have HF1 : Hid (Fx w.heap.size 52 [.int .i64 s.tag, .int .i64 s.lit, .int .i64 s.how, .int .i64 s.rule, .slice ca s.ch.length cc] ((w.alloc (.cells #[.int .i64 s.tag, .int .i64 s.lit, .int .i64 s.how, .int .i64 s.rule, .slice ca s.ch.length cc] 52)).alloc (.cells #[.int .i64 0, .int .i64 0, .int .i64 0, .int .i64 0, .slice none 0 0] 52))) := hide (heap_alloc2_old _ _ _)
  have HF2 : Hid (Fx (w.heap.size + 1) 52 [.int .i64 0, .int .i64 0, .int .i64 0, .int .i64 0, .slice none 0 0] ((w.alloc (.cells #[.int .i64 s.tag, .int .i64 s.lit, .int .i64 s.how, .int .i64 s.rule, .slice ca s.ch.length cc] 52)).alloc (.cells #[.int .i64 0, .int .i64 0, .int .i64 0, .int .i64 0, .slice none 0 0] 52))) := hide (heap_alloc2_new _ _ _)
  have HB := hide hB2
  clear hB1 hB2
  unfold stv
  go_enter Try.func20, Try.ntmps20
  go_upto_region 1 with fail
  generalize (w.alloc (.cells #[.int .i64 s.tag, .int .i64 s.lit, .int .i64 s.how, .int .i64 s.rule, .slice ca s.ch.length cc] 52)).alloc (.cells #[.int .i64 0, .int .i64 0, .int .i64 0, .int .i64 0, .slice none 0 0] 52) = W at *
  have CI := hide (copyChoices_any (w := W) (c := cc) (h.keep fun g hg => HB.out.block g (by omega)) (Nat.le_trans hN HB.out.size) hl)
  clear h
  have q2 := HF1.out.get (i := 4) rfl
  go_upto_region 2 with (go_at_call 33; refine CI.out.mono ?_; rintro _ w3 ⟨v, rfl, hv, hb⟩; obtain ⟨va, vc, rfl⟩ := owns_slice hv; have HV := hide hv; have HB3 := hide hb; clear hv hb; have q3 := (HF1.out.keep (HB3.out.block _ HF1.out.lt)).get (i := 4) rfl; have q4 := (HF1.out.keep (HB3.out.block _ HF1.out.lt)).frz 4)
  have hlt1 := HF1.out.lt
  have hlt2 := HF2.out.lt
  have HG1 : Hid (Fx w.heap.size 52 [.int .i64 s.tag, .int .i64 s.lit, .int .i64 s.how, .int .i64 s.rule, .slice va s.ch.length vc] (w3.setCell ⟨w.heap.size, 4, none⟩ (.slice va s.ch.length vc))) := hide ((HF1.out.keep (HB3.out.block _ HF1.out.lt)).set 4 (.slice va s.ch.length vc))
  have HG2 : Hid (Fx (w.heap.size + 1) 52 [.int .i64 0, .int .i64 0, .int .i64 0, .int .i64 0, .slice none 0 0] (w3.setCell ⟨w.heap.size, 4, none⟩ (.slice va s.ch.length vc))) := hide ((HF2.out.keep (HB3.out.block _ HF2.out.lt)).keep (other_set (by omega)))
  have HV4 : Hid ((w3.setCell ⟨w.heap.size, 4, none⟩ (.slice va s.ch.length vc)).ownsRow W.heap.size 54 2 (.slice va s.ch.length vc) s.ch.length (chL s.ch)) := hide (owns_keep HV.out fun g hg => other_set (by have := (HV.out.lt g hg).1; omega))
  have HB4 := hide ((HB.out.trans (HB3.out.mono HB.out.size)).setCell (p := ⟨w.heap.size, 4, none⟩) (Nat.le_refl _) (.slice va s.ch.length vc))
  clear q2 q3 q4 HV HB3 HF1 HF2 CI HB
  generalize w3.setCell ⟨w.heap.size, 4, none⟩ (.slice va s.ch.length vc) = w4 at *
  obtain ⟨r0, r1, r2, r3, r4⟩ := five_cells HG1.out
  obtain ⟨s0, s1, s2, s3, s4⟩ := five_cells HG2.out
  have hfz := HG2.out.frz
  have HG5 : Hid (Fx (w.heap.size + 1) 52 [.int .i64 s.tag, .int .i64 s.lit, .int .i64 s.how, .int .i64 s.rule, .slice va s.ch.length vc] (((((w4.setCell ⟨w.heap.size + 1, 0, none⟩ (.int .i64 s.tag)).setCell ⟨w.heap.size + 1, 1, none⟩ (.int .i64 s.lit)).setCell ⟨w.heap.size + 1, 2, none⟩ (.int .i64 s.how)).setCell ⟨w.heap.size + 1, 3, none⟩ (.int .i64 s.rule)).setCell ⟨w.heap.size + 1, 4, none⟩ (.slice va s.ch.length vc))) := hide (((((HG2.out.set 0 _).set 1 _).set 2 _).set 3 _).set 4 _)
  have HFr : Hid (Fr (fun k => k = w.heap.size + 1) w4 (((((w4.setCell ⟨w.heap.size + 1, 0, none⟩ (.int .i64 s.tag)).setCell ⟨w.heap.size + 1, 1, none⟩ (.int .i64 s.lit)).setCell ⟨w.heap.size + 1, 2, none⟩ (.int .i64 s.how)).setCell ⟨w.heap.size + 1, 3, none⟩ (.int .i64 s.rule)).setCell ⟨w.heap.size + 1, 4, none⟩ (.slice va s.ch.length vc))) := hide (((((Fr.setCell (Z := fun k => k = w.heap.size + 1) ⟨w.heap.size + 1, 0, none⟩ _ rfl).trans (.setCell ⟨w.heap.size + 1, 1, none⟩ _ rfl)).trans (.setCell ⟨w.heap.size + 1, 2, none⟩ _ rfl)).trans (.setCell ⟨w.heap.size + 1, 3, none⟩ _ rfl)).trans (.setCell ⟨w.heap.size + 1, 4, none⟩ _ rfl))
  go_wp2_with fail
  generalize (((((w4.setCell ⟨w.heap.size + 1, 0, none⟩ (.int .i64 s.tag)).setCell ⟨w.heap.size + 1, 1, none⟩ (.int .i64 s.lit)).setCell ⟨w.heap.size + 1, 2, none⟩ (.int .i64 s.how)).setCell ⟨w.heap.size + 1, 3, none⟩ (.int .i64 s.rule)).setCell ⟨w.heap.size + 1, 4, none⟩ (.slice va s.ch.length vc)) = w5 at *
  refine bodyPost_ret (results_cell_row rfl _ _ (w.heap.size + 1) 52 #[.int .i64 s.tag, .int .i64 s.lit, .int .i64 s.how, .int .i64 s.rule, .slice va s.ch.length vc] _ _ rfl HG5.out Try.underlying52 rfl (by kernel_rfl)) rfl ?_
  exact ⟨va, vc, rfl, owns_down (owns_keep HV4.out fun g hg => HFr.out.block g (owns_lt HV4.out hg) (by have := (HV4.out.lt g hg).1; omega)) (by omega), HB4.out.trans (HFr.out.below fun k hk => ⟨by have := HB4.out.size; omega, by omega⟩)⟩
set_option maxRecDepth 100000 in
set_option maxHeartbeats 6400000 in
theorem copySteps_any {N : Nat} {w : World} {l : List StM} {a : Option Addr} {c : Nat} (h : Sts N w l a) (hN : N ≤ w.heap.size) (hn : l.length ≤ 2513169434843) (ht : ∀ s ∈ l, s.ch.length ≤ 8796093021952) :
    Calls Try.prog 8 #[.slice a l.length c] w fun e w' => ∃ va vc, e = .returned (.slice va l.length vc) ∧ Gs w.heap.size l (.slice va l.length vc) w' ∧ Below w.heap.size w w' := by
  obtain ⟨iS, hiS, zS0, zS1, zS2⟩ := info_parts' infoSt
  have HL := hide h
  have HRL := hide ht
  clear h ht
  go_enter Try.func8, Try.ntmps8
  go_wp2_with fail
  go_loopw [3, 4] (fun mv x wr => ∃ (k : Nat) (acc : List StM) (ma : Option Addr) (mc : Nat), k ≤ l.length ∧ x = .int .i64 k ∧ mv = .slice ma acc.length mc ∧ Hid (acc = l.take k) ∧ Hid (Gs w.heap.size acc (.slice ma acc.length mc) wr) ∧ Hid (Below w.heap.size w wr)) (fun _ x _ => l.length - (intOf x).toNat)
  case atStart => exact ⟨0, [], none, 0, by omega, rfl, rfl, rfl, hide Gs.nil, hide (Below.refl _ _)⟩
  case round =>
    obtain ⟨k, acc, ma, mc, hk, rfl, rfl, HAc, HG, HB⟩ := hrel
    by_cases hlt : k < l.length
    · obtain ⟨s, hs⟩ := get_at hlt
      obtain ⟨g, of, ca, cc, rfl, hgN, c0, c1, c2, c3, c4, hcl, hch⟩ := (HL.out.keep (w' := wr) fun g hg => HB.out.block g (by omega)) k s hs
      have CC := hide (copyStep_any (cc := cc) hch (Nat.le_trans hN HB.out.size) (HRL.out s (List.mem_of_getElem? hs)))
      have HT : Hid (acc ++ [s] = l.take (k + 1)) := hide (by rw [take_snoc hs, HAc.out])
      have hal : acc.length ≤ k := by rw [HAc.out, List.length_take]; omega
      have hs0 := HB.out.size
      clear hs hch
      unfold stv at CC
      go_upto_region 5 with fail
      go_wp2_with (first | (at_builtin; go_must (refine wpList_append_two _ rfl _ _ 22 rfl w.heap.size 52 iS _ 5 56 Try.underlying22 hiS zS0 zS1 zS2 rfl (by decide) _ _ xs rfl HROW.out ⟨wd.heap.size, 0, none⟩ 1 [.int .i64 s.tag, .int .i64 s.lit, .int .i64 s.how, .int .i64 s.rule, .slice va s.ch.length vc] rfl rfl (news_at rfl) (by intro u hu; simp at hu; rcases hu with rfl | rfl | rfl | rfl | rfl <;> rfl) (by unfold maxLen; omega) (by omega) (by simp; omega) ?_); intro g4 cap4 w4 hown4 hg4; have HO4 := hide hown4; have HG5 := hide hg4; clear hown4 hg4) | (go_at_call 20; refine CC.out.mono ?_; rintro e wd ⟨va, vc, rfl, hv, hbd⟩; have HV := hide hv; have HBD := hide hbd; obtain ⟨Z, xs, hrow, hz, hold⟩ := HG.out; have HXS := hide hrow; have HZ := hide hz; have HOL := hide hold; have hbs := HBD.out.size; have HROW := hide (owns_keep (owns_keep hrow fun g hg => hbd.block g (owns_lt hrow hg)) fun g hg => (below_new wd (.cells #[.int .i64 s.tag, .int .i64 s.lit, .int .i64 s.how, .int .i64 s.rule, .slice va s.ch.length vc] 52)).block g (by have := owns_lt hrow hg; omega)); clear hv hbd hrow hz hold))
      have hg5 : (Value.ownBlock (.slice ma acc.length mc) = some g4 ∧ (wd.alloc (.cells #[.int .i64 s.tag, .int .i64 s.lit, .int .i64 s.how, .int .i64 s.rule, .slice va s.ch.length vc] 52)).grownBy w4 (some g4)) ∨ (g4 = wd.heap.size + 1 ∧ (wd.alloc (.cells #[.int .i64 s.tag, .int .i64 s.lit, .int .i64 s.how, .int .i64 s.rule, .slice va s.ch.length vc] 52)).grownBy w4 none) := by
        rcases HG5.out with h | ⟨h1, h2⟩
        · exact .inl h
        · exact .inr ⟨by simpa using h1, h2⟩
      have HGn : Hid (Gs w.heap.size (acc ++ [s]) (.slice (some ⟨g4, 0, none⟩) (acc.length + 1) cap4) w4) := hide (Gs.grow hs0 HXS.out HZ.out HOL.out (fun g _ hl => HBD.out.block g hl) HBD.out.size HV.out HO4.out hg5)
      have HB4 : Hid (Below w.heap.size w w4) := hide ((HB.out.trans (HBD.out.mono HB.out.size)).trans ((grown_fr (Z := fun k => w.heap.size ≤ k) rfl hg5 fun g e => (HXS.out.lt g e).1).below fun k hk => ⟨by omega, by omega⟩))
      go_roundw
      case rel => exact ⟨k + 1, acc ++ [s], some ⟨g4, 0, none⟩, cap4, by omega, by go_num, by rw [List.length_append]; rfl, HT, hide (by rw [List.length_append]; exact HGn.out), HB4⟩
      case measure => simp [intOf]; omega
    · have HE : Hid (acc = l) := hide (by rw [HAc.out, List.take_of_length_le (by omega)])
      clear HAc
      go_wp2_with fail
      go_ret
      have he := HE.out
      subst he
      exact ⟨_, _, rfl, HG.out, HB.out⟩
end Go.Proofs.Ytagpdceaononkaa
