/- CopyInts, CopyIntLists: what they answer lies in memory of its own. -/
import Derived.Test.YtinloodhmnjobaaWorks
namespace Go.Proofs.Ytinloodhmnjobaa.Fa
open Go.RowKit

set_option maxRecDepth 100000 in
set_option maxHeartbeats 6400000 in
theorem copyInts_any {N : Nat} {w : World} {l : List Int} {a : Option Addr} {c : Nat} (h : Ints N w l (.slice a l.length c)) (hN : N ≤ w.heap.size) (hl : l.length ≤ 17592186043904) :
    Calls Try.prog 5 #[.slice a l.length c] w fun e w' => ∃ v, e = .returned v ∧ w'.ownsRow w.heap.size 3 1 v l.length (ints l) ∧ Below w.heap.size w w' := by
  obtain ⟨iI, hiI, zI0, zI1, zI2⟩ := info_parts infoI
  have HL := hide h
  obtain ⟨n, hnn⟩ : ∃ n, l.length = n := ⟨_, rfl⟩
  have HNN := hide hnn
  rw [hnn] at hl HL ⊢
  clear h hnn
  go_enter Try.func5, Try.ntmps5
  go_wp2_with fail
  go_loopw [3, 4] (fun mv x wr => ∃ (k : Nat) (ma : Option Addr) (mc : Nat), k ≤ n ∧ x = .int .i64 k ∧ mv = .slice ma k mc ∧ Hid (wr.ownsRow w.heap.size 3 1 (.slice ma k mc) k (ints (l.take k))) ∧ Hid (Below w.heap.size w wr)) (fun _ x _ => n - (intOf x).toNat)
  case atStart => exact ⟨0, none, 0, by omega, rfl, rfl, hide ⟨rfl, .inl ⟨rfl, rfl⟩⟩, hide (Below.refl _ _)⟩
  case round =>
    obtain ⟨k, ma, mc, hk, rfl, rfl, HO, HB⟩ := hrel
    by_cases hlt : k < n
    · obtain ⟨z, hz⟩ := get_at (l := l) (i := k) (by rw [HNN.out]; exact hlt)
      obtain ⟨g2, o2, rfl, hg2, hcz0⟩ := at_I HL.out hz
      have hcz := (World.cell?_of_block (HB.out.block g2 (by omega))).trans hcz0
      have HT : Hid (ints (l.take (k + 1)) = ints (l.take k) ++ [.int .i64 z]) := hide (by rw [take_snoc hz, ints_snoc])
      have hA := below_new wr (.cells #[.int .i64 z] 3)
      have HROW := hide (owns_keep HO.out fun g hg => hA.block g (owns_lt HO.out hg))
      have hs := HB.out.size
      have HOL : Hid (∀ g, Value.ownBlock (.slice ma k mc) = some g → w.heap.size ≤ g) := hide fun g e => (HO.out.lt g e).1
      clear hA hz hcz0 HO
      go_wp2_with (at_builtin; go_must (refine wpList_append_two _ rfl _ _ 26 rfl w.heap.size 3 iI _ 1 8 Try.underlying26 hiI zI0 zI1 zI2 rfl (by decide) _ _ (ints (l.take k)) rfl HROW.out ⟨wr.heap.size, 0, none⟩ 1 [.int .i64 z] rfl rfl (cell_one_new _ _ _) (by intro u hu; simp at hu; subst hu; rfl) (by unfold maxLen; omega) (by omega) (by simp; omega) ?_); intro g4 cap4 w4 hown4 hg4; have HO4 := hide hown4; have HB4 : Hid (Below w.heap.size w w4) := hide (HB.out.trans ((grown_fr (Z := fun k => w.heap.size ≤ k) rfl (by rcases hg4 with h | ⟨h1, h2⟩; exact .inl h; exact .inr ⟨by simpa using h1, h2⟩) HOL.out).below fun k hk => ⟨by omega, by omega⟩)); clear hown4 hg4)
      go_roundw
      case rel => exact ⟨k + 1, some ⟨g4, 0, none⟩, cap4, by omega, by go_num, rfl, hide (by rw [HT.out]; exact HO4.out), HB4⟩
      case measure => simp [intOf]; omega
    · have HE : Hid (wr.ownsRow w.heap.size 3 1 (.slice ma n mc) n (ints l)) := hide (by have := HO.out; rw [show k = n by omega, List.take_of_length_le (by rw [HNN.out]; omega)] at this; exact this)
      have hkn : k = n := by omega
      subst hkn
      clear HO
      go_wp2_with fail
      go_ret
      exact ⟨_, rfl, HE.out, HB.out⟩
/-- A list in one cell, in blocks of Z. -/
def cLz (Z : Nat → Prop) (w : World) (a : List Int) (xs : List Value) : Prop := ∃ v, xs = [v] ∧ RZ Z 1 cI w a v
theorem cLz_ag : ∀ Z Z' w w' x xs, Ag Z Z' w w' → cLz Z w x xs → cLz Z' w' x xs := fun _ _ _ _ _ _ hag ⟨v, e, h⟩ => ⟨v, e, RZ.keep h hag fun _ _ h => h⟩
theorem lists_rz {Z : Nat → Prop} {N : Nat} {w : World} {l : List (List Int)} {v : Value} (h : RZ Z 1 (cLz Z) w l v) (hz : ∀ g, Z g → g < N) : Lists N w l v :=
  RZ.rr h hz fun _ _ ⟨v, e, hv⟩ => ⟨v, e, RZ.rr hv hz fun _ _ h => h⟩
theorem rz_ints {Z : Nat → Prop} {b : Nat} {w : World} {v : Value} {l : List Int} (h : w.ownsRow b 3 1 v l.length (ints l)) (hz : ∀ g, v.ownBlock = some g → Z g) (hl : l.length ≤ 140737488351232) : RZ Z 1 cI w l v :=
  RZ.of_owns h hz hl fun i x hi => by
    unfold cI ints
    rw [Nat.mul_one, ← List.map_drop, drop_at hi]
    rfl
set_option maxRecDepth 100000 in
set_option maxHeartbeats 6400000 in
theorem copyLists_any {N : Nat} {w : World} {next : List (List Int)} {a : Option Addr} {c : Nat} (h : Lists N w next (.slice a next.length c)) (hN : N ≤ w.heap.size) (hn : next.length ≤ 5864062014634) (ht : ∀ (i : Nat) (l : List Int), next[i]? = some l → l.length ≤ 17592186043904) :
    Calls Try.prog 17 #[.slice a next.length c] w fun e w' => ∃ va vc, e = .returned (.slice va next.length vc) ∧ Gz 26 1 cLz w next next.length (.slice va next.length vc) w' := by
  obtain ⟨iL, hiL, zL0, zL1, zL2⟩ := info_parts infoL
  have HL := hide h
  have HRL : Hid (∀ (i : Nat) (l : List Int), next[i]? = some l → l.length ≤ 17592186043904) := hide ht
  obtain ⟨n, hnn⟩ : ∃ n, next.length = n := ⟨_, rfl⟩
  have HNN := hide hnn
  rw [hnn] at hn HL ⊢
  clear h hnn
  go_enter Try.func17, Try.ntmps17
  go_wp2_with fail
  go_loopw [3, 4] (fun mv x wr => ∃ (k : Nat) (ma : Option Addr) (mc : Nat), k ≤ n ∧ x = .int .i64 k ∧ mv = .slice ma k mc ∧ Hid (Gz 26 1 cLz w (next.take k) k (.slice ma k mc) wr)) (fun _ x _ => n - (intOf x).toNat)
  case atStart => exact ⟨0, none, 0, by omega, rfl, rfl, hide Gz.nil⟩
  case round =>
    obtain ⟨k, ma, mc, hk, rfl, rfl, HG⟩ := hrel
    have HB := hide HG.out.low
    by_cases hlt : k < n
    · obtain ⟨r, hr⟩ := get_at (l := next) (i := k) (by rw [HNN.out]; exact hlt)
      obtain ⟨g1, o1, a2, c2, rfl, hg1, hc0, hrc, _, hI⟩ := at_L HL.out hr
      have hc1 := (World.cell?_of_block (HB.out.block g1 (by omega))).trans hc0
      have hrl := HRL.out k r hr
      have CC := hide (copyInts_any (w := wr) (Ints.keep (fun g hg => HB.out.block g (by omega)) hI) (Nat.le_trans hN HB.out.size) hrl)
      have HT := hide (take_snoc hr)
      obtain ⟨m, hm⟩ : ∃ m, r.length = m := ⟨_, rfl⟩
      have HMM := hide hm
      rw [hm] at hc1 hrc hrl CC
      have hs := HB.out.size
      clear hr hI hm hc0
      go_upto_region 5 with fail
      go_wp2_with (first | (at_builtin; go_must (refine wpList_append_two _ rfl _ _ 22 rfl w.heap.size 26 iL _ 1 24 Try.underlying22 hiL zL0 zL1 zL2 rfl (by decide) _ _ xs rfl HROW.out ⟨wd.heap.size, 0, none⟩ 1 [.slice va m vc] rfl rfl (cell_one_new _ _ _) (by intro u hu; simp at hu; subst hu; rfl) (by unfold maxLen; omega) (by omega) (by simp; omega) ?_); intro g4 cap4 w4 hown4 hg4; have HO4 := hide hown4; have HG5 := hide hg4; clear hown4 hg4) | (go_at_call 5; refine CC.out.mono ?_; rintro e wd ⟨v, rfl, hv, hbd⟩; obtain ⟨va, vc, rfl⟩ := owns_slice hv; have HV := hide hv; have HBD := hide hbd; clear hv hbd; obtain ⟨hlow, hlen, Z, xs, hrow, hz, hold⟩ := HG.out; have HXS := hide hrow; have HZ := hide hz; have HOL := hide hold; have HLE := hide hlen; have HROW := hide (owns_keep hrow fun g hg => (HBD.out.trans ((below_new wd (.cells #[.slice va m vc] 26)).mono HBD.out.size)).block g (owns_lt hrow hg)); clear hlow hlen hrow hz hold; have hsd := HBD.out.size))
      have HG4 : Hid (Gz 26 1 cLz w (next.take k ++ [r]) (k + 1) (.slice (some ⟨g4, 0, none⟩) (k + 1) cap4) w4) := hide (Gz.grow cLz_ag HB.out HLE.out HXS.out HZ.out HOL.out HBD.out ⟨_, rfl, rz_ints (by rw [HMM.out]; exact HV.out) (fun g e => HV.out.lt g e) (by rw [HMM.out]; omega)⟩ (ys := [.slice va m vc]) rfl HO4.out (by rcases HG5.out with h | ⟨h1, h2⟩; exact .inl h; exact .inr ⟨by simpa using h1, h2⟩))
      go_roundw
      case rel => exact ⟨k + 1, some ⟨g4, 0, none⟩, cap4, by omega, by go_num, rfl, hide (by rw [HT.out]; exact HG4.out)⟩
      case measure => simp [intOf]; omega
    · have hkn : k = n := by omega
      subst hkn
      have HE : Hid (Gz 26 1 cLz w next k (.slice ma k mc) wr) := hide (by
        have := HG.out
        rw [List.take_of_length_le (by rw [HNN.out]; omega)] at this
        exact this)
      clear HG
      go_wp2_with fail
      go_ret
      exact ⟨_, _, rfl, HE.out⟩
end Go.Proofs.Ytinloodhmnjobaa.Fa
/- CopyRule, CopyRules, CopyTheory: what they answer lies in memory of its own. -/
namespace Go.Proofs.Ytinloodhmnjobaa.Fa
open Go.RowKit

set_option maxRecDepth 100000 in
set_option maxHeartbeats 6400000 in
theorem copyRule_any {N : Nat} {w : World} {k h : Int} {l : List Int} {a : Option Addr} {c : Nat} (hi : Ints N w l (.slice a l.length c)) (hN : N ≤ w.heap.size) (hl : l.length ≤ 17592186043904) :
    Calls Try.prog 39 #[.agg #[.int .i64 k, .int .i64 h, .slice a l.length c]] w fun e w' => ∃ va vc, e = .returned (.agg #[.int .i64 k, .int .i64 h, .slice va l.length vc]) ∧ w'.ownsRow w.heap.size 3 1 (.slice va l.length vc) l.length (ints l) ∧ Below w.heap.size w w' := by
  obtain ⟨n, hn⟩ : ∃ n, l.length = n := ⟨_, rfl⟩
  have HN := hide hn
  rw [hn] at hi ⊢
  have hF1 : Fx w.heap.size 53 [.int .i64 k, .int .i64 h, .slice a n c] (w.alloc (.cells #[.int .i64 k, .int .i64 h, .slice a n c] 53)) := heap_alloc_new w (.cells #[.int .i64 k, .int .i64 h, .slice a n c] 53)
  have hF2 : Fx (w.heap.size + 1) 53 [.int .i64 0, .int .i64 0, .slice none 0 0] ((w.alloc (.cells #[.int .i64 k, .int .i64 h, .slice a n c] 53)).alloc (.cells #[.int .i64 0, .int .i64 0, .slice none 0 0] 53)) := by
    have := heap_alloc_new (w.alloc (.cells #[.int .i64 k, .int .i64 h, .slice a n c] 53)) (.cells #[.int .i64 0, .int .i64 0, .slice none 0 0] 53)
    have e : (w.alloc (.cells #[.int .i64 k, .int .i64 h, .slice a n c] 53)).heap.size = w.heap.size + 1 := by simp
    rw [e] at this
    exact this
  have hB1 := below_new w (.cells #[.int .i64 k, .int .i64 h, .slice a n c] 53)
  have hB2 := below_new (w.alloc (.cells #[.int .i64 k, .int .i64 h, .slice a n c] 53)) (.cells #[.int .i64 0, .int .i64 0, .slice none 0 0] 53)
  have HF1 := hide (hF1.keep (hB2.block _ hF1.lt))
  have HF2 := hide hF2
  have HB := hide (hB1.trans (hB2.mono hB1.size))
  clear hF1 hF2 hB1 hB2
  go_enter Try.func39, Try.ntmps39
  go_upto_region 1 with fail
  generalize (w.alloc (.cells #[.int .i64 k, .int .i64 h, .slice a n c] 53)).alloc (.cells #[.int .i64 0, .int .i64 0, .slice none 0 0] 53) = W at *
  have CI := hide (copyInts_any (w := W) (l := l) (by rw [hn]; exact Ints.keep (fun g hg => HB.out.block g (by omega)) hi) (Nat.le_trans hN HB.out.size) hl)
  rw [hn] at CI hl
  clear hn
  have q2 := HF1.out.get (i := 2) rfl
  go_upto_region 2 with (go_at_call 5; refine CI.out.mono ?_; rintro _ w3 ⟨v, rfl, hv, hb⟩; obtain ⟨va, vc, rfl⟩ := owns_slice hv; have HV := hide hv; have HB3 := hide hb; clear hv hb; have q3 := (HF1.out.keep (HB3.out.block _ HF1.out.lt)).get (i := 2) rfl; have q4 := (HF1.out.keep (HB3.out.block _ HF1.out.lt)).frz 2)
  have hlt1 := HF1.out.lt
  have hlt2 := HF2.out.lt
  have HG1 : Hid (Fx w.heap.size 53 [.int .i64 k, .int .i64 h, .slice va n vc] (w3.setCell ⟨w.heap.size, 2, none⟩ (.slice va n vc))) := hide ((HF1.out.keep (HB3.out.block _ HF1.out.lt)).set 2 (.slice va n vc))
  have HG2 : Hid (Fx (w.heap.size + 1) 53 [.int .i64 0, .int .i64 0, .slice none 0 0] (w3.setCell ⟨w.heap.size, 2, none⟩ (.slice va n vc))) := hide ((HF2.out.keep (HB3.out.block _ HF2.out.lt)).keep (other_set (by omega)))
  have HV4 : Hid ((w3.setCell ⟨w.heap.size, 2, none⟩ (.slice va n vc)).ownsRow W.heap.size 3 1 (.slice va n vc) n (ints l)) := hide (owns_keep HV.out fun g hg => other_set (by have := (HV.out.lt g hg).1; omega))
  have HB4 := hide ((HB.out.trans (HB3.out.mono HB.out.size)).setCell (p := ⟨w.heap.size, 2, none⟩) (Nat.le_refl _) (.slice va n vc))
  clear q2 q3 q4 HV HB3 HF1 HF2 CI HB
  generalize w3.setCell ⟨w.heap.size, 2, none⟩ (.slice va n vc) = w4 at *
  have r0 := HG1.out.get (i := 0) rfl
  have r1 := HG1.out.get (i := 1) rfl
  have r2 := HG1.out.get (i := 2) rfl
  have s0 := HG2.out.get (i := 0) rfl
  have s1 := HG2.out.get (i := 1) rfl
  have s2 := HG2.out.get (i := 2) rfl
  have f0 := HG2.out.frz 0
  have f1 := HG2.out.frz 1
  have f2 := HG2.out.frz 2
  go_wp2_with fail
  have HG5 : Hid (Fx (w.heap.size + 1) 53 [.int .i64 k, .int .i64 h, .slice va n vc] (((w4.setCell ⟨w.heap.size + 1, 0, none⟩ (.int .i64 k)).setCell ⟨w.heap.size + 1, 1, none⟩ (.int .i64 h)).setCell ⟨w.heap.size + 1, 2, none⟩ (.slice va n vc))) := hide (((HG2.out.set 0 (.int .i64 k)).set 1 (.int .i64 h)).set 2 (.slice va n vc))
  have HV5 : Hid ((((w4.setCell ⟨w.heap.size + 1, 0, none⟩ (.int .i64 k)).setCell ⟨w.heap.size + 1, 1, none⟩ (.int .i64 h)).setCell ⟨w.heap.size + 1, 2, none⟩ (.slice va n vc)).ownsRow w.heap.size 3 1 (.slice va n vc) n (ints l)) := hide (owns_down (owns_keep HV4.out fun g hg => by
    have := (HV4.out.lt g hg).1
    rw [other_set (by omega), other_set (by omega), other_set (by omega)]) (by omega))
  have HB5 := hide (((HB4.out.setCell (p := ⟨w.heap.size + 1, 0, none⟩) (Nat.le_succ _) (.int .i64 k)).setCell (p := ⟨w.heap.size + 1, 1, none⟩) (Nat.le_succ _) (.int .i64 h)).setCell (p := ⟨w.heap.size + 1, 2, none⟩) (Nat.le_succ _) (.slice va n vc))
  clear r0 r1 r2 s0 s1 s2 f0 f1 f2
  generalize ((w4.setCell ⟨w.heap.size + 1, 0, none⟩ (.int .i64 k)).setCell ⟨w.heap.size + 1, 1, none⟩ (.int .i64 h)).setCell ⟨w.heap.size + 1, 2, none⟩ (.slice va n vc) = w5 at *
  refine bodyPost_ret (results_cell_row rfl _ _ (w.heap.size + 1) 53 #[.int .i64 k, .int .i64 h, .slice va n vc] _ _ rfl HG5.out Try.underlying53 rfl (by kernel_rfl)) rfl ?_
  exact ⟨va, vc, rfl, HV5.out, HB5.out⟩
/-- A rule in three cells, its body in blocks of Z. -/
def cRz (Z : Nat → Prop) (w : World) (r : RuleM) (xs : List Value) : Prop := ∃ v, xs = [.int .i64 r.kind, .int .i64 r.head, v] ∧ RZ Z 1 cI w r.body v
theorem cRz_ag : ∀ Z Z' w w' x xs, Ag Z Z' w w' → cRz Z w x xs → cRz Z' w' x xs := fun _ _ _ _ _ _ hag ⟨v, e, h⟩ => ⟨v, e, RZ.keep h hag fun _ _ h => h⟩
set_option maxRecDepth 100000 in
set_option maxHeartbeats 6400000 in
theorem copyRules_any {N : Nat} {w : World} {rs : List RuleM} {a : Option Addr} {c : Nat} (h : Rules N w rs (.slice a rs.length c)) (hN : N ≤ w.heap.size) (hn : rs.length ≤ 3518437208780) (ht : ∀ (i : Nat) (r : RuleM), rs[i]? = some r → r.body.length ≤ 17592186043904) :
    Calls Try.prog 18 #[.slice a rs.length c] w fun e w' => ∃ va vc, e = .returned (.slice va rs.length vc) ∧ Gz 53 3 cRz w rs rs.length (.slice va rs.length vc) w' := by
  obtain ⟨iR, hiR, zR0, zR1, zR2⟩ := info_parts infoR
  have HL := hide h
  have HRL := hide ht
  obtain ⟨n, hnn⟩ : ∃ n, rs.length = n := ⟨_, rfl⟩
  have HNN := hide hnn
  rw [hnn] at hn HL ⊢
  clear h hnn ht
  go_enter Try.func18, Try.ntmps18
  go_wp2_with fail
  go_loopw [3, 4] (fun mv x wr => ∃ (k : Nat) (ma : Option Addr) (mc : Nat), k ≤ n ∧ x = .int .i64 k ∧ mv = .slice ma k mc ∧ Hid (Gz 53 3 cRz w (rs.take k) k (.slice ma k mc) wr)) (fun _ x _ => n - (intOf x).toNat)
  case atStart => exact ⟨0, none, 0, by omega, rfl, rfl, hide Gz.nil⟩
  case round =>
    obtain ⟨k, ma, mc, hk, rfl, rfl, HG⟩ := hrel
    have HB := hide HG.out.low
    by_cases hlt : k < n
    · obtain ⟨r, hr⟩ := get_at (l := rs) (i := k) (by rw [HNN.out]; exact hlt)
      obtain ⟨g1, o1, a2, c2, rfl, hg1, p0, p1, p2, hrc, _, hI⟩ := at_R HL.out hr
      have hc0 := (World.cell?_of_block (HB.out.block g1 (by omega))).trans p0
      have hc1 := (World.cell?_of_block (HB.out.block g1 (by omega))).trans p1
      have hc2 := (World.cell?_of_block (HB.out.block g1 (by omega))).trans p2
      have hrl := HRL.out k r hr
      have CC := hide (copyRule_any (w := wr) (k := r.kind) (h := r.head) (Ints.keep (fun g hg => HB.out.block g (by omega)) hI) (Nat.le_trans hN HB.out.size) hrl)
      have HT := hide (take_snoc hr)
      obtain ⟨m, hm⟩ : ∃ m, r.body.length = m := ⟨_, rfl⟩
      have HMM := hide hm
      rw [hm] at hc2 hrc hrl CC
      have hs := HB.out.size
      clear hr hI hm p0 p1 p2
      generalize hkd : r.kind = kd at *
      generalize hhd : r.head = hd at *
      go_upto_region 5 with fail
      go_wp2_with (first | (at_builtin; go_must (refine wpList_append_two _ rfl _ _ 23 rfl w.heap.size 53 iR _ 3 40 Try.underlying23 hiR zR0 zR1 zR2 rfl (by decide) _ _ xs rfl HROW.out ⟨wd.heap.size, 0, none⟩ 1 [.int .i64 kd, .int .i64 hd, .slice va m vc] rfl rfl (news_at (cs := [.int .i64 kd, .int .i64 hd, .slice va m vc]) rfl) (by intro u hu; simp at hu; rcases hu with rfl | rfl | rfl <;> rfl) (by unfold maxLen; omega) (by omega) (by simp; omega) ?_); intro g4 cap4 w4 hown4 hg4; have HO4 := hide hown4; have HG5 := hide hg4; clear hown4 hg4) | (go_at_call 39; refine CC.out.mono ?_; rintro e wd ⟨va, vc, rfl, hv, hbd⟩; have HV := hide hv; have HBD := hide hbd; clear hv hbd; obtain ⟨hlow, hlen, Z, xs, hrow, hz, hold⟩ := HG.out; have HXS := hide hrow; have HZ := hide hz; have HOL := hide hold; have HLE := hide hlen; have HROW := hide (owns_keep hrow fun g hg => (HBD.out.trans ((below_new wd (.cells #[.int .i64 kd, .int .i64 hd, .slice va m vc] 53)).mono HBD.out.size)).block g (owns_lt hrow hg)); clear hlow hlen hrow hz hold; have hsd := HBD.out.size))
      have HG4 : Hid (Gz 53 3 cRz w (rs.take k ++ [r]) (k + 1) (.slice (some ⟨g4, 0, none⟩) (k + 1) cap4) w4) := hide (Gz.grow cRz_ag HB.out HLE.out HXS.out HZ.out HOL.out HBD.out ⟨_, by rw [hkd, hhd], rz_ints (by rw [HMM.out]; exact HV.out) (fun g e => HV.out.lt g e) (by rw [HMM.out]; omega)⟩ (ys := [.int .i64 kd, .int .i64 hd, .slice va m vc]) rfl HO4.out (by rcases HG5.out with h | ⟨h1, h2⟩; exact .inl h; exact .inr ⟨by simpa using h1, h2⟩))
      go_roundw
      case rel => exact ⟨k + 1, some ⟨g4, 0, none⟩, cap4, by omega, by go_num, rfl, hide (by rw [HT.out]; exact HG4.out)⟩
      case measure => simp [intOf]; omega
    · have hkn : k = n := by omega
      subst hkn
      have HE : Hid (Gz 53 3 cRz w rs k (.slice ma k mc) wr) := hide (by
        have := HG.out
        rw [List.take_of_length_le (by rw [HNN.out]; omega)] at this
        exact this)
      clear HG
      go_wp2_with fail
      go_ret
      exact ⟨_, _, rfl, HE.out⟩
end Go.Proofs.Ytinloodhmnjobaa.Fa
/- CopyTheory: what it answers lies in memory of its own. -/
namespace Go.Proofs.Ytinloodhmnjobaa.Fa
open Go.RowKit

/-- A theory in memory of its own: its rules' and its beats' rows may be written. -/
structure Tow (b : Nat) (T : Th) (fv rv bv : Value) (xs ys : List Value) (Z : Nat → Prop) (w : World) : Prop where
  z : ∀ g, Z g → b ≤ g ∧ g < w.heap.size ∧ rv.ownBlock ≠ some g ∧ bv.ownBlock ≠ some g
  f : RZ Z 1 (cLz Z) w T.foes fv
  r : w.ownsRow b 53 3 rv T.rules.length xs
  re : ∀ i x, T.rules[i]? = some x → cRz Z w x ((xs.drop (i * 3)).take 3)
  b : w.ownsRow b 26 1 bv T.beats.length ys
  be : ∀ i x, T.beats[i]? = some x → cLz Z w x ((ys.drop (i * 1)).take 1)
theorem tow_of {b : Nat} {T : Th} {fv rv bv : Value} {W w1 v1 w2 v2 w3 w' : World} (hb : b ≤ W.heap.size) (hf : T.foes.length ≤ 140737488351232) (G1 : Gz 26 1 cLz W T.foes T.foes.length fv w1) (a1 : v1.heap.size = w1.heap.size) (G2 : Gz 53 3 cRz v1 T.rules T.rules.length rv w2) (a2 : v2.heap.size = w2.heap.size) (G3 : Gz 26 1 cLz v2 T.beats T.beats.length bv w3) (a3 : w'.heap.size = w3.heap.size)
    (e1 : ∀ g, W.heap.size ≤ g → g < w1.heap.size → w'.heap[g]? = w1.heap[g]?) (e2 : ∀ g, v1.heap.size ≤ g → g < w2.heap.size → w'.heap[g]? = w2.heap[g]?) (e3 : ∀ g, v2.heap.size ≤ g → g < w3.heap.size → w'.heap[g]? = w3.heap[g]?) : ∃ xs ys Z, Tow b T fv rv bv xs ys Z w' := by
  have d1 := Gz.done cLz_ag G1 hf
  obtain ⟨l1, -, -⟩ := G1
  obtain ⟨l2, -, Z2, xs, r2, z2, h2⟩ := G2
  obtain ⟨l3, -, Z3, ys, r3, z3, h3⟩ := G3
  have s1 := l1.size
  have s2 := l2.size
  have s3 := l3.size
  refine ⟨xs, ys, fun g => (W.heap.size ≤ g ∧ g < w1.heap.size) ∨ Z2 g ∨ Z3 g, fun g hg => ?_, ?_, ?_, fun i x hi => ?_, ?_, fun i x hi => ?_⟩
  · rcases hg with hg | hg | hg
    · refine ⟨by omega, by omega, fun e => ?_, fun e => ?_⟩
      · have := (r2.lt g e).1; omega
      · have := (r3.lt g e).1; omega
    · obtain ⟨p1, p2, p3⟩ := z2 g hg
      refine ⟨by omega, by omega, p3, fun e => ?_⟩
      have := (r3.lt g e).1; omega
    · obtain ⟨p1, p2, p3⟩ := z3 g hg
      refine ⟨by omega, by omega, fun e => ?_, p3⟩
      have := (r2.lt g e).2; omega
  · have hag : Ag (fun g => W.heap.size ≤ g ∧ g < w1.heap.size) (fun g => (W.heap.size ≤ g ∧ g < w1.heap.size) ∨ Z2 g ∨ Z3 g) w1 w' := fun g hg => ⟨.inl hg, e1 g hg.1 hg.2⟩
    exact RZ.keep d1 hag fun a xs => cLz_ag _ _ _ _ _ _ hag
  · exact owns_down (owns_keep r2 fun g hg => e2 g (r2.lt g hg).1 (r2.lt g hg).2) (by omega)
  · exact cRz_ag _ _ _ _ _ _ (fun g hg => ⟨.inr (.inl hg), e2 g (z2 g hg).1 (z2 g hg).2.1⟩) (h2 i x hi)
  · exact owns_down (owns_keep r3 fun g hg => e3 g (r3.lt g hg).1 (r3.lt g hg).2) (by omega)
  · exact cLz_ag _ _ _ _ _ _ (fun g hg => ⟨.inr (.inr hg), e3 g (z3 g hg).1 (z3 g hg).2.1⟩) (h3 i x hi)
/-- What a theory's lists may be long. -/
structure Sml (T : Th) : Prop where
  f : T.foes.length ≤ 5864062014634
  fr : ∀ (i : Nat) l, T.foes[i]? = some l → l.length ≤ 17592186043904
  r : T.rules.length ≤ 3518437208780
  rr : ∀ (i : Nat) x, T.rules[i]? = some x → x.body.length ≤ 17592186043904
  b : T.beats.length ≤ 5864062014634
  br : ∀ (i : Nat) l, T.beats[i]? = some l → l.length ≤ 17592186043904
set_option maxRecDepth 100000 in
set_option maxHeartbeats 6400000 in
theorem copyTheory_any {w : World} {T : Th} {fa ra ba : Option Addr} {fc rc bc : Nat} (h : TA w.heap.size w T fa fc ra rc ba bc) (hs : Sml T) :
    Calls Try.prog 4 #[tv T fa fc ra rc ba bc] w fun e w' => ∃ fa2 fc2 ra2 rc2 ba2 bc2 xs ys Z, e = .returned (tv T fa2 fc2 ra2 rc2 ba2 bc2) ∧ Tow w.heap.size T (.slice fa2 T.foes.length fc2) (.slice ra2 T.rules.length rc2) (.slice ba2 T.beats.length bc2) xs ys Z w' ∧ Below w.heap.size w w' := by
  have HS := hide hs
  have hF1 : Fx w.heap.size 25 [.int .i64 T.lits, .slice fa T.foes.length fc, .slice ra T.rules.length rc, .slice ba T.beats.length bc] (w.alloc (.cells #[.int .i64 T.lits, .slice fa T.foes.length fc, .slice ra T.rules.length rc, .slice ba T.beats.length bc] 25)) := heap_alloc_new w (.cells #[.int .i64 T.lits, .slice fa T.foes.length fc, .slice ra T.rules.length rc, .slice ba T.beats.length bc] 25)
  have hF2 : Fx (w.heap.size + 1) 25 [.int .i64 0, .slice none 0 0, .slice none 0 0, .slice none 0 0] ((w.alloc (.cells #[.int .i64 T.lits, .slice fa T.foes.length fc, .slice ra T.rules.length rc, .slice ba T.beats.length bc] 25)).alloc (.cells #[.int .i64 0, .slice none 0 0, .slice none 0 0, .slice none 0 0] 25)) := by
    have := heap_alloc_new (w.alloc (.cells #[.int .i64 T.lits, .slice fa T.foes.length fc, .slice ra T.rules.length rc, .slice ba T.beats.length bc] 25)) (.cells #[.int .i64 0, .slice none 0 0, .slice none 0 0, .slice none 0 0] 25)
    have e : (w.alloc (.cells #[.int .i64 T.lits, .slice fa T.foes.length fc, .slice ra T.rules.length rc, .slice ba T.beats.length bc] 25)).heap.size = w.heap.size + 1 := by simp
    rw [e] at this
    exact this
  have hB1 := below_new w (.cells #[.int .i64 T.lits, .slice fa T.foes.length fc, .slice ra T.rules.length rc, .slice ba T.beats.length bc] 25)
  have hB2 := below_new (w.alloc (.cells #[.int .i64 T.lits, .slice fa T.foes.length fc, .slice ra T.rules.length rc, .slice ba T.beats.length bc] 25)) (.cells #[.int .i64 0, .slice none 0 0, .slice none 0 0, .slice none 0 0] 25)
  have HF1 := hide (hF1.keep (hB2.block _ hF1.lt))
  have HF2 := hide hF2
  have HB := hide (hB1.trans (hB2.mono hB1.size))
  have HT := hide h
  clear hF1 hF2 hB1 hB2 h hs
  go_enter Try.func4, Try.ntmps4
  go_upto_region 1 with fail
  generalize (w.alloc (.cells #[.int .i64 T.lits, .slice fa T.foes.length fc, .slice ra T.rules.length rc, .slice ba T.beats.length bc] 25)).alloc (.cells #[.int .i64 0, .slice none 0 0, .slice none 0 0, .slice none 0 0] 25) = W at *
  have hl1 := HF1.out.lt
  have hl2 := HF2.out.lt
  have C1 := hide (copyLists_any (w := W) (TR.keep (fun g hg => HB.out.block g hg) HT.out).foes HB.out.size HS.out.f HS.out.fr)
  have q1 := HF1.out.get (i := 1) rfl
  go_upto_region 2 with (go_at_call 17; refine C1.out.mono ?_; rintro _ w1 ⟨fa2, fc2, rfl, hg⟩; have HG1 := hide hg; have HL1 := hide hg.low; clear hg; have q3 := (HF1.out.keep (HL1.out.block _ HF1.out.lt)).get (i := 1) rfl; have q4 := (HF1.out.keep (HL1.out.block _ HF1.out.lt)).frz 1)
  have HK1 : Hid (Fx w.heap.size 25 [.int .i64 T.lits, .slice fa2 T.foes.length fc2, .slice ra T.rules.length rc, .slice ba T.beats.length bc] (w1.setCell ⟨w.heap.size, 1, none⟩ (.slice fa2 T.foes.length fc2))) := hide ((HF1.out.keep (HL1.out.block _ HF1.out.lt)).set 1 _)
  have hs1 : (w1.setCell ⟨w.heap.size, 1, none⟩ (.slice fa2 T.foes.length fc2)).heap.size = w1.heap.size := by simp
  have HO1 : Hid (∀ g, g ≠ w.heap.size → (w1.setCell ⟨w.heap.size, 1, none⟩ (.slice fa2 T.foes.length fc2)).heap[g]? = w1.heap[g]?) := hide fun g hg => other_set hg
  have HBv1 := hide ((HB.out.trans (HL1.out.mono HB.out.size)).setCell (p := ⟨w.heap.size, 1, none⟩) (Nat.le_refl _) (.slice fa2 T.foes.length fc2))
  clear q1 q3 q4 C1
  generalize w1.setCell ⟨w.heap.size, 1, none⟩ (.slice fa2 T.foes.length fc2) = v1 at *
  have C2 := hide (copyRules_any (w := v1) (TR.keep (fun g hg => HBv1.out.block g hg) HT.out).rules HBv1.out.size HS.out.r HS.out.rr)
  have q2 := HK1.out.get (i := 2) rfl
  go_upto_region 3 with (go_at_call 18; refine C2.out.mono ?_; rintro _ w2 ⟨ra2, rc2, rfl, hg⟩; have HG2 := hide hg; have HL2 := hide hg.low; clear hg; have q3 := (HK1.out.keep (HL2.out.block _ HK1.out.lt)).get (i := 2) rfl; have q4 := (HK1.out.keep (HL2.out.block _ HK1.out.lt)).frz 2)
  have HK2 : Hid (Fx w.heap.size 25 [.int .i64 T.lits, .slice fa2 T.foes.length fc2, .slice ra2 T.rules.length rc2, .slice ba T.beats.length bc] (w2.setCell ⟨w.heap.size, 2, none⟩ (.slice ra2 T.rules.length rc2))) := hide ((HK1.out.keep (HL2.out.block _ HK1.out.lt)).set 2 _)
  have hs2 : (w2.setCell ⟨w.heap.size, 2, none⟩ (.slice ra2 T.rules.length rc2)).heap.size = w2.heap.size := by simp
  have HO2 : Hid (∀ g, g ≠ w.heap.size → (w2.setCell ⟨w.heap.size, 2, none⟩ (.slice ra2 T.rules.length rc2)).heap[g]? = w2.heap[g]?) := hide fun g hg => other_set hg
  have HBv2 := hide ((HBv1.out.trans (HL2.out.mono HBv1.out.size)).setCell (p := ⟨w.heap.size, 2, none⟩) (Nat.le_refl _) (.slice ra2 T.rules.length rc2))
  clear q2 q3 q4 C2
  generalize w2.setCell ⟨w.heap.size, 2, none⟩ (.slice ra2 T.rules.length rc2) = v2 at *
  have C3 := hide (copyLists_any (w := v2) (TR.keep (fun g hg => HBv2.out.block g hg) HT.out).beats HBv2.out.size HS.out.b HS.out.br)
  have q2 := HK2.out.get (i := 3) rfl
  go_upto_region 4 with (go_at_call 17; refine C3.out.mono ?_; rintro _ w3 ⟨ba2, bc2, rfl, hg⟩; have HG3 := hide hg; have HL3 := hide hg.low; clear hg; have q3 := (HK2.out.keep (HL3.out.block _ HK2.out.lt)).get (i := 3) rfl; have q4 := (HK2.out.keep (HL3.out.block _ HK2.out.lt)).frz 3)
  have HK3 : Hid (Fx w.heap.size 25 [.int .i64 T.lits, .slice fa2 T.foes.length fc2, .slice ra2 T.rules.length rc2, .slice ba2 T.beats.length bc2] (w3.setCell ⟨w.heap.size, 3, none⟩ (.slice ba2 T.beats.length bc2))) := hide ((HK2.out.keep (HL3.out.block _ HK2.out.lt)).set 3 _)
  have hs3 : (w3.setCell ⟨w.heap.size, 3, none⟩ (.slice ba2 T.beats.length bc2)).heap.size = w3.heap.size := by simp
  have HO3 : Hid (∀ g, g ≠ w.heap.size → (w3.setCell ⟨w.heap.size, 3, none⟩ (.slice ba2 T.beats.length bc2)).heap[g]? = w3.heap[g]?) := hide fun g hg => other_set hg
  have HBv3 := hide ((HBv2.out.trans (HL3.out.mono HBv2.out.size)).setCell (p := ⟨w.heap.size, 3, none⟩) (Nat.le_refl _) (.slice ba2 T.beats.length bc2))
  clear q2 q3 q4 C3
  generalize w3.setCell ⟨w.heap.size, 3, none⟩ (.slice ba2 T.beats.length bc2) = v3 at *
  have z1 := HL1.out.size
  have z2 := HL2.out.size
  have z3 := HL3.out.size
  have HR : Hid (Fx (w.heap.size + 1) 25 [.int .i64 0, .slice none 0 0, .slice none 0 0, .slice none 0 0] v3) := hide (HF2.out.keep (by rw [HO3.out _ (by omega), HL3.out.block _ (by omega), HO2.out _ (by omega), HL2.out.block _ (by omega), HO1.out _ (by omega), HL1.out.block _ (by omega)]))
  have HTW : Hid (∀ w', w'.heap.size = v3.heap.size → (∀ g, g ≠ w.heap.size + 1 → w'.heap[g]? = v3.heap[g]?) → ∃ xs ys Z, Tow w.heap.size T (.slice fa2 T.foes.length fc2) (.slice ra2 T.rules.length rc2) (.slice ba2 T.beats.length bc2) xs ys Z w') := hide fun w' hw hg => tow_of (by omega) (by have := HS.out.f; omega) HG1.out hs1 HG2.out hs2 HG3.out (by omega)
    (fun g h1 h2 => by rw [hg g (by omega), HO3.out _ (by omega), HL3.out.block _ (by omega), HO2.out _ (by omega), HL2.out.block _ (by omega), HO1.out _ (by omega)])
    (fun g h1 h2 => by rw [hg g (by omega), HO3.out _ (by omega), HL3.out.block _ (by omega), HO2.out _ (by omega)])
    (fun g h1 h2 => by rw [hg g (by omega), HO3.out _ (by omega)])
  clear HO1 HO2 HO3 HL1 HL2 HL3 HG1 HG2 HG3 HK1 HK2 HF1 HF2 hs1 hs2 hs3 HBv1 HBv2 HB HT z1 z2 z3
  have r0 := HK3.out.get (i := 0) rfl
  have r1 := HK3.out.get (i := 1) rfl
  have r2 := HK3.out.get (i := 2) rfl
  have r3 := HK3.out.get (i := 3) rfl
  have s0 := HR.out.get (i := 0) rfl
  have s1 := HR.out.get (i := 1) rfl
  have s2 := HR.out.get (i := 2) rfl
  have s3 := HR.out.get (i := 3) rfl
  have f0 := HR.out.frz 0
  have f1 := HR.out.frz 1
  have f2 := HR.out.frz 2
  have f3 := HR.out.frz 3
  go_wp2_with fail
  have HG5 := hide ((((HR.out.set 0 (.int .i64 T.lits)).set 1 (.slice fa2 T.foes.length fc2)).set 2 (.slice ra2 T.rules.length rc2)).set 3 (.slice ba2 T.beats.length bc2))
  have HB5 := hide ((((HBv3.out.setCell (p := ⟨w.heap.size + 1, 0, none⟩) (Nat.le_succ _) (.int .i64 T.lits)).setCell (p := ⟨w.heap.size + 1, 1, none⟩) (Nat.le_succ _) (.slice fa2 T.foes.length fc2)).setCell (p := ⟨w.heap.size + 1, 2, none⟩) (Nat.le_succ _) (.slice ra2 T.rules.length rc2)).setCell (p := ⟨w.heap.size + 1, 3, none⟩) (Nat.le_succ _) (.slice ba2 T.beats.length bc2))
  refine bodyPost_ret (results_cell_row rfl _ _ (w.heap.size + 1) 25 #[.int .i64 T.lits, .slice fa2 T.foes.length fc2, .slice ra2 T.rules.length rc2, .slice ba2 T.beats.length bc2] _ _ rfl HG5.out Try.underlying25 rfl (by kernel_rfl)) rfl ?_
  obtain ⟨xs, ys, Z, ht⟩ := HTW.out ((((v3.setCell ⟨w.heap.size + 1, 0, none⟩ (.int .i64 T.lits)).setCell ⟨w.heap.size + 1, 1, none⟩ (.slice fa2 T.foes.length fc2)).setCell ⟨w.heap.size + 1, 2, none⟩ (.slice ra2 T.rules.length rc2)).setCell ⟨w.heap.size + 1, 3, none⟩ (.slice ba2 T.beats.length bc2)) (by simp) (fun g hg => by rw [other_set hg, other_set hg, other_set hg, other_set hg])
  exact ⟨fa2, fc2, ra2, rc2, ba2, bc2, xs, ys, Z, rfl, ht, HB5.out⟩
end Go.Proofs.Ytinloodhmnjobaa.Fa
/- A copied theory is a theory in memory. -/
namespace Go.Proofs.Ytinloodhmnjobaa.Fa
open Go.RowKit

theorem tow_ta {b : Nat} {T : Th} {fa ra ba : Option Addr} {fc rc bc : Nat} {xs ys : List Value} {Z : Nat → Prop} {w : World} (h : Tow b T (.slice fa T.foes.length fc) (.slice ra T.rules.length rc) (.slice ba T.beats.length bc) xs ys Z w) (hs : Sml T) : TA w.heap.size w T fa fc ra rc ba bc := by
  have hz : ∀ g, Z g → g < w.heap.size := fun g hg => (h.z g hg).2.1
  have ag : Ag Z (fun g => g < w.heap.size) w w := fun g hg => ⟨hz g hg, rfl⟩
  have e1 := hs.r
  have e2 := hs.b
  refine ⟨lists_rz h.f hz, ?_, ?_⟩
  · exact RZ.rr (Z := fun g => g < w.heap.size) (c := cRz (fun g => g < w.heap.size)) (RZ.of_owns h.r (fun g hg => owns_lt h.r hg) (by omega) fun i x hi => cRz_ag _ _ _ _ _ _ ag (h.re i x hi)) (fun _ h => h) fun x xs ⟨v, e, hv⟩ => ⟨v, e, RZ.rr hv (fun _ h => h) fun _ _ h => h⟩
  · exact lists_rz (Z := fun g => g < w.heap.size) (RZ.of_owns h.b (fun g hg => owns_lt h.b hg) (by omega) fun i x hi => cLz_ag _ _ _ _ _ _ ag (h.be i x hi)) (fun _ h => h)
theorem own_ints {b : Nat} {l : List Int} {a : Option Addr} {c : Nat} {w : World} (h : w.ownsRow b 3 1 (.slice a l.length c) l.length (ints l)) (hl : l.length ≤ 17592186043904) : Ints w.heap.size w l (.slice a l.length c) :=
  RZ.rr (Z := fun g => g < w.heap.size) (rz_ints h (fun g hg => owns_lt h hg) (by omega)) (fun _ h => h) fun _ _ h => h
end Go.Proofs.Ytinloodhmnjobaa.Fa
