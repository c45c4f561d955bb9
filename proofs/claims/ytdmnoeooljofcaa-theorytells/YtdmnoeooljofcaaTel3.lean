/- The document's For, Pairs, Size. -/
import Derived.Test.YtdmnoeooljofcaaTel2
import Derived.Test.YtdmnoeooljofcaaRf7
namespace Go.Proofs.Ytdmnoeooljofcaa.Rf
open Go.RowKit

theorem prM_ok {T : Th} (h : (checkM T).1 = 0) : prM T = (pairsM T : Nat) := by
  have h2 : ¬ 65536 < pairsM T := by
    unfold checkM at h
    split at h
    · cases h
    · simp only [orM_zero] at h
      obtain ⟨-, -, h3, -⟩ := h
      unfold pairM at h3
      split at h3
      · cases h3
      · assumption
  unfold prM
  rw [if_neg (by omega)]
set_option maxRecDepth 100000 in
set_option maxHeartbeats 6400000 in
theorem rFor_any {w : World} {T : Th} {fa ra ba : Option Addr} {fc rc bc : Nat} {q : Int} (h : TA w.heap.size w T fa fc ra rc ba bc) :
    Calls Try.prog 13 #[tv T fa fc ra rc ba bc, .int .i64 q] w fun e w' => ∃ a c, e = .returned (.tuple #[.slice a (forX T q).length c, .int .i64 (forE T q)]) ∧ At1 w' a (ints (forX T q)) ∧ Below w.heap.size w w' := by
  obtain ⟨iI, hiI, zI0, zI1, zI2⟩ := info_parts infoI
  have hB := below_new w (.cells #[.int .i64 T.lits, .slice fa T.foes.length fc, .slice ra T.rules.length rc, .slice ba T.beats.length bc] 27)
  have hX := heap_alloc_new w (.cells #[.int .i64 T.lits, .slice fa T.foes.length fc, .slice ra T.rules.length rc, .slice ba T.beats.length bc] 27)
  have hrl := h.rules.lim
  have hL := TR.go hB h
  have CC := hide (rcheck_any hL)
  have HL := hide hL
  have HB := hide hB
  have HX := hide hX
  obtain ⟨e0, p0, hab⟩ : ∃ a b, checkM T = (a, b) := ⟨_, _, rfl⟩
  rw [hab] at CC
  unfold dup at CC
  simp only at CC
  have HE : Hid ((checkM T).1 = e0) := hide (by rw [hab])
  clear h hB hL hab
  go_enter Try.func13, Try.ntmps13
  go_upto_region 1 with fail
  generalize w.alloc (.cells #[.int .i64 T.lits, .slice fa T.foes.length fc, .slice ra T.rules.length rc, .slice ba T.beats.length bc] 27) = W at *
  obtain ⟨-, c0, c1, c2, c3⟩ := Bt.of hX
  clear hX
  by_cases ha : e0 = 0
  · subst ha
    go_upto_region 4 with (go_at_call 27; refine CC.out.mono ?_; rintro _ w1 ⟨rfl, hw1⟩; have HB1 := hide (HB.out.trans (hw1.mono HB.out.size)); have HL1 := hide (TR.go hw1 HL.out); have HX1 := hide ((hw1.block _ (loc_lt HX.out)).trans HX.out); clear hw1)
    clear c0 c1 c2 c3 CC HL HB HX
    obtain ⟨-, c0, c1, c2, c3⟩ := Bt.of HX1.out
    have bad : inM q T.lits = false → ∀ (w : World) (W : World), Below w.heap.size w W → (∃ a c, Ending.returned (.tuple #[.slice none 0 0, .int .i64 91]) = .returned (.tuple #[.slice a (forX T q).length c, .int .i64 (forE T q)]) ∧ At1 W a (ints (forX T q)) ∧ Below w.heap.size w W) := fun hin w W hb => by
      have HF := forX_out HE.out hin
      rw [HF.1, HF.2]
      exact ⟨none, 0, rfl, fun i v hi => (by simp [ints] at hi), hb⟩
    have HBad := hide bad
    clear bad
    by_cases hq0 : q < 0
    · have HI : Hid (inM q T.lits = false) := hide (by unfold inM; simp; intro; omega)
      go_wp2_with fail
      refine bodyPost_ret (results_tmp2 rfl _ _ _) rfl ?_
      obtain ⟨za, zc, z1, z2, z3⟩ := HBad.out HI.out _ _ HB1.out
      first | exact ⟨za, zc, z1, z2, z3⟩ | exact ⟨za, ⟨zc, z1⟩, z2, z3⟩
    · by_cases hq1 : T.lits ≤ q
      · have HI : Hid (inM q T.lits = false) := hide (by unfold inM; simp; intro; omega)
        go_wp2_with fail
        refine bodyPost_ret (results_tmp2 rfl _ _ _) rfl ?_
        obtain ⟨za, zc, z1, z2, z3⟩ := HBad.out HI.out _ _ HB1.out
        first | exact ⟨za, zc, z1, z2, z3⟩ | exact ⟨za, ⟨zc, z1⟩, z2, z3⟩
      · have HF := hide (forX_in (T := T) (q := q) HE.out (by unfold inM; simp; omega))
        have hr4 := (check_ok HE.out).rl
        have HRU := hide HL1.out.rules
        clear HBad HL1
        go_wp2_with fail
        clear c0 c1 c2 c3
        go_loopw [8, 9] (fun y x wr => ∃ (k : Nat) (acc : List Int) (a : Option Addr) (d : Nat), k ≤ T.rules.length ∧ x = .int .i64 k ∧ y = .slice a acc.length d ∧ acc.length ≤ k ∧ Hid (acc = forL T kA k q) ∧ Hid (wr.ownsRow w1.heap.size 3 1 (.slice a acc.length d) acc.length (ints acc)) ∧ Hid (Below w1.heap.size w1 wr)) (fun _ x _ => T.rules.length - (intOf x).toNat)
        case atStart => exact ⟨0, [], none, 0, by omega, rfl, rfl, by simp, hide (by simp [forL]), hide (World.ownsRow_nil _ _ _ _), hide (Below.refl _ _)⟩
        case round =>
          obtain ⟨k, acc, a, d, hk, rfl, rfl, hal, HA, HRow, HBr⟩ := hrel
          obtain ⟨-, c0, c1, c2, c3⟩ := Bt.of ((HBr.out.block _ (loc_lt HX1.out)).trans HX1.out)
          by_cases hlt : k < T.rules.length
          · obtain ⟨r, hr⟩ := get_at hlt
            obtain ⟨gr, go, bd, bp, rfl, hgr, x0, x1, x2, -, hbl, -⟩ := at_R (Rules.keep HBr.out.block HRU.out) hr
            have HRr := hide hr
            clear hr hbl x0 x2
            by_cases hh : r.head = q
            · have HP := hide (forL_hit HRr.out hh)
              rw [hh] at x1
              have hA := below_new wr (.cells #[.int .i64 k] 3)
              have HROW := hide (owns_keep HRow.out fun g hg => hA.block g (owns_lt HRow.out hg))
              have hw2 : w1.heap.size ≤ wr.heap.size := HBr.out.size
              clear hh hA HRr
              go_upto_region 9 with (at_builtin; go_must (refine wpList_append_two _ rfl _ _ 38 rfl w1.heap.size 3 iI _ 1 8 Try.underlying38 hiI zI0 zI1 zI2 rfl (by decide) _ _ (ints acc) rfl HROW.out ⟨wr.heap.size, 0, none⟩ 1 [.int .i64 k] rfl rfl (cell_one_new _ _ _) (by intro u hu; simp at hu; subst hu; rfl) (by unfold maxLen; omega) (by omega) (by simp; omega) ?_); intro g4 cap4 w4 hown4 hg4)
              have hg5 : (Value.ownBlock (.slice a acc.length d) = some g4 ∧ (wr.alloc (.cells #[.int .i64 k] 3)).grownBy w4 (some g4)) ∨ (g4 = wr.heap.size + 1 ∧ (wr.alloc (.cells #[.int .i64 k] 3)).grownBy w4 none) := by
                rcases hg4 with h | ⟨h1, h2⟩
                · exact .inl h
                · exact .inr ⟨by simpa using h1, h2⟩
              have HF4 := hide (HBr.out.trans ((grown_fr (Z := fun k => w1.heap.size ≤ k) rfl hg5 fun g e => (HRow.out.lt g e).1).below fun k hk => ⟨by omega, by omega⟩))
              have HO4 := hide hown4
              clear hown4 hg4 hg5 x1 c0 c1 c2 c3
              go_wp2_with fail
              go_roundw
              case rel => exact ⟨k + 1, acc ++ [(k : Int)], some ⟨g4, 0, none⟩, cap4, by omega, by go_num, by rw [List.length_append]; rfl, by rw [List.length_append]; simp; omega, hide (by rw [HP.out, ← HA.out]), hide (by rw [List.length_append, ints_snoc]; exact HO4.out), HF4⟩
              case measure => simp [intOf]; omega
            · have HP := hide (forL_miss HRr.out hh)
              have hhb : (r.head == q) = false := by simpa using hh
              clear hh HRr
              go_wp2_with fail
              go_roundw
              case rel => exact ⟨k + 1, acc, a, d, by omega, by go_num, rfl, by omega, hide (by rw [HP.out]; exact HA.out), HRow, HBr⟩
              case measure => simp [intOf]; omega
          · have HKN : Hid (acc = rulesL T kA q) := hide (by rw [HA.out]; unfold rulesL; rw [show k = T.rules.length by omega])
            clear HA
            go_wp2_with fail
            go_ret2
            rw [HF.out.1, HF.out.2, ← HKN.out]
            exact ⟨a, d, rfl, owns_at1 HRow.out, HB1.out.trans (HBr.out.mono HB1.out.size)⟩
  · have hab2 : (e0 != 0) = true := by simpa using ha
    have HF := hide (forX_bad (T := T) (q := q) (by rw [HE.out]; exact ha))
    go_wp2_with (go_at_call 27; refine CC.out.mono ?_; rintro _ w1 ⟨rfl, hw1⟩; have HB1 := hide (HB.out.trans (hw1.mono HB.out.size)); clear hw1)
    go_ret2
    rw [HF.out.1, HF.out.2, HE.out]
    first | exact ⟨none, 0, rfl, fun i v hi => (by simp [ints] at hi), HB1.out⟩ | exact ⟨none, ⟨0, rfl⟩, fun i v hi => (by simp [ints] at hi), HB1.out⟩
set_option maxRecDepth 100000 in
set_option maxHeartbeats 6400000 in
theorem rPairs_any {w : World} {T : Th} {fa ra ba : Option Addr} {fc rc bc : Nat} (h : TA w.heap.size w T fa fc ra rc ba bc) :
    Calls Try.prog 15 #[tv T fa fc ra rc ba bc] w fun e w' => e = .returned (.tuple #[.int .i64 (pairV T), .int .i64 (checkM T).1]) ∧ Below w.heap.size w w' := by
  have hB := below_new w (.cells #[.int .i64 T.lits, .slice fa T.foes.length fc, .slice ra T.rules.length rc, .slice ba T.beats.length bc] 27)
  have hX := heap_alloc_new w (.cells #[.int .i64 T.lits, .slice fa T.foes.length fc, .slice ra T.rules.length rc, .slice ba T.beats.length bc] 27)
  have CC := hide (rcheck_any (TR.go hB h))
  have HL := hide (TR.go hB h)
  have HB := hide hB
  have HX := hide hX
  obtain ⟨e0, p0, hab⟩ : ∃ a b, checkM T = (a, b) := ⟨_, _, rfl⟩
  rw [hab] at CC
  unfold dup at CC
  simp only at CC
  have HE : Hid ((checkM T).1 = e0) := hide (by rw [hab])
  clear h hB hab
  go_enter Try.func15, Try.ntmps15
  go_upto_region 1 with fail
  generalize w.alloc (.cells #[.int .i64 T.lits, .slice fa T.foes.length fc, .slice ra T.rules.length rc, .slice ba T.beats.length bc] 27) = W at *
  obtain ⟨-, c0, c1, c2, c3⟩ := Bt.of hX
  clear hX
  by_cases ha : e0 = 0
  · subst ha
    have HT := hide (three_ok HE.out).1
    have HPM := hide (prM_ok HE.out)
    have HPz := hide (parts_zero HE.out)
    go_upto_region 4 with (go_at_call 27; refine CC.out.mono ?_; rintro _ w1 ⟨rfl, hw1⟩; have HB1 := hide (HB.out.trans (hw1.mono HB.out.size)); have HL1 := hide (TR.go hw1 HL.out); have HX1 := hide ((hw1.block _ (loc_lt HX.out)).trans HX.out); clear hw1)
    clear c0 c1 c2 c3 CC HL HB HX
    obtain ⟨-, c0, c1, c2, c3⟩ := Bt.of HX1.out
    have CW := hide (rpairs_any HL1.out HPz.out.1 HPz.out.2.1 HPz.out.2.2.1 HPz.out.2.2.2)
    go_wp2_with (go_at_call 35; refine CW.out.mono ?_; rintro _ w2 ⟨rfl, hw2⟩; have HB2 := hide (HB1.out.trans (hw2.mono HB1.out.size)); clear hw2)
    go_ret2
    exact ⟨ret2_i (HPM.out.trans HT.out.symm) HE.out.symm, HB2.out⟩
  · have hab2 : (e0 != 0) = true := by simpa using ha
    have HT := hide (three_bad (T := T) (by rw [HE.out]; exact ha)).1
    go_wp2_with (go_at_call 27; refine CC.out.mono ?_; rintro _ w1 ⟨rfl, hw1⟩; have HB1 := hide (HB.out.trans (hw1.mono HB.out.size)); clear hw1)
    go_ret2
    exact ⟨ret2_i HT.out.symm HE.out.symm, HB1.out⟩
set_option maxRecDepth 100000 in
set_option maxHeartbeats 6400000 in
theorem rSize_any {w : World} {T : Th} {fa ra ba : Option Addr} {fc rc bc : Nat} (h : TA w.heap.size w T fa fc ra rc ba bc) :
    Calls Try.prog 17 #[tv T fa fc ra rc ba bc] w fun e w' => e = .returned (.tuple #[.int .i64 (litV T), .int .i64 (premV T), .int .i64 (pairV T), .int .i64 (checkM T).1]) ∧ Below w.heap.size w w' := by
  have hB := below_new w (.cells #[.int .i64 T.lits, .slice fa T.foes.length fc, .slice ra T.rules.length rc, .slice ba T.beats.length bc] 27)
  have hX := heap_alloc_new w (.cells #[.int .i64 T.lits, .slice fa T.foes.length fc, .slice ra T.rules.length rc, .slice ba T.beats.length bc] 27)
  have CC := hide (rcheck_any (TR.go hB h))
  have HL := hide (TR.go hB h)
  have HB := hide hB
  have HX := hide hX
  obtain ⟨e0, p0, hab⟩ : ∃ a b, checkM T = (a, b) := ⟨_, _, rfl⟩
  rw [hab] at CC
  unfold dup at CC
  simp only at CC
  have HE : Hid ((checkM T).1 = e0) := hide (by rw [hab])
  clear h hB hab
  go_enter Try.func17, Try.ntmps17
  go_upto_region 1 with fail
  generalize w.alloc (.cells #[.int .i64 T.lits, .slice fa T.foes.length fc, .slice ra T.rules.length rc, .slice ba T.beats.length bc] 27) = W at *
  obtain ⟨-, c0, c1, c2, c3⟩ := Bt.of hX
  clear hX
  by_cases ha : e0 = 0
  · subst ha
    have HT := hide (three_ok HE.out)
    have HPM := hide (prM_ok HE.out)
    have HPz := hide (parts_zero HE.out)
    have HK := hide (check_ok HE.out)
    have hrl := HK.out.rl
    go_upto_region 4 with (go_at_call 27; refine CC.out.mono ?_; rintro _ w1 ⟨rfl, hw1⟩; have HB1 := hide (HB.out.trans (hw1.mono HB.out.size)); have HL1 := hide (TR.go hw1 HL.out); have HX1 := hide ((hw1.block _ (loc_lt HX.out)).trans HX.out); clear hw1)
    clear c0 c1 c2 c3 CC HL HB HX
    obtain ⟨-, c0, c1, c2, c3⟩ := Bt.of HX1.out
    go_upto_region 6 with fail
    go_loopw [8, 9] (fun y x wr => ∃ k : Nat, k ≤ T.rules.length ∧ x = .int .i64 k ∧ y = .int .i64 (premN T k : Nat) ∧ wr = w1) (fun _ x _ => T.rules.length - (intOf x).toNat)
    case atStart => exact ⟨0, by omega, rfl, rfl, rfl⟩
    case round =>
      obtain ⟨k, hk, rfl, rfl, rfl⟩ := hrel
      by_cases hlt : k < T.rules.length
      · obtain ⟨r, hr⟩ := get_at hlt
        obtain ⟨gr, go, bd, bp, rfl, hgr, x0, x1, x2, -, hbl, -⟩ := at_R HL1.out.rules hr
        have HS := hide (premN_next hr)
        have h16 : r.body.length ≤ 16 := (HK.out.rule r (List.mem_of_getElem? hr)).2.2.2.2.1
        have hpl := premN_le (T := T) (k := k) fun r hr => (HK.out.rule r hr).2.2.2.2.1
        clear hr hbl x0 x1
        obtain ⟨n, hn⟩ : ∃ n, r.body.length = n := ⟨_, rfl⟩
        rw [hn] at h16 x2 HS
        clear hn
        generalize premN T k = P at *
        go_wp2_with fail
        go_roundw
        case rel => exact ⟨k + 1, by omega, by go_num, by rw [HS.out]; go_num, by first | trivial | rfl⟩
        case measure => simp [intOf]; omega
      · have HKN : Hid (k = T.rules.length) := hide (by omega)
        have hkk := HKN.out
        clear hlt hk
        subst hkk
        obtain ⟨P, hP⟩ : ∃ P, premN T T.rules.length = P := ⟨_, rfl⟩
        rw [hP] at HT ⊢
        clear hP
        obtain ⟨pm, hpm⟩ : ∃ pm, pairsM T = pm := ⟨_, rfl⟩
        rw [hpm] at HT HPM
        have HTT : S4z wr ⟨w.heap.size, 0, none⟩ ⟨w.heap.size, 1, none⟩ ⟨w.heap.size, 2, none⟩ ⟨w.heap.size, 3, none⟩ (.int .i64 T.lits) (.slice fa T.foes.length fc) (.slice ra T.rules.length rc) (.slice ba T.beats.length bc) wr := ⟨c0, c1, c2, c3, Below.refl _ _⟩
        have CP : Hid (∀ X, Below wr.heap.size wr X → Calls Try.prog 35 #[tv T fa fc ra rc ba bc] X fun e w' => e = .returned (.int .i64 (pm : Nat)) ∧ Below X.heap.size X w') := hide fun X hX => by rw [← HPM.out]; exact rpairs_any (TR.go hX HL1.out) HPz.out.1 HPz.out.2.1 HPz.out.2.2.1 HPz.out.2.2.2
        clear HX1 HL1 hpm HKN hrl HPM
        go_upto_region 9 with fail
        clear c0 c1 c2 c3
        go_region_held3 (fun X : World => S4z wr ⟨w.heap.size, 0, none⟩ ⟨w.heap.size, 1, none⟩ ⟨w.heap.size, 2, none⟩ ⟨w.heap.size, 3, none⟩ (.int .i64 T.lits) (.slice fa T.foes.length fc) (.slice ra T.rules.length rc) (.slice ba T.beats.length bc) X) (first | exact S4z.drew ‹_› | assumption | exact S4z.below ‹_› (below_new _ _) | exact S4z.below ‹_› ‹_›) (first | (go_at_call 35; refine (CP.out _ (S4z.b ‹_›)).mono ?_; rintro e w' ⟨rfl, hb⟩))
        go_wp2_with fail
        (try simp only [Exit.inBlock, Exit.then])
        refine bodyPost_ret (results_tmp4 rfl _ _ _) rfl ?_
        have hd : Below wr.heap.size wr wr.drew := (Below.refl wr.heap.size wr).drew
        exact ⟨ret4_i HT.out.2.1.symm HT.out.2.2.symm HT.out.1.symm HE.out.symm, HB1.out.trans ((hd.trans (hb.mono hd.size)).mono HB1.out.size)⟩
  · have hab2 : (e0 != 0) = true := by simpa using ha
    have HT := hide (three_bad (T := T) (by rw [HE.out]; exact ha))
    go_wp2_with (go_at_call 27; refine CC.out.mono ?_; rintro _ w1 ⟨rfl, hw1⟩; have HB1 := hide (HB.out.trans (hw1.mono HB.out.size)); clear hw1)
    (try simp only [Exit.inBlock, Exit.then])
    refine bodyPost_ret (results_tmp4 rfl _ _ _) rfl ?_
    exact ⟨ret4_i HT.out.2.1.symm HT.out.2.2.symm HT.out.1.symm HE.out.symm, HB1.out⟩
end Go.Proofs.Ytdmnoeooljofcaa.Rf
