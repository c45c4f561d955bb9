import Derived.Test.YtmlhcncagdfjfaaGreatSoB
import Derived.Test.YtmlhcncagdfjfaaGreatWkD
import Derived.Test.YtmlhcncagdfjfaaGreatSlx
set_option maxRecDepth 100000
set_option maxHeartbeats 25600000
namespace Go.Proofs.YtmlhcncagdfjfaaGreat.De
open Go.RowKit Fa
theorem sound_law {w : World} {T : Th} {F : List Int} {fa ra ba ea la : Option Addr} {fc rc bc ec lc : Nat} {l : List StM} (h : TA w.heap.size w T fa fc ra rc ba bc) (hF : Ints w.heap.size w F (.slice ea F.length ec)) (hl : Sts w.heap.size w l la) (hll : l.length ≤ 140737488351232) :
    Calls Tryz.prog 6 #[tv T fa fc ra rc ba bc, .slice ea F.length ec, .slice la l.length lc] w fun e w' => e = .returned (.bool true) ∧ Below w.heap.size w w' := by
 have AR : Tryz.prog.follows .mixedOrders = true := by kernel_rfl
 have hB := ae w (.cells #[.int .i64 T.lits, .slice fa T.foes.length fc, .slice ra T.rules.length rc, .slice ba T.beats.length bc] 25)
 have hX := heap_alloc_new w (.cells #[.int .i64 T.lits, .slice fa T.foes.length fc, .slice ra T.rules.length rc, .slice ba T.beats.length bc] 25)
 have AC := hide (TR.go hB h)
 have HF := hide (Ints.go hB hF)
 have HL := hide hl
 have HB := hide hB
 have HX := hide hX
 have CW := hide vJ
 clear h hF hl hB
 go_enter Tryz.func6, Tryz.ntmps6
 go_upto_region 1 with fail
 generalize w.alloc (.cells #[.int .i64 T.lits, .slice fa T.foes.length fc, .slice ra T.rules.length rc, .slice ba T.beats.length bc] 25) = W at *
 clear hX
 go_upto_region 3 with (go_at_call 22; refine (CW.out _).mono ?_; rintro _ w1 ⟨rfl, Ax⟩; have Ag := hide Ax; clear Ax)
 have Aj := hide ((Ag.out.block _ (aL HX.out)).trans HX.out)
 have Af := hide (TR.go Ag.out AC.out)
 have Al := hide (Ints.go Ag.out HF.out)
 have Ad := hide (HB.out.trans (Ag.out.mono HB.out.size))
 have AK := hide ((HL.out.keep (w' := w1) fun g hg => Ad.out.block g hg).up Ad.out.size)
 clear CW HX AC HF HB Ag
 obtain ⟨-, c0, c1, c2, c3⟩ := Bt.of Aj.out
 by_cases hf : bB T F = 0
 · have CC := hide (nF (lc := lc) Af.out Al.out hf AK.out)
   have HP := hide (oI hf)
   obtain ⟨n, hn⟩ : ∃ n, T.lits.toNat = n := ⟨_, rfl⟩
   have HN := hide hn
   rw [hn] at CC HP
   obtain ⟨⟨e1, p1⟩, Ao⟩ : ∃ z, chkM T F n (fun _ => 0) l = z := ⟨_, rfl⟩
   rw [Ao] at CC
   have Ay := hide Ao
   clear Ao hn
   simp only at CC
   by_cases he : e1 = 0
   · subst he
     have AB : ((0 : Int) != 0) = false := by decide
     have CS := hide (fun X (hX : Below w1.heap.size w1 X) => yy (TR.go hX Af.out) (Ints.go hX Al.out) hf)
     rw [HN.out] at CS
     clear hf
     go_upto_region 6 with (go_at_call 23; refine CC.out.mono ?_; rintro _ w2 ⟨rfl, Ac⟩; have Ah := hide Ac; clear Ac)
     have AF := hide ((Ah.out.block _ (aL Aj.out)).trans Aj.out)
     clear c0 c1 c2 c3 CC Aj
     obtain ⟨-, c0, c1, c2, c3⟩ := Bt.of AF.out
     have AE := hide (CS.out w2 Ah.out)
     go_upto_region 9 with (go_at_call 27; refine AE.out.mono ?_; rintro _ w3 ⟨v, m, i, rfl, Au, An, AI⟩; have HS := hide Au; have HO := hide An; have AN := hide (Ah.out.trans (AI.mono Ah.out.size)); clear Au An AI)
     clear c0 c1 c2 c3 CS AE AF Ah
     obtain ⟨va, vc, rfl⟩ := bG HO.out
     have AO := hide (eL HO.out)
     have AJ : Hid (∀ s ∈ l, cG s.lit n = true ∧ aq s.tag ∧ hs m s.lit s.tag = true) := hide (by
      have := Ay.out
      unfold chkM at this
      split at this
      · cases this
      · exact qy HP.out HS.out (i := 0) sub_zero (by rw [this]))
     have AL : Hid (m.length = n) := hide (tB HP.out HS.out)
     have AW := HP.out.n4
     have Ak := hide (Ad.out.trans (AN.out.mono Ad.out.size))
     have AV : Hid (∀ g, Value.ownBlock (.slice va n vc) = some g → g < w3.heap.size) := hide fun g e => aB HO.out e
     clear Ay HS Af Al HO
     go_wp2_with fail
     go_loopw [11] (fun x wr => ∃ k : Nat, k ≤ l.length ∧ x = .int .i64 k ∧ Hid (Below w3.heap.size w3 wr)) (fun x _ => l.length - (intOf x).toNat)
     case atStart => exact ⟨0, by omega, rfl, hide (Below.refl _ _)⟩
     case round =>
      obtain ⟨k, hk, rfl, Ae⟩ := hrel
      by_cases hlt : k < l.length
      · obtain ⟨s, hs⟩ := an hlt
        obtain ⟨AD, AG, Ai⟩ := AJ.out s (List.mem_of_getElem? hs)
        have AA := HL.out.keep (w' := wr) fun g hg => (Ae.out.block g (by have := Ak.out.size; omega)).trans (Ak.out.block g hg)
        obtain ⟨g, og, ca, cc, rfl, AT, d0, d1, d2, d3, d4, -, -, -, -⟩ := AA k s hs
        obtain ⟨AH, Az⟩ := fy AD
        obtain ⟨q, hq⟩ := Int.eq_ofNat_of_zero_le AH
        rw [hq] at d1 Ai Az
        have AM : q < n := by omega
        obtain ⟨xm, Am⟩ := an (l := m) (i := q) (by rw [AL.out]; exact AM)
        obtain ⟨gm, om, rfl, Ar⟩ := AO.out q (.int .u8 xm) (by unfold eq; rw [List.getElem?_map, Am]; rfl)
        have Aa : hb xm s.tag = true := by
         have : m.getD q 0 = xm := by rw [List.getD_eq_getElem?_getD, Am]; rfl
         unfold YtmlhcncagdfjfaaGreat.hs at Ai
         rw [Int.toNat_natCast, this] at Ai
         exact Ai
        have hA := ae wr (.cells #[.int .i64 s.tag, .int .i64 q, .int .i64 s.how, .int .i64 s.rule, .slice ca s.ch.length cc] 32)
        have hQ : Fx wr.heap.size 32 [.int .i64 s.tag, .int .i64 q, .int .i64 s.how, .int .i64 s.rule, .slice ca s.ch.length cc] (wr.alloc (.cells #[.int .i64 s.tag, .int .i64 q, .int .i64 s.how, .int .i64 s.rule, .slice ca s.ch.length cc] 32)) := heap_alloc_new wr _
        have AQ : gm < w3.heap.size := World.block_lt_of_cell? w3 _ Ar
        have AP : (wr.alloc (.cells #[.int .i64 s.tag, .int .i64 q, .int .i64 s.how, .int .i64 s.rule, .slice ca s.ch.length cc] 32)).cell? ⟨gm, om + q, none⟩ = some (.int .u8 xm) := (World.cell?_of_block ((hA.block gm (by have := Ae.out.size; omega)).trans (Ae.out.block gm AQ))).trans Ar
        have Ab := hide (Ae.out.trans (hA.mono Ae.out.size))
        have HQ := hide hQ
        obtain ⟨tg, Aw⟩ : ∃ z, s.tag = z := ⟨_, rfl⟩
        rw [Aw] at d0 AG Aa AP Ab HQ
        clear hs AD AH hq Az Am Ar Ai hA hQ Aw AA
        go_upto_region 13 with fail
        clear d0 d1 d2 d3 d4
        generalize wr.alloc (.cells #[.int .i64 tg, .int .i64 q, .int .i64 s.how, .int .i64 s.rule, .slice ca s.ch.length cc] 32) = w4 at *
        obtain ⟨b4, Av⟩ : ∃ b, wr.heap.size = b := ⟨_, rfl⟩
        rw [Av] at HQ ⊢
        clear Av
        have k0 := HQ.out.get (i := 0) rfl
        have k1 := HQ.out.get (i := 1) rfl
        have AS : decide ((q : Int) < 0) = false := decide_eq_false (by omega)
        have AU : decide ((n : Int) ≤ (q : Int)) = false := decide_eq_false (by omega)
        clear HQ
        rcases AG with ht | ht | ht | ht
        · rw [ht] at k0 Aa
          have hz : (bits .and .u8 xm 1 == 0) = false := by unfold hb bitM at Aa; simpa using Aa
          have Aq : IntKind.i64.wrap ((1 : Int) - 1) = 0 := by decide
          have At : IntKind.i64.wrap (0 : Int) = 0 := by decide
          have Ap : Op.shift .shl .u8 1 .i64 0 = pure (.int .u8 1) := by rw [shift_shl .u8 .i64 1 0 (by decide) (by decide)]; rfl
          clear Aa ht
          go_quiet (fail)
          go_wp2_with fail
          go_roundw
          case rel => exact ⟨k + 1, by omega, by go_num, hide (Ab.out.trans ((aj w4 _).mono Ab.out.size))⟩
          case measure => simp [intOf]; omega
        · rw [ht] at k0 Aa
          have hz : (bits .and .u8 xm 2 == 0) = false := by unfold hb bitM at Aa; simpa using Aa
          have Aq : IntKind.i64.wrap ((2 : Int) - 1) = 1 := by decide
          have At : IntKind.i64.wrap (1 : Int) = 1 := by decide
          have Ap : Op.shift .shl .u8 1 .i64 1 = pure (.int .u8 2) := by rw [shift_shl .u8 .i64 1 1 (by decide) (by decide)]; rfl
          clear Aa ht
          go_quiet (fail)
          go_wp2_with fail
          go_roundw
          case rel => exact ⟨k + 1, by omega, by go_num, hide (Ab.out.trans ((aj w4 _).mono Ab.out.size))⟩
          case measure => simp [intOf]; omega
        · rw [ht] at k0 Aa
          have hz : (bits .and .u8 xm 4 == 0) = false := by unfold hb bitM at Aa; simpa using Aa
          have Aq : IntKind.i64.wrap ((3 : Int) - 1) = 2 := by decide
          have At : IntKind.i64.wrap (2 : Int) = 2 := by decide
          have Ap : Op.shift .shl .u8 1 .i64 2 = pure (.int .u8 4) := by rw [shift_shl .u8 .i64 1 2 (by decide) (by decide)]; rfl
          clear Aa ht
          go_quiet (fail)
          go_wp2_with fail
          go_roundw
          case rel => exact ⟨k + 1, by omega, by go_num, hide (Ab.out.trans ((aj w4 _).mono Ab.out.size))⟩
          case measure => simp [intOf]; omega
        · rw [ht] at k0 Aa
          have hz : (bits .and .u8 xm 8 == 0) = false := by unfold hb bitM at Aa; simpa using Aa
          have Aq : IntKind.i64.wrap ((4 : Int) - 1) = 3 := by decide
          have At : IntKind.i64.wrap (3 : Int) = 3 := by decide
          have Ap : Op.shift .shl .u8 1 .i64 3 = pure (.int .u8 8) := by rw [shift_shl .u8 .i64 1 3 (by decide) (by decide)]; rfl
          clear Aa ht
          go_quiet (fail)
          go_wp2_with fail
          go_roundw
          case rel => exact ⟨k + 1, by omega, by go_num, hide (Ab.out.trans ((aj w4 _).mono Ab.out.size))⟩
          case measure => simp [intOf]; omega
      · go_wp2_with fail
        go_ret
        exact ⟨rfl, Ak.out.trans (Ae.out.mono Ak.out.size)⟩
   · have AB : (e1 != 0) = true := by simpa using he
     go_wp2_with (go_at_call 23; refine CC.out.mono ?_; rintro _ w2 ⟨rfl, Ac⟩; have As := hide (Ad.out.trans (Ac.mono Ad.out.size)); clear Ac CC)
     go_ret
     exact ⟨rfl, As.out⟩
 · have CC := hide (vv Af.out Al.out hf (.slice la l.length lc))
   have AB : (bB T F != 0) = true := by simpa using hf
   go_wp2_with (go_at_call 23; refine CC.out.mono ?_; rintro _ w2 ⟨rfl, Ac⟩; have As := hide (Ad.out.trans (Ac.mono Ad.out.size)); clear Ac CC)
   go_ret
   exact ⟨rfl, As.out⟩
end Go.Proofs.YtmlhcncagdfjfaaGreat.De
