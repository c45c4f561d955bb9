import Derived.Test.YtmlhcncagdfjfaaGreatSoB
import Derived.Test.YtmlhcncagdfjfaaGreatWkD
import Derived.Test.YtmlhcncagdfjfaaGreatSlx
set_option maxRecDepth 100000
set_option maxHeartbeats 25600000
namespace Go.Proofs.YtmlhcncagdfjfaaGreat.De
open Go.RowKit Fa
theorem sound_law {w : World} {T : Th} {F : List Int} {fa ra ba ea la : Option Addr} {fc rc bc ec lc : Nat} {l : List StM} (h : TA w.heap.size w T fa fc ra rc ba bc) (hF : Ints w.heap.size w F (.slice ea F.length ec)) (hl : Sts w.heap.size w l la) (hll : l.length ≤ 140737488351232) :
    Calls Tryz.prog 6 #[tv T fa fc ra rc ba bc, .slice ea F.length ec, .slice la l.length lc] w fun e w' => e = .returned (.bool true) ∧ Below w.heap.size w w' := by
 have AR : Tryz.prog.follows .mixedOrders = true := by kernel_rfl
 have hB := ac w (.cells #[.int .i64 T.lits, .slice fa T.foes.length fc, .slice ra T.rules.length rc, .slice ba T.beats.length bc] 25)
 have hX := heap_alloc_new w (.cells #[.int .i64 T.lits, .slice fa T.foes.length fc, .slice ra T.rules.length rc, .slice ba T.beats.length bc] 25)
 have AE := hide (TR.go hB h)
 have HF := hide (Ints.go hB hF)
 have HL := hide hl
 have HB := hide hB
 have HX := hide hX
 have CW := hide vZ
 clear h hF hl hB
 go_enter Tryz.func6, Tryz.ntmps6
 go_upto_region 1 with fail
 generalize w.alloc (.cells #[.int .i64 T.lits, .slice fa T.foes.length fc, .slice ra T.rules.length rc, .slice ba T.beats.length bc] 25) = W at *
 clear hX
 go_upto_region 3 with (go_at_call 22; refine (CW.out _).mono ?_; rintro _ w1 ⟨rfl, AF⟩; have Ah := hide AF; clear AF)
 have Al := hide ((Ah.out.block _ (aO HX.out)).trans HX.out)
 have Af := hide (TR.go Ah.out AE.out)
 have Aj := hide (Ints.go Ah.out HF.out)
 have Ac := hide (HB.out.trans (Ah.out.mono HB.out.size))
 have AK := hide ((HL.out.keep (w' := w1) fun g hg => Ac.out.block g hg).up Ac.out.size)
 clear CW HX AE HF HB Ah
 obtain ⟨-, c0, c1, c2, c3⟩ := Bt.of Al.out
 by_cases hf : bE T F = 0
 · have CC := hide (ny (lc := lc) Af.out Aj.out hf AK.out)
   have HP := hide (oD hf)
   obtain ⟨n, hn⟩ : ∃ n, T.lits.toNat = n := ⟨_, rfl⟩
   have HN := hide hn
   rw [hn] at CC HP
   obtain ⟨⟨e1, p1⟩, Ap⟩ : ∃ z, chkM T F n (fun _ => 0) l = z := ⟨_, rfl⟩
   rw [Ap] at CC
   have Av := hide Ap
   clear Ap hn
   simp only at CC
   by_cases he : e1 = 0
   · subst he
     have Ay : ((0 : Int) != 0) = false := by decide
     have CS := hide (fun X (hX : Below w1.heap.size w1 X) => xE (TR.go hX Af.out) (Ints.go hX Aj.out) hf)
     rw [HN.out] at CS
     clear hf
     go_upto_region 6 with (go_at_call 23; refine CC.out.mono ?_; rintro _ w2 ⟨rfl, Ad⟩; have Ai := hide Ad; clear Ad)
     have AD := hide ((Ai.out.block _ (aO Al.out)).trans Al.out)
     clear c0 c1 c2 c3 CC Al
     obtain ⟨-, c0, c1, c2, c3⟩ := Bt.of AD.out
     have AC := hide (CS.out w2 Ai.out)
     go_upto_region 9 with (go_at_call 27; refine AC.out.mono ?_; rintro _ w3 ⟨v, m, i, rfl, Am, Aq, AG⟩; have HS := hide Am; have HO := hide Aq; have AO := hide (Ai.out.trans (AG.mono Ai.out.size)); clear Am Aq AG)
     clear c0 c1 c2 c3 CS AC AD Ai
     obtain ⟨va, vc, rfl⟩ := bK HO.out
     have AM := hide (eS HO.out)
     have AJ : Hid (∀ s ∈ l, cN s.lit n = true ∧ ax s.tag ∧ hs m s.lit s.tag = true) := hide (by
      have := Av.out
      unfold chkM at this
      split at this
      · cases this
      · exact qs HP.out HS.out (i := 0) sub_zero (by rw [this]))
     have AL : Hid (m.length = n) := hide (sX HP.out HS.out)
     have AW := HP.out.n4
     have Ak := hide (Ac.out.trans (AO.out.mono Ac.out.size))
     have AS : Hid (∀ g, Value.ownBlock (.slice va n vc) = some g → g < w3.heap.size) := hide fun g e => aD HO.out e
     clear Av HS Af Aj HO
     go_wp2_with fail
     go_loopw [11] (fun x wr => ∃ k : Nat, k ≤ l.length ∧ x = .int .i64 k ∧ Hid (Below w3.heap.size w3 wr)) (fun x _ => l.length - (intOf x).toNat)
     case atStart => exact ⟨0, by omega, rfl, hide (Below.refl _ _)⟩
     case round =>
      obtain ⟨k, hk, rfl, Ae⟩ := hrel
      by_cases hlt : k < l.length
      · obtain ⟨s, hs⟩ := ap hlt
        obtain ⟨Aw, Ax, Ag⟩ := AJ.out s (List.mem_of_getElem? hs)
        have Az := HL.out.keep (w' := wr) fun g hg => (Ae.out.block g (by have := Ak.out.size; omega)).trans (Ak.out.block g hg)
        obtain ⟨g, og, ca, cc, rfl, AU, d0, d1, d2, d3, d4, -, -, -, -⟩ := Az k s hs
        obtain ⟨AA, AI⟩ := fF Aw
        obtain ⟨q, hq⟩ := Int.eq_ofNat_of_zero_le AA
        rw [hq] at d1 Ag AI
        have AP : q < n := by omega
        obtain ⟨xm, An⟩ := ap (l := m) (i := q) (by rw [AL.out]; exact AP)
        obtain ⟨gm, om, rfl, At⟩ := AM.out q (.int .u8 xm) (by unfold ey; rw [List.getElem?_map, An]; rfl)
        have Aa : hb xm s.tag = true := by
         have : m.getD q 0 = xm := by rw [List.getD_eq_getElem?_getD, An]; rfl
         unfold YtmlhcncagdfjfaaGreat.hs at Ag
         rw [Int.toNat_natCast, this] at Ag
         exact Ag
        have hA := ac wr (.cells #[.int .i64 s.tag, .int .i64 q, .int .i64 s.how, .int .i64 s.rule, .slice ca s.ch.length cc] 32)
        have hQ : Fx wr.heap.size 32 [.int .i64 s.tag, .int .i64 q, .int .i64 s.how, .int .i64 s.rule, .slice ca s.ch.length cc] (wr.alloc (.cells #[.int .i64 s.tag, .int .i64 q, .int .i64 s.how, .int .i64 s.rule, .slice ca s.ch.length cc] 32)) := heap_alloc_new wr _
        have AN : gm < w3.heap.size := World.block_lt_of_cell? w3 _ At
        have AQ : (wr.alloc (.cells #[.int .i64 s.tag, .int .i64 q, .int .i64 s.how, .int .i64 s.rule, .slice ca s.ch.length cc] 32)).cell? ⟨gm, om + q, none⟩ = some (.int .u8 xm) := (World.cell?_of_block ((hA.block gm (by have := Ae.out.size; omega)).trans (Ae.out.block gm AN))).trans At
        have Ab := hide (Ae.out.trans (hA.mono Ae.out.size))
        have HQ := hide hQ
        obtain ⟨tg, AH⟩ : ∃ z, s.tag = z := ⟨_, rfl⟩
        rw [AH] at d0 Ax Aa AQ Ab HQ
        clear hs Aw AA hq AI An At Ag hA hQ AH Az
        go_upto_region 13 with fail
        clear d0 d1 d2 d3 d4
        generalize wr.alloc (.cells #[.int .i64 tg, .int .i64 q, .int .i64 s.how, .int .i64 s.rule, .slice ca s.ch.length cc] 32) = w4 at *
        obtain ⟨b4, AB⟩ : ∃ b, wr.heap.size = b := ⟨_, rfl⟩
        rw [AB] at HQ ⊢
        clear AB
        have k0 := HQ.out.get (i := 0) rfl
        have k1 := HQ.out.get (i := 1) rfl
        have AT : decide ((q : Int) < 0) = false := decide_eq_false (by omega)
        have AV : decide ((n : Int) ≤ (q : Int)) = false := decide_eq_false (by omega)
        clear HQ
        rcases Ax with ht | ht | ht | ht
        · rw [ht] at k0 Aa
          have hz : (bits .and .u8 xm 1 == 0) = false := by unfold hb bitM at Aa; simpa using Aa
          have As : IntKind.i64.wrap ((1 : Int) - 1) = 0 := by decide
          have Ar : IntKind.i64.wrap (0 : Int) = 0 := by decide
          have Ao : Op.shift .shl .u8 1 .i64 0 = pure (.int .u8 1) := by rw [shift_shl .u8 .i64 1 0 (by decide) (by decide)]; rfl
          clear Aa ht
          go_quiet (fail)
          go_wp2_with fail
          go_roundw
          case rel => exact ⟨k + 1, by omega, by go_num, hide (Ab.out.trans ((al w4 _).mono Ab.out.size))⟩
          case measure => simp [intOf]; omega
        · rw [ht] at k0 Aa
          have hz : (bits .and .u8 xm 2 == 0) = false := by unfold hb bitM at Aa; simpa using Aa
          have As : IntKind.i64.wrap ((2 : Int) - 1) = 1 := by decide
          have Ar : IntKind.i64.wrap (1 : Int) = 1 := by decide
          have Ao : Op.shift .shl .u8 1 .i64 1 = pure (.int .u8 2) := by rw [shift_shl .u8 .i64 1 1 (by decide) (by decide)]; rfl
          clear Aa ht
          go_quiet (fail)
          go_wp2_with fail
          go_roundw
          case rel => exact ⟨k + 1, by omega, by go_num, hide (Ab.out.trans ((al w4 _).mono Ab.out.size))⟩
          case measure => simp [intOf]; omega
        · rw [ht] at k0 Aa
          have hz : (bits .and .u8 xm 4 == 0) = false := by unfold hb bitM at Aa; simpa using Aa
          have As : IntKind.i64.wrap ((3 : Int) - 1) = 2 := by decide
          have Ar : IntKind.i64.wrap (2 : Int) = 2 := by decide
          have Ao : Op.shift .shl .u8 1 .i64 2 = pure (.int .u8 4) := by rw [shift_shl .u8 .i64 1 2 (by decide) (by decide)]; rfl
          clear Aa ht
          go_quiet (fail)
          go_wp2_with fail
          go_roundw
          case rel => exact ⟨k + 1, by omega, by go_num, hide (Ab.out.trans ((al w4 _).mono Ab.out.size))⟩
          case measure => simp [intOf]; omega
        · rw [ht] at k0 Aa
          have hz : (bits .and .u8 xm 8 == 0) = false := by unfold hb bitM at Aa; simpa using Aa
          have As : IntKind.i64.wrap ((4 : Int) - 1) = 3 := by decide
          have Ar : IntKind.i64.wrap (3 : Int) = 3 := by decide
          have Ao : Op.shift .shl .u8 1 .i64 3 = pure (.int .u8 8) := by rw [shift_shl .u8 .i64 1 3 (by decide) (by decide)]; rfl
          clear Aa ht
          go_quiet (fail)
          go_wp2_with fail
          go_roundw
          case rel => exact ⟨k + 1, by omega, by go_num, hide (Ab.out.trans ((al w4 _).mono Ab.out.size))⟩
          case measure => simp [intOf]; omega
      · go_wp2_with fail
        go_ret
        exact ⟨rfl, Ak.out.trans (Ae.out.mono Ak.out.size)⟩
   · have Ay : (e1 != 0) = true := by simpa using he
     go_wp2_with (go_at_call 23; refine CC.out.mono ?_; rintro _ w2 ⟨rfl, Ad⟩; have Au := hide (Ac.out.trans (Ad.mono Ac.out.size)); clear Ad CC)
     go_ret
     exact ⟨rfl, Au.out⟩
 · have CC := hide (vf Af.out Aj.out hf (.slice la l.length lc))
   have Ay : (bE T F != 0) = true := by simpa using hf
   go_wp2_with (go_at_call 23; refine CC.out.mono ?_; rintro _ w2 ⟨rfl, Ad⟩; have Au := hide (Ac.out.trans (Ad.mono Ac.out.size)); clear Ad CC)
   go_ret
   exact ⟨rfl, Au.out⟩
end Go.Proofs.YtmlhcncagdfjfaaGreat.De
