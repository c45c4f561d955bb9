import Derived.Test.YtmlhcncagdfjfaaGreatSoB
import Derived.Test.YtmlhcncagdfjfaaGreatWkD
import Derived.Test.YtmlhcncagdfjfaaGreatSlx
set_option maxRecDepth 100000
set_option maxHeartbeats 25600000
namespace Go.Proofs.YtmlhcncagdfjfaaGreat.De
open Go.RowKit Fa
theorem sound_law {w : World} {T : Th} {F : List Int} {fa ra ba ea la : Option Addr} {fc rc bc ec lc : Nat} {l : List StM} (h : TA w.heap.size w T fa fc ra rc ba bc) (hF : Ints w.heap.size w F (.slice ea F.length ec)) (hl : Sts w.heap.size w l la) (hll : l.length ≤ 140737488351232) :
    Calls Tryz.prog 6 #[tv T fa fc ra rc ba bc, .slice ea F.length ec, .slice la l.length lc] w fun e w' => e = .returned (.bool true) ∧ Below w.heap.size w w' := by
 have AR : Tryz.prog.follows .mixedOrders = true := by kernel_rfl
 have hB := ae w (.cells #[.int .i64 T.lits, .slice fa T.foes.length fc, .slice ra T.rules.length rc, .slice ba T.beats.length bc] 25)
 have hX := heap_alloc_new w (.cells #[.int .i64 T.lits, .slice fa T.foes.length fc, .slice ra T.rules.length rc, .slice ba T.beats.length bc] 25)
 have AA := hide (TR.go hB h)
 have HF := hide (Ints.go hB hF)
 have HL := hide hl
 have HB := hide hB
 have HX := hide hX
 have CW := hide tW
 clear h hF hl hB
 go_enter Tryz.func6, Tryz.ntmps6
 go_upto_region 1 with fail
 generalize w.alloc (.cells #[.int .i64 T.lits, .slice fa T.foes.length fc, .slice ra T.rules.length rc, .slice ba T.beats.length bc] 25) = W at *
 clear hX
 go_upto_region 3 with (go_at_call 22; refine (CW.out _).mono ?_; rintro _ w1 ⟨rfl, AI⟩; have Ai := hide AI; clear AI)
 have Al := hide ((Ai.out.block _ (aE HX.out)).trans HX.out)
 have Af := hide (TR.go Ai.out AA.out)
 have Ak := hide (Ints.go Ai.out HF.out)
 have Ad := hide (HB.out.trans (Ai.out.mono HB.out.size))
 have AM := hide ((HL.out.keep (w' := w1) fun g hg => Ad.out.block g hg).up Ad.out.size)
 clear CW HX AA HF HB Ai
 obtain ⟨-, c0, c1, c2, c3⟩ := Bt.of Al.out
 by_cases hf : aY T F = 0
 · have CC := hide (my (lc := lc) Af.out Ak.out hf AM.out)
   have HP := hide (ns hf)
   obtain ⟨n, hn⟩ : ∃ n, T.lits.toNat = n := ⟨_, rfl⟩
   have HN := hide hn
   rw [hn] at CC HP
   obtain ⟨⟨e1, p1⟩, Ao⟩ : ∃ z, chkM T F n (fun _ => 0) l = z := ⟨_, rfl⟩
   rw [Ao] at CC
   have AG := hide Ao
   clear Ao hn
   simp only at CC
   by_cases he : e1 = 0
   · subst he
     have AB : ((0 : Int) != 0) = false := by decide
     have CS := hide (fun X (hX : Below w1.heap.size w1 X) => vk (TR.go hX Af.out) (Ints.go hX Ak.out) hf)
     rw [HN.out] at CS
     clear hf
     go_upto_region 6 with (go_at_call 23; refine CC.out.mono ?_; rintro _ w2 ⟨rfl, Ac⟩; have Ag := hide Ac; clear Ac)
     have Ax := hide ((Ag.out.block _ (aE Al.out)).trans Al.out)
     clear c0 c1 c2 c3 CC Al
     obtain ⟨-, c0, c1, c2, c3⟩ := Bt.of Ax.out
     have AH := hide (CS.out w2 Ag.out)
     go_upto_region 9 with (go_at_call 27; refine AH.out.mono ?_; rintro _ w3 ⟨v, m, i, rfl, Am, Ar, Av⟩; have HS := hide Am; have HO := hide Ar; have AL := hide (Ag.out.trans (Av.mono Ag.out.size)); clear Am Ar Av)
     clear c0 c1 c2 c3 CS AH Ax Ag
     obtain ⟨va, vc, rfl⟩ := bf HO.out
     have AN := hide (dV HO.out)
     have AJ : Hid (∀ s ∈ l, bU s.lit n = true ∧ aw s.tag ∧ hs m s.lit s.tag = true) := hide (by
      have := AG.out
      unfold chkM at this
      split at this
      · cases this
      · exact pv HP.out HS.out (i := 0) sub_zero (by rw [this]))
     have AP : Hid (m.length = n) := hide (rW HP.out HS.out)
     have AT := HP.out.n4
     have Aj := hide (Ad.out.trans (AL.out.mono Ad.out.size))
     have AU : Hid (∀ g, Value.ownBlock (.slice va n vc) = some g → g < w3.heap.size) := hide fun g e => ax HO.out e
     clear AG HS Af Ak HO
     go_wp2_with fail
     go_loopw [11] (fun x wr => ∃ k : Nat, k ≤ l.length ∧ x = .int .i64 k ∧ Hid (Below w3.heap.size w3 wr)) (fun x _ => l.length - (intOf x).toNat)
     case atStart => exact ⟨0, by omega, rfl, hide (Below.refl _ _)⟩
     case round =>
      obtain ⟨k, hk, rfl, Ae⟩ := hrel
      by_cases hlt : k < l.length
      · obtain ⟨s, hs⟩ := am hlt
        obtain ⟨Az, Aw, Ah⟩ := AJ.out s (List.mem_of_getElem? hs)
        have AC := HL.out.keep (w' := wr) fun g hg => (Ae.out.block g (by have := Aj.out.size; omega)).trans (Aj.out.block g hg)
        obtain ⟨g, og, ca, cc, rfl, AW, d0, d1, d2, d3, d4, -, -, -, -⟩ := AC k s hs
        obtain ⟨Ay, AD⟩ := eN Az
        obtain ⟨q, hq⟩ := Int.eq_ofNat_of_zero_le Ay
        rw [hq] at d1 Ah AD
        have AQ : q < n := by omega
        obtain ⟨xm, Au⟩ := am (l := m) (i := q) (by rw [AP.out]; exact AQ)
        obtain ⟨gm, om, rfl, As⟩ := AN.out q (.int .u8 xm) (by unfold dJ; rw [List.getElem?_map, Au]; rfl)
        have Aa : hb xm s.tag = true := by
         have : m.getD q 0 = xm := by rw [List.getD_eq_getElem?_getD, Au]; rfl
         unfold YtmlhcncagdfjfaaGreat.hs at Ah
         rw [Int.toNat_natCast, this] at Ah
         exact Ah
        have hA := ae wr (.cells #[.int .i64 s.tag, .int .i64 q, .int .i64 s.how, .int .i64 s.rule, .slice ca s.ch.length cc] 32)
        have hQ : Fx wr.heap.size 32 [.int .i64 s.tag, .int .i64 q, .int .i64 s.how, .int .i64 s.rule, .slice ca s.ch.length cc] (wr.alloc (.cells #[.int .i64 s.tag, .int .i64 q, .int .i64 s.how, .int .i64 s.rule, .slice ca s.ch.length cc] 32)) := heap_alloc_new wr _
        have AO : gm < w3.heap.size := World.block_lt_of_cell? w3 _ As
        have AK : (wr.alloc (.cells #[.int .i64 s.tag, .int .i64 q, .int .i64 s.how, .int .i64 s.rule, .slice ca s.ch.length cc] 32)).cell? ⟨gm, om + q, none⟩ = some (.int .u8 xm) := (World.cell?_of_block ((hA.block gm (by have := Ae.out.size; omega)).trans (Ae.out.block gm AO))).trans As
        have Ab := hide (Ae.out.trans (hA.mono Ae.out.size))
        have HQ := hide hQ
        obtain ⟨tg, AF⟩ : ∃ z, s.tag = z := ⟨_, rfl⟩
        rw [AF] at d0 Aw Aa AK Ab HQ
        clear hs Az Ay hq AD Au As Ah hA hQ AF AC
        go_upto_region 13 with fail
        clear d0 d1 d2 d3 d4
        generalize wr.alloc (.cells #[.int .i64 tg, .int .i64 q, .int .i64 s.how, .int .i64 s.rule, .slice ca s.ch.length cc] 32) = w4 at *
        obtain ⟨b4, AE⟩ : ∃ b, wr.heap.size = b := ⟨_, rfl⟩
        rw [AE] at HQ ⊢
        clear AE
        have k0 := HQ.out.get (i := 0) rfl
        have k1 := HQ.out.get (i := 1) rfl
        have AS : decide ((q : Int) < 0) = false := decide_eq_false (by omega)
        have AV : decide ((n : Int) ≤ (q : Int)) = false := decide_eq_false (by omega)
        clear HQ
        rcases Aw with ht | ht | ht | ht
        · rw [ht] at k0 Aa
          have hz : (bits .and .u8 xm 1 == 0) = false := by unfold hb bitM at Aa; simpa using Aa
          have An : IntKind.i64.wrap ((1 : Int) - 1) = 0 := by decide
          have Aq : IntKind.i64.wrap (0 : Int) = 0 := by decide
          have At : Op.shift .shl .u8 1 .i64 0 = pure (.int .u8 1) := by rw [shift_shl .u8 .i64 1 0 (by decide) (by decide)]; rfl
          clear Aa ht
          go_quiet (fail)
          go_wp2_with fail
          go_roundw
          case rel => exact ⟨k + 1, by omega, by go_num, hide (Ab.out.trans ((ah w4 _).mono Ab.out.size))⟩
          case measure => simp [intOf]; omega
        · rw [ht] at k0 Aa
          have hz : (bits .and .u8 xm 2 == 0) = false := by unfold hb bitM at Aa; simpa using Aa
          have An : IntKind.i64.wrap ((2 : Int) - 1) = 1 := by decide
          have Aq : IntKind.i64.wrap (1 : Int) = 1 := by decide
          have At : Op.shift .shl .u8 1 .i64 1 = pure (.int .u8 2) := by rw [shift_shl .u8 .i64 1 1 (by decide) (by decide)]; rfl
          clear Aa ht
          go_quiet (fail)
          go_wp2_with fail
          go_roundw
          case rel => exact ⟨k + 1, by omega, by go_num, hide (Ab.out.trans ((ah w4 _).mono Ab.out.size))⟩
          case measure => simp [intOf]; omega
        · rw [ht] at k0 Aa
          have hz : (bits .and .u8 xm 4 == 0) = false := by unfold hb bitM at Aa; simpa using Aa
          have An : IntKind.i64.wrap ((3 : Int) - 1) = 2 := by decide
          have Aq : IntKind.i64.wrap (2 : Int) = 2 := by decide
          have At : Op.shift .shl .u8 1 .i64 2 = pure (.int .u8 4) := by rw [shift_shl .u8 .i64 1 2 (by decide) (by decide)]; rfl
          clear Aa ht
          go_quiet (fail)
          go_wp2_with fail
          go_roundw
          case rel => exact ⟨k + 1, by omega, by go_num, hide (Ab.out.trans ((ah w4 _).mono Ab.out.size))⟩
          case measure => simp [intOf]; omega
        · rw [ht] at k0 Aa
          have hz : (bits .and .u8 xm 8 == 0) = false := by unfold hb bitM at Aa; simpa using Aa
          have An : IntKind.i64.wrap ((4 : Int) - 1) = 3 := by decide
          have Aq : IntKind.i64.wrap (3 : Int) = 3 := by decide
          have At : Op.shift .shl .u8 1 .i64 3 = pure (.int .u8 8) := by rw [shift_shl .u8 .i64 1 3 (by decide) (by decide)]; rfl
          clear Aa ht
          go_quiet (fail)
          go_wp2_with fail
          go_roundw
          case rel => exact ⟨k + 1, by omega, by go_num, hide (Ab.out.trans ((ah w4 _).mono Ab.out.size))⟩
          case measure => simp [intOf]; omega
      · go_wp2_with fail
        go_ret
        exact ⟨rfl, Aj.out.trans (Ae.out.mono Aj.out.size)⟩
   · have AB : (e1 != 0) = true := by simpa using he
     go_wp2_with (go_at_call 23; refine CC.out.mono ?_; rintro _ w2 ⟨rfl, Ac⟩; have Ap := hide (Ad.out.trans (Ac.mono Ad.out.size)); clear Ac CC)
     go_ret
     exact ⟨rfl, Ap.out⟩
 · have CC := hide (uD Af.out Ak.out hf (.slice la l.length lc))
   have AB : (aY T F != 0) = true := by simpa using hf
   go_wp2_with (go_at_call 23; refine CC.out.mono ?_; rintro _ w2 ⟨rfl, Ac⟩; have Ap := hide (Ad.out.trans (Ac.mono Ad.out.size)); clear Ac CC)
   go_ret
   exact ⟨rfl, Ap.out⟩
end Go.Proofs.YtmlhcncagdfjfaaGreat.De
