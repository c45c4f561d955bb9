import Derived.Test.YtmlhcncagdfjfaaGreatSoB
import Derived.Test.YtmlhcncagdfjfaaGreatWkD
import Derived.Test.YtmlhcncagdfjfaaGreatSlx
set_option maxRecDepth 100000
set_option maxHeartbeats 25600000
namespace Go.Proofs.YtmlhcncagdfjfaaGreat.De
open Go.RowKit Fa
theorem sound_law {w : World} {T : Th} {F : List Int} {fa ra ba ea la : Option Addr} {fc rc bc ec lc : Nat} {l : List StM} (h : TA w.heap.size w T fa fc ra rc ba bc) (hF : Ints w.heap.size w F (.slice ea F.length ec)) (hl : Sts w.heap.size w l la) (hll : l.length ≤ 140737488351232) :
    Calls Tryz.prog 6 #[tv T fa fc ra rc ba bc, .slice ea F.length ec, .slice la l.length lc] w fun e w' => e = .returned (.bool true) ∧ Below w.heap.size w w' := by
 have AR : Tryz.prog.follows .mixedOrders = true := by kernel_rfl
 have hB := ae w (.cells #[.int .i64 T.lits, .slice fa T.foes.length fc, .slice ra T.rules.length rc, .slice ba T.beats.length bc] 25)
 have hX := heap_alloc_new w (.cells #[.int .i64 T.lits, .slice fa T.foes.length fc, .slice ra T.rules.length rc, .slice ba T.beats.length bc] 25)
 have AB := hide (TR.go hB h)
 have HF := hide (Ints.go hB hF)
 have HL := hide hl
 have HB := hide hB
 have HX := hide hX
 have CW := hide tU
 clear h hF hl hB
 go_enter Tryz.func6, Tryz.ntmps6
 go_upto_region 1 with fail
 generalize w.alloc (.cells #[.int .i64 T.lits, .slice fa T.foes.length fc, .slice ra T.rules.length rc, .slice ba T.beats.length bc] 25) = W at *
 clear hX
 go_upto_region 3 with (go_at_call 22; refine (CW.out _).mono ?_; rintro _ w1 ⟨rfl, Ay⟩; have Ag := hide Ay; clear Ay)
 have Aj := hide ((Ag.out.block _ (aD HX.out)).trans HX.out)
 have Af := hide (TR.go Ag.out AB.out)
 have Al := hide (Ints.go Ag.out HF.out)
 have Ad := hide (HB.out.trans (Ag.out.mono HB.out.size))
 have AL := hide ((HL.out.keep (w' := w1) fun g hg => Ad.out.block g hg).up Ad.out.size)
 clear CW HX AB HF HB Ag
 obtain ⟨-, c0, c1, c2, c3⟩ := Bt.of Aj.out
 by_cases hf : aX T F = 0
 ·have CC := hide (mu (lc := lc) Af.out Al.out hf AL.out)
  have HP := hide (nt hf)
  obtain ⟨n, hn⟩ : ∃ n, T.lits.toNat = n := ⟨_, rfl⟩
  have HN := hide hn
  rw [hn] at CC HP
  obtain ⟨⟨e1, p1⟩, Am⟩ : ∃ z, chkM T F n (fun _ => 0) l = z := ⟨_, rfl⟩
  rw [Am] at CC
  have AG := hide Am
  clear Am hn
  simp only at CC
  by_cases he : e1 = 0
  ·subst he
   have Ax : ((0 : Int) != 0) = false := by decide
   have CS := hide (fun X (hX : Below w1.heap.size w1 X) => vv (TR.go hX Af.out) (Ints.go hX Al.out) hf)
   rw [HN.out] at CS
   clear hf
   go_upto_region 6 with (go_at_call 23; refine CC.out.mono ?_; rintro _ w2 ⟨rfl, Ac⟩; have Ai := hide Ac; clear Ac)
   have AE := hide ((Ai.out.block _ (aD Aj.out)).trans Aj.out)
   clear c0 c1 c2 c3 CC Aj
   obtain ⟨-, c0, c1, c2, c3⟩ := Bt.of AE.out
   have Av := hide (CS.out w2 Ai.out)
   go_upto_region 9 with (go_at_call 27; refine Av.out.mono ?_; rintro _ w3 ⟨v, m, i, rfl, Ao, Aq, AC⟩; have HS := hide Ao; have HO := hide Aq; have AM := hide (Ai.out.trans (AC.mono Ai.out.size)); clear Ao Aq AC)
   clear c0 c1 c2 c3 CS Av AE Ai
   obtain ⟨va, vc, rfl⟩ := bf HO.out
   have AK := hide (dW HO.out)
   have AJ : Hid (∀ s ∈ l, bU s.lit n = true ∧ aw s.tag ∧ hs m s.lit s.tag = true) := hide (by
    have := AG.out
    unfold chkM at this
    split at this
    ·cases this
    exact o7 HP.out HS.out (i := 0) sub_zero (by rw [this]))
   have AP : Hid (m.length = n) := hide (rV HP.out HS.out)
   have AV := HP.out.n4
   have Ak := hide (Ad.out.trans (AM.out.mono Ad.out.size))
   have AT : Hid (∀ g, Value.ownBlock (.slice va n vc) = some g → g < w3.heap.size) := hide fun g e => ax HO.out e
   clear AG HS Af Al HO
   go_wp2_with fail
   go_loopw [11] (fun x wr => ∃ k : Nat, k ≤ l.length ∧ x = .int .i64 k ∧ Hid (Below w3.heap.size w3 wr)) (fun x _ => l.length - (intOf x).toNat)
   case atStart => exact ⟨0, by omega, rfl, hide (Below.refl _ _)⟩
   obtain ⟨k, hk, rfl, Ae⟩ := hrel
   by_cases hlt : k < l.length
   ·obtain ⟨s, hs⟩ := am hlt
    obtain ⟨Aw, AD, Ah⟩ := AJ.out s (List.mem_of_getElem? hs)
    have Az := HL.out.keep (w' := wr) fun g hg => (Ae.out.block g (by have := Ak.out.size; omega)).trans (Ak.out.block g hg)
    obtain ⟨g, og, ca, cc, rfl, AW, d0, d1, d2, d3, d4, -, -, -, -⟩ := Az k s hs
    obtain ⟨AA, AF⟩ := eV Aw
    obtain ⟨q, hq⟩ := Int.eq_ofNat_of_zero_le AA
    rw [hq] at d1 Ah AF
    have AQ : q < n := by omega
    obtain ⟨xm, As⟩ := am (l := m) (i := q) (by rw [AP.out]; exact AQ)
    obtain ⟨gm, om, rfl, Au⟩ := AK.out q (.int .u8 xm) (by unfold dJ; rw [List.getElem?_map, As]; rfl)
    have Aa : hb xm s.tag = true := by
     have : m.getD q 0 = xm := by rw [List.getD_eq_getElem?_getD, As]; rfl
     unfold YtmlhcncagdfjfaaGreat.hs at Ah
     rw [Int.toNat_natCast, this] at Ah
     exact Ah
    have hA := ae wr (.cells #[.int .i64 s.tag, .int .i64 q, .int .i64 s.how, .int .i64 s.rule, .slice ca s.ch.length cc] 32)
    have hQ : Fx wr.heap.size 32 [.int .i64 s.tag, .int .i64 q, .int .i64 s.how, .int .i64 s.rule, .slice ca s.ch.length cc] (wr.alloc (.cells #[.int .i64 s.tag, .int .i64 q, .int .i64 s.how, .int .i64 s.rule, .slice ca s.ch.length cc] 32)) := heap_alloc_new wr _
    have AN : gm < w3.heap.size := World.block_lt_of_cell? w3 _ Au
    have AO : (wr.alloc (.cells #[.int .i64 s.tag, .int .i64 q, .int .i64 s.how, .int .i64 s.rule, .slice ca s.ch.length cc] 32)).cell? ⟨gm, om + q, none⟩ = some (.int .u8 xm) := (World.cell?_of_block ((hA.block gm (by have := Ae.out.size; omega)).trans (Ae.out.block gm AN))).trans Au
    have Ab := hide (Ae.out.trans (hA.mono Ae.out.size))
    have HQ := hide hQ
    obtain ⟨tg, AH⟩ : ∃ z, s.tag = z := ⟨_, rfl⟩
    rw [AH] at d0 AD Aa AO Ab HQ
    clear hs Aw AA hq AF As Au Ah hA hQ AH Az
    go_upto_region 13 with fail
    clear d0 d1 d2 d3 d4
    generalize wr.alloc (.cells #[.int .i64 tg, .int .i64 q, .int .i64 s.how, .int .i64 s.rule, .slice ca s.ch.length cc] 32) = w4 at *
    obtain ⟨b4, AI⟩ : ∃ b, wr.heap.size = b := ⟨_, rfl⟩
    rw [AI] at HQ ⊢
    clear AI
    have k0 := HQ.out.get (i := 0) rfl
    have k1 := HQ.out.get (i := 1) rfl
    have AU : decide ((q : Int) < 0) = false := decide_eq_false (by omega)
    have AS : decide ((n : Int) ≤ (q : Int)) = false := decide_eq_false (by omega)
    clear HQ
    rcases AD with ht | ht | ht | ht
    ·rw [ht] at k0 Aa
     have hz : (bits .and .u8 xm 1 == 0) = false := by unfold hb bitM at Aa; simpa using Aa
     have At : IntKind.i64.wrap ((1 : Int) - 1) = 0 := by decide
     have Ap : IntKind.i64.wrap (0 : Int) = 0 := by decide
     have An : Op.shift .shl .u8 1 .i64 0 = pure (.int .u8 1) := by rw [shift_shl .u8 .i64 1 0 (by decide) (by decide)]; rfl
     clear Aa ht
     go_quiet (fail)
     go_wp2_with fail
     go_roundw
     case rel => exact ⟨k + 1, by omega, by go_num, hide (Ab.out.trans ((ah w4 _).mono Ab.out.size))⟩
     case measure => simp [intOf]; omega
    ·rw [ht] at k0 Aa
     have hz : (bits .and .u8 xm 2 == 0) = false := by unfold hb bitM at Aa; simpa using Aa
     have At : IntKind.i64.wrap ((2 : Int) - 1) = 1 := by decide
     have Ap : IntKind.i64.wrap (1 : Int) = 1 := by decide
     have An : Op.shift .shl .u8 1 .i64 1 = pure (.int .u8 2) := by rw [shift_shl .u8 .i64 1 1 (by decide) (by decide)]; rfl
     clear Aa ht
     go_quiet (fail)
     go_wp2_with fail
     go_roundw
     case rel => exact ⟨k + 1, by omega, by go_num, hide (Ab.out.trans ((ah w4 _).mono Ab.out.size))⟩
     case measure => simp [intOf]; omega
    ·rw [ht] at k0 Aa
     have hz : (bits .and .u8 xm 4 == 0) = false := by unfold hb bitM at Aa; simpa using Aa
     have At : IntKind.i64.wrap ((3 : Int) - 1) = 2 := by decide
     have Ap : IntKind.i64.wrap (2 : Int) = 2 := by decide
     have An : Op.shift .shl .u8 1 .i64 2 = pure (.int .u8 4) := by rw [shift_shl .u8 .i64 1 2 (by decide) (by decide)]; rfl
     clear Aa ht
     go_quiet (fail)
     go_wp2_with fail
     go_roundw
     case rel => exact ⟨k + 1, by omega, by go_num, hide (Ab.out.trans ((ah w4 _).mono Ab.out.size))⟩
     case measure => simp [intOf]; omega
    rw [ht] at k0 Aa
    have hz : (bits .and .u8 xm 8 == 0) = false := by unfold hb bitM at Aa; simpa using Aa
    have At : IntKind.i64.wrap ((4 : Int) - 1) = 3 := by decide
    have Ap : IntKind.i64.wrap (3 : Int) = 3 := by decide
    have An : Op.shift .shl .u8 1 .i64 3 = pure (.int .u8 8) := by rw [shift_shl .u8 .i64 1 3 (by decide) (by decide)]; rfl
    clear Aa ht
    go_quiet (fail)
    go_wp2_with fail
    go_roundw
    case rel => exact ⟨k + 1, by omega, by go_num, hide (Ab.out.trans ((ah w4 _).mono Ab.out.size))⟩
    case measure => simp [intOf]; omega
   go_wp2_with fail
   go_ret
   exact ⟨rfl, Ak.out.trans (Ae.out.mono Ak.out.size)⟩
  have Ax : (e1 != 0) = true := by simpa using he
  go_wp2_with (go_at_call 23; refine CC.out.mono ?_; rintro _ w2 ⟨rfl, Ac⟩; have Ar := hide (Ad.out.trans (Ac.mono Ad.out.size)); clear Ac CC)
  go_ret
  exact ⟨rfl, Ar.out⟩
 have CC := hide (tN Af.out Al.out hf (.slice la l.length lc))
 have Ax : (aX T F != 0) = true := by simpa using hf
 go_wp2_with (go_at_call 23; refine CC.out.mono ?_; rintro _ w2 ⟨rfl, Ac⟩; have Ar := hide (Ad.out.trans (Ac.mono Ad.out.size)); clear Ac CC)
 go_ret
 exact ⟨rfl, Ar.out⟩
end Go.Proofs.YtmlhcncagdfjfaaGreat.De
