/- StrictMore walked. -/
import Derived.Test.YtdholifacnnjcaaOks
namespace Go.Proofs.Ytdholifacnnjcaa
open Go.RowKit

theorem place (x : Int) (len : Nat) (h0 : 0 < len) : ∃ (q : Int) (i : Nat), x.tmod len = q ∧ -(len : Int) < q ∧ q < len ∧ (q + len).tmod len = i ∧ i < len := by
  have b1 := Int.tmod_lt_of_pos x (show (0 : Int) < len by omega)
  have b2 : -(len : Int) < x.tmod len := by
    have e := Int.neg_tmod (-x) (len : Int)
    rw [Int.neg_neg] at e
    have := Int.tmod_lt_of_pos (-x) (show (0 : Int) < len by omega)
    omega
  refine ⟨x.tmod len, ((x.tmod len + len).tmod len).toNat, rfl, b2, b1, ?_, ?_⟩
  · have := Int.tmod_nonneg (len : Int) (show 0 ≤ x.tmod len + len by omega)
    omega
  · have := Int.tmod_nonneg (len : Int) (show 0 ≤ x.tmod len + len by omega)
    have := Int.tmod_lt_of_pos (x.tmod len + len) (show (0 : Int) < len by omega)
    omega
/-- The places that are marked, of the first k. -/
def mkL (R : List Bool) (k : Nat) : List Int := ((List.range k).filter fun z => R.getD z false).map Int.ofNat
theorem mkL_succ {R : List Bool} {k : Nat} : mkL R (k + 1) = if R.getD k false then mkL R k ++ [(k : Int)] else mkL R k := by
  unfold mkL
  rw [List.range_succ, List.filter_append, List.map_append]
  cases h : R.getD k false with
  | true => rw [if_pos rfl, List.filter_cons_of_pos (p := fun z => R.getD z false) h]; rfl
  | false => rw [if_neg (by decide), List.filter_cons_of_neg (p := fun z => R.getD z false) (by rw [h]; decide)]; simp
theorem mkL_len {R : List Bool} {k : Nat} : (mkL R k).length ≤ k := by
  unfold mkL
  rw [List.length_map]
  exact Nat.le_trans (List.length_filter_le _ _) (by simp)
theorem mkL_ok {R : List Bool} {k : Nat} : (∀ x ∈ mkL R k, 0 ≤ x ∧ x < (k : Int)) ∧ (mkL R k).Pairwise (· < ·) ∧ ∀ z : Nat, z < k → ((z : Int) ∈ mkL R k ↔ R.getD z false = true) := by
  unfold mkL
  refine ⟨fun x hx => ?_, ?_, fun z hz => ?_⟩
  · obtain ⟨a, ha, rfl⟩ := List.mem_map.1 hx
    have := List.mem_range.1 (List.mem_filter.1 ha).1
    exact ⟨Int.natCast_nonneg _, by show (a : Int) < _; omega⟩
  · rw [List.pairwise_map]
    exact List.Pairwise.imp (fun {a b} (h : a < b) => by show (a : Int) < (b : Int); omega) (List.Pairwise.filter _ List.pairwise_lt_range)
  · constructor
    · intro h
      obtain ⟨a, ha, e⟩ := List.mem_map.1 h
      have : a = z := Int.ofNat.inj e
      subst this
      exact (List.mem_filter.1 ha).2
    · intro h
      exact List.mem_map.2 ⟨z, List.mem_filter.2 ⟨List.mem_range.2 hz, h⟩, rfl⟩
theorem rises_of {b : Int} : ∀ {l : List Int} {p : Int}, (∀ x ∈ l, p < x ∧ x < b) → l.Pairwise (· < ·) → risesF b p l = true
  | [], _, _, _ => rfl
  | y :: l, p, h, hp => by
    obtain ⟨h1, h2⟩ := List.pairwise_cons.1 hp
    have hy := h y (by simp)
    unfold risesF
    rw [if_neg (by omega)]
    exact rises_of (fun x hx => ⟨h1 x hx, (h x (List.mem_cons_of_mem _ hx)).2⟩) h2
theorem fault_more {T : Th} {F G : List Int} (h : faultM T F = 0) (hg : ∀ x ∈ G, 0 ≤ x ∧ x < (T.lits.toNat : Int)) (hp : G.Pairwise (· < ·)) : faultM T G = 0 := by
  obtain ⟨-, -, hn, -⟩ := fault_ok h
  have hc : (checkM T).1 = 0 := by
    unfold faultM at h
    by_cases hc : (checkM T).1 ≠ 0
    · rw [if_pos hc] at h; exact absurd h hc
    · exact Classical.not_not.1 hc
  have hr : risesM G T.lits = true := rises_of (fun x hx => by have := hg x hx; omega) hp
  unfold faultM
  rw [if_neg (by rw [hc]; decide), hr]
  rfl
theorem ints_at1 {N : Nat} {w : World} {l : List Int} {a : Option Addr} {c b : Nat} (h : w.ownsRow b 3 1 (.slice a l.length c) l.length (ints l)) (hN : w.heap.size ≤ N) (hl : l.length ≤ 140737488351232) : Ints N w l (.slice a l.length c) := by
  have h1 := owns_at1 h
  have hc : l.length ≤ c := by
    rcases h.2 with ⟨e, h0⟩ | ⟨g, cap, cur, e, _, _, hcap, _⟩
    · omega
    · have := (Value.slice.inj e).2; omega
  refine ⟨a, c, rfl, hc, hl, fun i x hi => ?_⟩
  obtain ⟨g, o, e, hcell⟩ := h1 i (.int .i64 x) (by unfold ints; rw [List.getElem?_map, hi]; rfl)
  refine ⟨g, o, [.int .i64 x], e, Nat.lt_of_lt_of_le (World.block_lt_of_cell? w _ hcell) hN, rfl, fun j u hu => ?_, rfl⟩
  match j, hu with
  | 0, hu => simp at hu; subst hu; rw [Nat.mul_one]; exact hcell
set_option maxRecDepth 100000 in
set_option maxHeartbeats 25600000 in
theorem more_walk {w : World} {T : Th} {F : List Int} {fa ra ba ea : Option Addr} {fc rc bc ec : Nat} {z2 : Int} (h : TA w.heap.size w T fa fc ra rc ba bc) (hF : Ints w.heap.size w F (.slice ea F.length ec)) :
    Calls Try.prog 4 #[tv T fa fc ra rc ba bc, .slice ea F.length ec, .int .i64 z2] w fun e w' => e = .returned (.bool true) ∧ Below w.heap.size w w' := by
  obtain ⟨iB, hiB, zB0, zB1, zB2⟩ := info_parts infoBo
  obtain ⟨iI, hiI, zI0, zI1, zI2⟩ := info_parts infoI
  have HL0 := hide h
  have hFlim := hF.lim
  have hB := below_new w (.cells #[.int .i64 T.lits, .slice fa T.foes.length fc, .slice ra T.rules.length rc, .slice ba T.beats.length bc] 25)
  have hX := heap_alloc_new w (.cells #[.int .i64 T.lits, .slice fa T.foes.length fc, .slice ra T.rules.length rc, .slice ba T.beats.length bc] 25)
  have HLz : Hid (∀ X, Below (w.alloc (.cells #[.int .i64 T.lits, .slice fa T.foes.length fc, .slice ra T.rules.length rc, .slice ba T.beats.length bc] 25)).heap.size (w.alloc (.cells #[.int .i64 T.lits, .slice fa T.foes.length fc, .slice ra T.rules.length rc, .slice ba T.beats.length bc] 25)) X → TA X.heap.size X T fa fc ra rc ba bc) := hide fun X hX => TR.go hX (TR.go hB h)
  have HFz : Hid (∀ X, Below (w.alloc (.cells #[.int .i64 T.lits, .slice fa T.foes.length fc, .slice ra T.rules.length rc, .slice ba T.beats.length bc] 25)).heap.size (w.alloc (.cells #[.int .i64 T.lits, .slice fa T.foes.length fc, .slice ra T.rules.length rc, .slice ba T.beats.length bc] 25)) X → Ints X.heap.size X F (.slice ea F.length ec)) := hide fun X hX => Ints.go hX (Ints.go hB hF)
  have HXz : Hid (∀ X, Below (w.alloc (.cells #[.int .i64 T.lits, .slice fa T.foes.length fc, .slice ra T.rules.length rc, .slice ba T.beats.length bc] 25)).heap.size (w.alloc (.cells #[.int .i64 T.lits, .slice fa T.foes.length fc, .slice ra T.rules.length rc, .slice ba T.beats.length bc] 25)) X → X.heap[w.heap.size]? = some (.cells #[.int .i64 T.lits, .slice fa T.foes.length fc, .slice ra T.rules.length rc, .slice ba T.beats.length bc] 25 (0, 0))) := hide fun X hb => (hb.block _ (loc_lt hX)).trans hX
  have HB := hide hB
  obtain ⟨e0, he⟩ : ∃ a, faultM T F = a := ⟨_, rfl⟩
  have HE := hide he
  clear h hF hB hX he
  have CW := hide works_any
  go_enter Try.func4, Try.ntmps4
  go_upto_region 1 with fail
  generalize w.alloc (.cells #[.int .i64 T.lits, .slice fa T.foes.length fc, .slice ra T.rules.length rc, .slice ba T.beats.length bc] 25) = W at *
  go_upto_region 3 with (go_at_call 7; refine (CW.out _).mono ?_; rintro _ w1 ⟨rfl, hw1⟩; have HW1 := hide hw1; clear hw1)
  obtain ⟨-, c0, c1, c2, c3⟩ := Bt.of (HXz.out _ HW1.out)
  by_cases ha : e0 = 0
  · subst ha
    obtain ⟨-, hnm, hn, hn4, hrl, hbl, hfp⟩ := fault_ok HE.out
    obtain ⟨n, hnn⟩ : ∃ n, T.lits.toNat = n := ⟨_, rfl⟩
    rw [hnn] at hnm hn hn4
    have HN := hide hnn
    have HN2 := hide hn
    have HNM := hide hnm
    have HFP := hide hfp
    have HSL : Hid (∀ G, (sgM T G).length = n) := hide fun G => by rw [sgM_len, hnn]
    have HAT : Hid (∀ (G : List Int) (q : Nat), q < n → ((sgM T G).getD q 0 = 1 ↔ PD T G q) ∧ ((sgM T G).getD q 0 = 2 ↔ MD T G q)) := hide fun G q hq => ⟨(sgM_at (by rw [hnn]; exact hq)).1, (sgM_at (by rw [hnn]; exact hq)).2.1⟩
    have CP := hide (plus_ok (HLz.out _ HW1.out) (HFz.out _ HW1.out) HE.out)
    have CM0 : Hid (∀ X, Below W.heap.size W X → Calls Try.prog 9 #[tv T fa fc ra rc ba bc, .slice ea F.length ec] X fun e w' => ∃ xa xc, e = .returned (.tuple #[.slice xa (selM (sgM T F) 2).length xc, .int .i64 0]) ∧ At1 w' xa (ints (selM (sgM T F) 2)) ∧ Below X.heap.size X w') := hide fun X hX => minus_ok (HLz.out _ hX) (HFz.out _ hX) HE.out
    have HSP := hide (selM_in (sg := sgM T F) (i := 1))
    have HSM := hide (selM_in (sg := sgM T F) (i := 2))
    rw [HSL.out F] at HSP HSM
    have hl1 := Nat.le_trans (selM_len (sg := sgM T F) (i := 1)) (by rw [HSL.out F]; exact hn4 : (sgM T F).length ≤ 4096)
    have hl2 := Nat.le_trans (selM_len (sg := sgM T F) (i := 2)) (by rw [HSL.out F]; exact hn4 : (sgM T F).length ≤ 4096)
    generalize selM (sgM T F) 1 = SP at *
    generalize selM (sgM T F) 2 = SM at *
    clear hnm hn hbl hnn hfp
    go_upto_region 4 with (go_at_call 8; refine CP.out.mono ?_; rintro _ w2 ⟨xa, xc, rfl, hat, hw2⟩; have HA1 := hide hat; have HW2 := hide (HW1.out.trans (hw2.mono HW1.out.size)); clear hat hw2)
    clear c0 c1 c2 c3 CP
    obtain ⟨-, c0, c1, c2, c3⟩ := Bt.of (HXz.out _ HW2.out)
    have CM := hide (CM0.out _ HW2.out)
    go_upto_region 5 with (go_at_call 9; refine CM.out.mono ?_; rintro _ w3 ⟨ya, yc, rfl, hat, hw3⟩; have HA2 := hide hat; have HW3 := hide (HW2.out.trans (hw3.mono HW2.out.size)); have HA1' := hide (HA1.out.below hw3); clear hat hw3)
    clear c0 c1 c2 c3 CM HA1
    obtain ⟨-, c0, c1, c2, c3⟩ := Bt.of (HXz.out _ HW3.out)
    rw [HN2.out] at c0
    by_cases hn0 : n = 0
    · have hn1 : ((n : Int) == 0) = true := by simpa using hn0
      have hn2 : (n == 0) = true := by simpa using hn0
      go_wp2_with fail
      go_ret
      exact ⟨rfl, HB.out.trans (HW3.out.mono HB.out.size)⟩
    · have hn1 : ((n : Int) == 0) = false := by simpa using hn0
      have hn2 : (n == 0) = false := by simpa using hn0
      obtain ⟨qa, qi, r1, r2, r3, r4, r5⟩ := place z2 n (by omega)
      have e1 : IntKind.i64.wrap qa = qa := by rw [IntKind.wrap_i64]; omega
      have e2 : IntKind.i64.wrap (qa + n) = qa + n := by rw [IntKind.wrap_i64]; omega
      have e3 : IntKind.i64.wrap (qi : Int) = qi := by rw [IntKind.wrap_i64]; omega
      have hni : ¬ (n : Int) = 0 := by omega
      go_upto_region 7 with fail
      go_quiet (fail)
      have HBq : Hid (Below W.heap.size W (w3.drewN nq)) := hide (HW3.out.trans ((below_drewN w3 nq).mono HW3.out.size))
      have HAa := hide (HA1'.out.below (below_drewN w3 nq))
      have HAb := hide (HA2.out.below (below_drewN w3 nq))
      clear HA1' HA2 c0 c1 c2 c3 r1 r2 r3 r4 e1 e2 e3 hni hn1 hn2
      generalize w3.drewN nq = B0 at *
      have HBW := hide HBq.out.size
      obtain ⟨-, c0, c1, c2, c3⟩ := Bt.of (HXz.out _ HBq.out)
      rw [HN2.out] at c0
      have CK := hide (marked_any (c := ec) (HFz.out _ HBq.out).at1 hn4 hFlim HNM.out.fact HFP.out)
      go_upto_region 9 with (go_at_call 11; refine CK.out.mono ?_; rintro _ w5 ⟨fr, Fm, rfl, hmk, hpf, hlo, hw5⟩; have HMF := hide hmk; have HFF := hide hpf; have HFL := hide hlo; have HB5 := hide hw5; clear hmk hpf hlo hw5)
      clear c0 c1 c2 c3 CK
      have cq := HFF.out.get (bool_at (R := Fm) (k := qi) (by rw [HMF.out.ln]; exact r5))
      have fq := HFF.out.frz qi
      have HF6 : Hid (Fx fr 4 (bools (Fm.set qi true)) (w5.setCell ⟨fr, qi, none⟩ (.bool true))) := hide (by rw [← bools_set]; exact HFF.out.set qi _)
      have HB6 := hide (HB5.out.setCell (p := ⟨fr, qi, none⟩) HFL.out (.bool true))
      have HML : Hid ((Fm.set qi true).length = n ∧ ∀ z : Nat, z < n → ((Fm.set qi true).getD z false = true ↔ ((z : Int) ∈ F ∨ z = qi))) := hide ⟨by rw [List.length_set]; exact HMF.out.ln, fun z hz => by
        rw [getD_set (by rw [HMF.out.ln]; exact r5)]
        by_cases e : z = qi
        · simp [e]
        · rw [if_neg e, HMF.out.at_ z hz]; simp [e]⟩
      go_upto_region 12 with fail
      generalize w5.setCell ⟨fr, qi, none⟩ (.bool true) = w6 at *
      generalize Fm.set qi true = R at *
      clear cq fq HFF HB5
      go_loopw [14, 15] (fun v x wr => ∃ (k : Nat) (va : Option Addr) (vc : Nat), k ≤ n ∧ v = .slice va (mkL R k).length vc ∧ x = .int .i64 k ∧ Hid (wr.ownsRow B0.heap.size 3 1 (.slice va (mkL R k).length vc) (mkL R k).length (ints (mkL R k))) ∧ Hid (Fx fr 4 (bools R) wr) ∧ Hid (Below B0.heap.size B0 wr)) (fun _ x _ => n - (intOf x).toNat)
      case atStart => exact ⟨0, none, 0, by omega, rfl, rfl, hide ⟨rfl, .inl ⟨rfl, rfl⟩⟩, HF6, HB6⟩
      case round =>
        clear HF6 HB6
        obtain ⟨k, va, vc, hk, rfl, rfl, HRO, HFR, HBr⟩ := hrel
        have HBWr : Hid (Below W.heap.size W wr) := hide (HBq.out.trans (HBr.out.mono HBq.out.size))
        obtain ⟨-, ct, -, -, -⟩ := Bt.of (HXz.out _ HBWr.out)
        rw [HN2.out] at ct
        by_cases hlt : k < n
        · have cs := HFR.out.get (bool_at (R := R) (k := k) (by rw [HML.out.1]; exact hlt))
          have hsk := mkL_len (R := R) (k := k)
          have HLT := hide hlt
          cases hs : R.getD k false with
          | true =>
            have HK2 : Hid (mkL R (k + 1) = mkL R k ++ [(k : Int)]) := hide (by rw [mkL_succ, if_pos hs])
            rw [hs] at cs
            clear hs
            generalize mkL R k = L at *
            generalize hLn : L.length = ln at *
            have HLn := hide hLn
            clear hLn
            go_upto_region 15 with fail
            have HROW : Hid ((wr.alloc (.cells #[.int .i64 k] 3)).ownsRow B0.heap.size 3 1 (.slice va ln vc) ln (ints L)) := hide (owns_keep HRO.out fun g hg => (below_new wr (.cells #[.int .i64 k] 3)).block g (owns_lt HRO.out hg))
            have hwr : B0.heap.size ≤ wr.heap.size := HBr.out.size
            go_wp2_with (at_builtin; go_must (refine wpList_append_two _ rfl _ _ 26 rfl B0.heap.size 3 iI _ 1 8 Try.underlying26 hiI zI0 zI1 zI2 rfl (by decide) _ _ (ints L) rfl HROW.out ⟨wr.heap.size, 0, none⟩ 1 [.int .i64 k] rfl rfl (cell_one_new _ _ _) (by intro u hu; simp at hu; subst hu; rfl) (by unfold maxLen; omega) (by omega) (by simp; omega) ?_); intro g4 cap4 w8 hown4 hg4; have HO4 := hide hown4; have HG4 := hide hg4; clear hown4 hg4)
            have HOR : Hid (∀ g, g < wr.heap.size → Value.ownBlock (.slice va ln vc) ≠ some g → w8.heap[g]? = wr.heap[g]?) := hide fun g hg hn => grown_old rfl (by rcases HG4.out with h | ⟨h1, h2⟩; exact .inl h; exact .inr ⟨by simpa using h1, h2⟩) hg hn
            have HS4 := hide (HFR.out.keep (HOR.out _ HFR.out.lt (own_fx HRO.out HFR.out (by decide))))
            have HB4 : Hid (Below B0.heap.size B0 w8) := hide (HBr.out.trans ((grown_fr (Z := fun k => B0.heap.size ≤ k) rfl (by rcases HG4.out with h | ⟨h1, h2⟩; exact .inl h; exact .inr ⟨by simpa using h1, h2⟩) fun g e => (HRO.out.lt g e).1).below fun k hk => ⟨by omega, by omega⟩))
            go_roundw
            case rel =>
              have e : (mkL R (k + 1)).length = ln + 1 := by rw [HK2.out, List.length_append, HLn.out]; rfl
              refine ⟨k + 1, some ⟨g4, 0, none⟩, cap4, by have := HLT.out; omega, by rw [e], by go_num, hide ?_, HS4, HB4⟩
              rw [e, HK2.out, ints_snoc]
              exact HO4.out
            case measure => have := HLT.out; simp [intOf]; omega
          | false =>
            have HK2 : Hid (mkL R (k + 1) = mkL R k) := hide (by rw [mkL_succ, if_neg (by rw [hs]; decide)])
            rw [hs] at cs
            clear hs
            generalize mkL R k = L at *
            generalize hLn : L.length = ln at *
            have HLn := hide hLn
            clear hLn
            go_wp2_with fail
            go_roundw
            case rel =>
              have e : (mkL R (k + 1)).length = ln := by rw [HK2.out, HLn.out]
              refine ⟨k + 1, va, vc, by have := HLT.out; omega, by rw [e], by go_num, hide ?_, HFR, HBr⟩
              rw [e, HK2.out]
              exact HRO.out
            case measure => have := HLT.out; simp [intOf]; omega
        · have hkn : n = k := by omega
          subst hkn
          have hml := mkL_len (R := R) (k := n)
          have HMK := hide (mkL_ok (R := R) (k := n))
          obtain ⟨G, hG⟩ : ∃ G, mkL R n = G := ⟨_, rfl⟩
          rw [hG] at HRO HMK hml
          have HGI : Hid (Ints wr.heap.size wr G (.slice va G.length vc)) := hide (ints_at1 HRO.out (Nat.le_refl _) (by omega))
          have HGF : Hid (∀ x : Int, x ∈ G ↔ (x ∈ F ∨ x = (qi : Int))) := hide (by
            intro x
            constructor
            · intro hx
              have h0 := HMK.out.1 x hx
              obtain ⟨a, rfl⟩ := Int.eq_ofNat_of_zero_le h0.1
              have h1 := (HML.out.2 a (by omega)).1 ((HMK.out.2.2 a (by omega)).1 hx)
              rcases h1 with h1 | h1
              · exact .inl h1
              · exact .inr (by omega)
            · intro hx
              have h0 : 0 ≤ x ∧ x < (n : Int) := by
                rcases hx with hx | hx
                · exact HNM.out.fact x hx
                · omega
              obtain ⟨a, rfl⟩ := Int.eq_ofNat_of_zero_le h0.1
              refine (HMK.out.2.2 a (by omega)).2 ((HML.out.2 a (by omega)).2 ?_)
              rcases hx with hx | hx
              · exact .inl hx
              · exact .inr (by omega))
          have HEG : Hid (faultM T G = 0) := hide (fault_more HE.out (by rw [HN.out]; exact HMK.out.1) HMK.out.2.1)
          have HGP : Hid ((selM (sgM T G) 1).length ≤ 4096 ∧ (selM (sgM T G) 2).length ≤ 4096) := hide ⟨Nat.le_trans selM_len (by rw [HSL.out G]; exact hn4), Nat.le_trans selM_len (by rw [HSL.out G]; exact hn4)⟩
          have HG1 := hide (selM_in (sg := sgM T G) (i := 1))
          have HG2 := hide (selM_in (sg := sgM T G) (i := 2))
          rw [HSL.out G] at HG1 HG2
          have CP := hide (plus_ok (HLz.out _ HBWr.out) HGI.out HEG.out)
          have CMz : Hid (∀ X, Below wr.heap.size wr X → Calls Try.prog 9 #[tv T fa fc ra rc ba bc, .slice va G.length vc] X fun e w' => ∃ xa xc, e = .returned (.tuple #[.slice xa (selM (sgM T G) 2).length xc, .int .i64 0]) ∧ At1 w' xa (ints (selM (sgM T G) 2)) ∧ Below X.heap.size X w') := hide fun X hX => minus_ok (HLz.out _ (HBWr.out.trans (hX.mono HBWr.out.size))) (Ints.go hX HGI.out) HEG.out
          have hgp1 := HGP.out.1
          have hgp2 := HGP.out.2
          generalize selM (sgM T G) 1 = GP at *
          generalize selM (sgM T G) 2 = GM at *
          clear hlt ct
          rw [hG]
          clear hG
          obtain ⟨-, c0, c1, c2, c3⟩ := Bt.of (HXz.out _ HBWr.out)
          rw [HN2.out] at c0
          have hNv : tv T fa fc ra rc ba bc = .agg #[.int .i64 (n : Int), .slice fa T.foes.length fc, .slice ra T.rules.length rc, .slice ba T.beats.length bc] := by unfold tv; rw [HN2.out]
          rw [hNv] at CP CMz
          clear hNv
          go_upto_region 17 with (go_at_call 8; refine CP.out.mono ?_; rintro _ v1 ⟨pa, pc, rfl, hat, hv1⟩; have HP1 := hide hat; have HV1 := hide hv1; clear hat hv1)
          clear c0 c1 c2 c3 CP
          obtain ⟨-, c0, c1, c2, c3⟩ := Bt.of (HXz.out _ (HBWr.out.trans (HV1.out.mono HBWr.out.size)))
          rw [HN2.out] at c0
          have CM := hide (CMz.out _ HV1.out)
          go_upto_region 18 with (go_at_call 9; refine CM.out.mono ?_; rintro _ v2 ⟨ma, mc, rfl, hat, hv2⟩; have HM2 := hide hat; have HP2 := hide (HP1.out.below hv2); have HV2 := hide (HV1.out.trans (hv2.mono HV1.out.size)); clear hat hv2)
          clear c0 c1 c2 c3 CM HP1
          have HWv := hide (HBWr.out.trans (HV2.out.mono HBWr.out.size))
          have HBv := hide (HBr.out.trans (HV2.out.mono HBr.out.size))
          obtain ⟨-, c0, c1, c2, c3⟩ := Bt.of (HXz.out _ HWv.out)
          rw [HN2.out] at c0
          have CK := hide (marked_any (c := pc) HP2.out hn4 (by omega) HG1.out.1 HG1.out.2.1)
          go_upto_region 21 with (go_at_call 11; refine CK.out.mono ?_; rintro _ v3 ⟨pr, P, rfl, hmk, hpf, -, hw5⟩; have HMP := hide hmk; have HPF := hide hpf; have HV3 := hide hw5; clear hmk hpf hw5)
          clear c0 c1 c2 c3 CK
          have HWv3 := hide (HWv.out.trans (HV3.out.mono HWv.out.size))
          have HBv3 := hide (HBv.out.trans (HV3.out.mono HBv.out.size))
          have HM3 := hide (HM2.out.below HV3.out)
          obtain ⟨-, c0, c1, c2, c3⟩ := Bt.of (HXz.out _ HWv3.out)
          rw [HN2.out] at c0
          have CK := hide (marked_any (c := yc) (HAb.out.below (HBv3.out)) hn4 (by omega) HSM.out.1 HSM.out.2.1)
          go_upto_region 22 with (go_at_call 11; refine CK.out.mono ?_; rintro _ v4 ⟨mr, M, rfl, hmk, hpf, -, hw5⟩; have HMM := hide hmk; have HMF4 := hide hpf; have HV4 := hide hw5; clear hmk hpf hw5)
          clear c0 c1 c2 c3 CK
          have HPF4 := hide (HPF.out.keep (HV4.out.block _ HPF.out.lt))
          have HM4 := hide (HM3.out.below HV4.out)
          have HBv4 := hide (HBv3.out.trans (HV4.out.mono HBv3.out.size))
          have HA4 := hide (HAa.out.below HBv4.out)
          have HWv4 := hide (HWv3.out.trans (HV4.out.mono HWv3.out.size))
          clear HM3 HM2 HP2 HPF HMK HRO HFR CMz
          have HQP : Hid (∀ x ∈ SP, ∃ xm : Nat, x = (xm : Int) ∧ xm < n ∧ P.getD xm false = true) := hide (by
            intro x hx
            have h0 := HSP.out.1 x hx
            obtain ⟨xm, rfl⟩ := Int.eq_ofNat_of_zero_le h0.1
            have hxn : xm < n := by omega
            refine ⟨xm, rfl, hxn, ?_⟩
            rw [HMP.out.at_ xm hxn, decide_eq_true_eq, HG1.out.2.2 xm hxn, (HAT.out G xm hxn).1]
            exact PD.more ((HAT.out F xm hxn).1.1 ((HSP.out.2.2 xm hxn).1 hx)) fun y hy => (HGF.out y).2 (.inl hy))
          have HQM : Hid (∀ x ∈ GM, ∃ xm : Nat, x = (xm : Int) ∧ xm < n ∧ M.getD xm false = true) := hide (by
            intro x hx
            have h0 := HG2.out.1 x hx
            obtain ⟨xm, rfl⟩ := Int.eq_ofNat_of_zero_le h0.1
            have hxn : xm < n := by omega
            refine ⟨xm, rfl, hxn, ?_⟩
            rw [HMM.out.at_ xm hxn, decide_eq_true_eq, HSM.out.2.2 xm hxn, (HAT.out F xm hxn).2]
            exact MD.less ((HAT.out G xm hxn).2.1 ((HG2.out.2.2 xm hxn).1 hx)) fun y hy => (HGF.out y).2 (.inl hy))
          have HQQ : Hid (P.getD qi false = true) := hide (by
            rw [HMP.out.at_ qi r5, decide_eq_true_eq, HG1.out.2.2 qi r5, (HAT.out G qi r5).1]
            exact .fact ((HGF.out _).2 (.inr rfl)))
          have HLP := hide HMP.out.ln
          have HLM := hide HMM.out.ln
          go_upto_region 23 with fail
          go_loopw [24] (fun x wz => ∃ j : Nat, j ≤ SP.length ∧ x = .int .i64 j ∧ wz = v4) (fun x _ => SP.length - (intOf x).toNat)
          case atStart => exact ⟨0, by omega, rfl, rfl⟩
          case round =>
            obtain ⟨j, hj, rfl, rfl⟩ := hrel
            by_cases hjl : j < SP.length
            · obtain ⟨x, hx⟩ := get_at hjl
              obtain ⟨ga, oa, ea, cx⟩ := HA4.out.get hx
              obtain ⟨xm, rfl, hxn, hb⟩ := HQP.out x (List.mem_of_getElem? hx)
              have cp := HPF4.out.get (bool_at (R := P) (k := xm) (by rw [HLP.out]; exact hxn))
              rw [hb] at cp
              subst ea
              have HJL := hide hjl
              clear hx hb
              go_wp2_with fail
              go_roundw
              case rel => exact ⟨j + 1, by have := HJL.out; omega, by go_num, by first | trivial | rfl⟩
              case measure => have := HJL.out; simp [intOf]; omega
            · have hje : SP.length = j := by omega
              clear hj
              subst hje
              clear hjl
              go_upto_region 28 with fail
              clear HQP
              go_loopw [25] (fun x wz => ∃ j : Nat, j ≤ GM.length ∧ x = .int .i64 j ∧ wz = wr) (fun x _ => GM.length - (intOf x).toNat)
              case atStart => exact ⟨0, by omega, rfl, rfl⟩
              case round =>
                obtain ⟨j, hj, rfl, rfl⟩ := hrel
                by_cases hjl : j < GM.length
                · obtain ⟨x, hx⟩ := get_at hjl
                  obtain ⟨ga, oa, ea, cx⟩ := HM4.out.get hx
                  obtain ⟨xm, rfl, hxn, hb⟩ := HQM.out x (List.mem_of_getElem? hx)
                  have cp := HMF4.out.get (bool_at (R := M) (k := xm) (by rw [HLM.out]; exact hxn))
                  rw [hb] at cp
                  subst ea
                  have HJL := hide hjl
                  clear hx hb
                  go_wp2_with fail
                  go_roundw
                  case rel => exact ⟨j + 1, by have := HJL.out; omega, by go_num, by first | trivial | rfl⟩
                  case measure => have := HJL.out; simp [intOf]; omega
                · have hje : GM.length = j := by omega
                  clear hj
                  subst hje
                  clear hjl
                  have cp := HPF4.out.get (bool_at (R := P) (k := qi) (by rw [HLP.out]; exact r5))
                  rw [HQQ.out] at cp
                  go_wp2_with fail
                  go_ret
                  exact ⟨rfl, HB.out.trans (HWv4.out.mono HB.out.size)⟩
  · have hab2 : (e0 != 0) = true := by simpa using ha
    have CH := hide (plus_no (HLz.out _ HW1.out) (HFz.out _ HW1.out) HE.out ha)
    go_upto_region 4 with (go_at_call 8; refine CH.out.mono ?_; rintro _ w2 ⟨rfl, hw2⟩; have HW2 := hide (HW1.out.trans (hw2.mono HW1.out.size)); clear hw2)
    clear c0 c1 c2 c3 CH
    obtain ⟨-, c0, c1, c2, c3⟩ := Bt.of (HXz.out _ HW2.out)
    have CN := hide (minus_no (HLz.out _ HW2.out) (HFz.out _ HW2.out) HE.out ha)
    go_wp2_with (go_at_call 9; refine CN.out.mono ?_; rintro _ w3 ⟨rfl, hw3⟩; have HW3 := hide (HW2.out.trans (hw3.mono HW2.out.size)); clear hw3)
    go_ret
    exact ⟨rfl, HB.out.trans (HW3.out.mono HB.out.size)⟩
end Go.Proofs.Ytdholifacnnjcaa
