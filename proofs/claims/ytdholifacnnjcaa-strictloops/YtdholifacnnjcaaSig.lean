/- fault, signed, Plus, Minus, Neither, Heights. -/
import Derived.Test.YtdholifacnnjcaaFld
namespace Go.Proofs.Ytdholifacnnjcaa
open Go.RowKit

def faultM (T : Th) (F : List Int) : Int := if (checkM T).1 ≠ 0 then (checkM T).1 else if risesM F T.lits then 0 else 181
open Classical in
/-- What is said of each. -/
noncomputable def sgM (T : Th) (F : List Int) : List Int := (List.range T.lits.toNat).map fun q : Nat => if PD T F (q : Int) then 1 else if MD T F (q : Int) then 2 else 0
def selM (sg : List Int) (i : Int) : List Int := ((List.range sg.length).filter fun q => decide (sg.getD q 0 = i)).map Int.ofNat
theorem sgM_at {T : Th} {F : List Int} {q : Nat} (hq : q < T.lits.toNat) : ((sgM T F).getD q 0 = 1 ↔ PD T F q) ∧ ((sgM T F).getD q 0 = 2 ↔ MD T F q) ∧ ((sgM T F).getD q 0 = 0 ∨ (sgM T F).getD q 0 = 1 ∨ (sgM T F).getD q 0 = 2) := by
  have e : (sgM T F).getD q 0 = (by classical exact if PD T F (q : Int) then 1 else if MD T F (q : Int) then 2 else 0) := by
    unfold sgM
    rw [List.getD_eq_getElem?_getD, List.getElem?_map, List.getElem?_range hq]
    rfl
  rw [e]
  by_cases h1 : PD T F q
  · have h2 : ¬ MD T F q := pd_md h1
    simp [h1, h2]
  · by_cases h2 : MD T F q
    · simp [h1, h2]
    · simp [h1, h2]
theorem sgM_len {T : Th} {F : List Int} : (sgM T F).length = T.lits.toNat := by unfold sgM; simp
theorem Fin.sg {T : Th} {F : List Int} {n : Nat} {sg rd : List Int} (h : Fin T F n sg rd) (hn : T.lits = (n : Int)) : sg = sgM T F := by
  have hnn : T.lits.toNat = n := by omega
  apply List.ext_getElem?
  intro q
  by_cases hq : q < n
  · have h1 := h.pd q hq
    have h2 := h.md q hq
    have h3 := h.three q hq
    obtain ⟨g1, g2, g3⟩ := sgM_at (T := T) (F := F) (q := q) (by omega)
    have ha : sg[q]? = some (sg.getD q 0) := by rw [List.getD_eq_getElem?_getD, List.getElem?_eq_getElem (by rw [h.ls]; exact hq)]; rfl
    have hb : (sgM T F)[q]? = some ((sgM T F).getD q 0) := by rw [List.getD_eq_getElem?_getD, List.getElem?_eq_getElem (by rw [sgM_len]; omega)]; rfl
    rw [ha, hb]
    congr 1
    by_cases hp : PD T F q
    · rw [h1.2 hp, g1.2 hp]
    · by_cases hm : MD T F q
      · rw [h2.2 hm, g2.2 hm]
      · have e1 : sg.getD q 0 = 0 := by
          rcases h3 with h | h | h
          · exact h
          · exact absurd (h1.1 h) hp
          · exact absurd (h2.1 h) hm
        have e2 : (sgM T F).getD q 0 = 0 := by
          rcases g3 with h | h | h
          · exact h
          · exact absurd (g1.1 h) hp
          · exact absurd (g2.1 h) hm
        rw [e1, e2]
  · rw [List.getElem?_eq_none (by rw [h.ls]; omega), List.getElem?_eq_none (by rw [sgM_len]; omega)]
theorem risesF_in2 {b : Int} : ∀ {l : List Int} {p : Int}, -1 ≤ p → risesF b p l = true → (∀ x ∈ l, p < x ∧ x < b) ∧ l.Pairwise (· < ·)
  | [], _, _, _ => ⟨fun x hx => (by cases hx), List.Pairwise.nil⟩
  | y :: l, p, hp, h => by
    unfold risesF at h
    split at h
    · cases h
    · rename_i hn
      obtain ⟨h1, h2⟩ := risesF_in2 (p := y) (by omega) h
      refine ⟨fun x hx => ?_, List.pairwise_cons.2 ⟨fun x hx => (h1 x hx).1, h2⟩⟩
      rcases List.mem_cons.1 hx with rfl | hx
      · omega
      · have := h1 x hx; omega
theorem fault_ok {T : Th} {F : List Int} (h : faultM T F = 0) : OkT T ∧ Nm T F T.lits.toNat ∧ T.lits = (T.lits.toNat : Int) ∧ T.lits.toNat ≤ 4096 ∧ T.rules.length ≤ 4096 ∧ (∀ r ∈ T.rules, r.body.length ≤ 16) ∧ F.Pairwise (· < ·) := by
  unfold faultM at h
  by_cases hc : (checkM T).1 ≠ 0
  · rw [if_pos hc] at h; exact absurd h hc
  · rw [if_neg hc] at h
    have hok := check_ok (Classical.not_not.1 hc)
    have h0 := hok.l0
    have h1 := hok.l1
    have hr : risesM F T.lits = true := by
      cases e : risesM F T.lits with
      | true => rfl
      | false => rw [e] at h; cases h
    obtain ⟨f1, f2⟩ := risesF_in2 (by omega) hr
    refine ⟨hok, ⟨fun r hr => ?_, fun r hr x hx => ?_, fun r hr => ?_, fun q hq => ?_⟩, by omega, by omega, hok.rl, fun r hr => (hok.rule r hr).2.2.2.2.1, f2⟩
    · have := hok.rule r hr
      exact ⟨this.2.2.1, by have := this.2.2.2.1; omega⟩
    · have := (risesF_in2 (by omega) (hok.rule r hr).2.2.2.2.2).1 x hx
      omega
    · exact List.Pairwise.imp (fun h => by omega) (risesF_in2 (by omega) (hok.rule r hr).2.2.2.2.2).2
    · have := f1 q hq
      omega
section
variable {w : World} {T : Th} {F : List Int} {fa ra ba ea : Option Addr} {fc rc bc ec : Nat}
set_option maxRecDepth 100000 in
set_option maxHeartbeats 3200000 in
theorem checkFacts_any (hF : Ints w.heap.size w F (.slice ea F.length ec)) :
    Calls Try.prog 23 #[tv T fa fc ra rc ba bc, .slice ea F.length ec] w fun e w' => e = .returned (.int .i64 (if risesM F T.lits then 0 else 181)) ∧ Below w.heap.size w w' := by
  have hB := below_new w (.cells #[.int .i64 T.lits, .slice fa T.foes.length fc, .slice ra T.rules.length rc, .slice ba T.beats.length bc] 25)
  have hX := heap_alloc_new w (.cells #[.int .i64 T.lits, .slice fa T.foes.length fc, .slice ra T.rules.length rc, .slice ba T.beats.length bc] 25)
  have HF := hide (Ints.go hB hF)
  have hl := hF.lim
  obtain ⟨b, hb⟩ : ∃ b, risesM F T.lits = b := ⟨_, rfl⟩
  have CR := hide (rising_any (c := ec) HF.out.at1 hl T.lits)
  rw [hb] at CR ⊢
  have HB := hide hB
  clear hB hF hb
  go_enter Try.func23, Try.ntmps23
  go_upto_region 1 with fail
  generalize w.alloc (.cells #[.int .i64 T.lits, .slice fa T.foes.length fc, .slice ra T.rules.length rc, .slice ba T.beats.length bc] 25) = W at *
  obtain ⟨-, c0, c1, c2, c3⟩ := Bt.of hX
  clear hX
  cases b with
  | true =>
    go_wp2_with (go_at_call 40; refine CR.out.mono ?_; rintro _ w2 ⟨rfl, rfl⟩)
    go_ret
    exact ⟨rfl, HB.out⟩
  | false =>
    go_wp2_with (go_at_call 40; refine CR.out.mono ?_; rintro _ w2 ⟨rfl, rfl⟩)
    go_ret
    exact ⟨rfl, HB.out⟩
set_option maxRecDepth 100000 in
set_option maxHeartbeats 3200000 in
theorem fault_any (h : TA w.heap.size w T fa fc ra rc ba bc) (hF : Ints w.heap.size w F (.slice ea F.length ec)) :
    Calls Try.prog 18 #[tv T fa fc ra rc ba bc, .slice ea F.length ec] w fun e w' => e = .returned (.int .i64 (faultM T F)) ∧ Below w.heap.size w w' := by
  have hB := below_new w (.cells #[.int .i64 T.lits, .slice fa T.foes.length fc, .slice ra T.rules.length rc, .slice ba T.beats.length bc] 25)
  have hX := heap_alloc_new w (.cells #[.int .i64 T.lits, .slice fa T.foes.length fc, .slice ra T.rules.length rc, .slice ba T.beats.length bc] 25)
  have HF := hide (Ints.go hB hF)
  have hL := TR.go hB h
  have CC := hide (check_any hL)
  have HB := hide hB
  have HX := hide hX
  obtain ⟨e0, p0, hab⟩ : ∃ a b, checkM T = (a, b) := ⟨_, _, rfl⟩
  rw [hab] at CC
  unfold dup at CC
  simp only at CC
  have HE : Hid ((checkM T).1 = e0) := hide (by rw [hab])
  clear h hB hL hab hF
  go_enter Try.func18, Try.ntmps18
  go_upto_region 1 with fail
  generalize w.alloc (.cells #[.int .i64 T.lits, .slice fa T.foes.length fc, .slice ra T.rules.length rc, .slice ba T.beats.length bc] 25) = W at *
  obtain ⟨-, c0, c1, c2, c3⟩ := Bt.of hX
  clear hX
  by_cases ha : e0 = 0
  · subst ha
    go_upto_region 4 with (go_at_call 22; refine CC.out.mono ?_; rintro _ w1 ⟨rfl, hw1⟩; have HB1 := hide (HB.out.trans (hw1.mono HB.out.size)); have HI1 := hide (Ints.go hw1 HF.out); have HX1 := hide ((hw1.block _ (loc_lt HX.out)).trans HX.out); clear hw1)
    clear c0 c1 c2 c3 CC HB HX HF
    obtain ⟨-, c0, c1, c2, c3⟩ := Bt.of HX1.out
    have CF := hide (checkFacts_any (T := T) (fa := fa) (fc := fc) (ra := ra) (rc := rc) (ba := ba) (bc := bc) HI1.out)
    obtain ⟨v, hv⟩ : ∃ v, (if risesM F T.lits then (0 : Int) else 181) = v := ⟨_, rfl⟩
    have HV := hide hv
    rw [hv] at CF
    clear hv
    go_wp2_with (go_at_call 23; refine CF.out.mono ?_; rintro _ w2 ⟨rfl, hw2⟩; have HB2 := hide (HB1.out.trans (hw2.mono HB1.out.size)); clear hw2)
    go_ret
    refine ⟨?_, HB2.out⟩
    unfold faultM
    rw [HE.out, if_neg (by decide), HV.out]
    rfl
  · have hab2 : (e0 != 0) = true := by simpa using ha
    have HF0 : Hid (faultM T F = e0) := hide (by unfold faultM; rw [HE.out, if_pos ha])
    go_wp2_with (go_at_call 22; refine CC.out.mono ?_; rintro _ w1 ⟨rfl, hw1⟩; have HB1 := hide (HB.out.trans (hw1.mono HB.out.size)); clear hw1)
    go_ret
    exact ⟨by rw [HF0.out]; rfl, HB1.out⟩
/-- How a question of both kinds ends. -/
def Sgd (T : Th) (F l : List Int) (w : World) (e : Ending) (w' : World) : Prop :=
  (faultM T F ≠ 0 ∧ e = .returned (.tuple #[.slice none 0 0, .int .i64 (faultM T F)])) ∨
  (faultM T F = 0 ∧ ∃ xa xc, e = .returned (.tuple #[.slice xa l.length xc, .int .i64 0]) ∧ w'.ownsRow w.heap.size 3 1 (.slice xa l.length xc) l.length (ints l))
def selK (sg : List Int) (i : Int) (k : Nat) : List Int := ((List.range k).filter fun q => decide (sg.getD q 0 = i)).map Int.ofNat
theorem selK_succ {sg : List Int} {i : Int} {k : Nat} : selK sg i (k + 1) = if sg.getD k 0 = i then selK sg i k ++ [(k : Int)] else selK sg i k := by
  unfold selK
  rw [List.range_succ, List.filter_append, List.map_append]
  by_cases h : sg.getD k 0 = i
  · rw [if_pos h, List.filter_cons_of_pos (by rw [decide_eq_true_eq]; exact h)]; rfl
  · rw [if_neg h, List.filter_cons_of_neg (by rw [decide_eq_true_eq]; exact h)]; simp
theorem selK_len {sg : List Int} {i : Int} {k : Nat} : (selK sg i k).length ≤ k := by
  unfold selK
  rw [List.length_map]
  exact Nat.le_trans (List.length_filter_le _ _) (by simp)
set_option maxRecDepth 100000 in
set_option maxHeartbeats 6400000 in
theorem signed_any (h : TA w.heap.size w T fa fc ra rc ba bc) (hF : Ints w.heap.size w F (.slice ea F.length ec)) (i : Int) :
    Calls Try.prog 17 #[tv T fa fc ra rc ba bc, .slice ea F.length ec, .int .i64 i] w fun e w' => Sgd T F (selM (sgM T F) i) w e w' ∧ Below w.heap.size w w' := by
  obtain ⟨iI, hiI, zI0, zI1, zI2⟩ := info_parts infoI
  have hB := below_new w (.cells #[.int .i64 T.lits, .slice fa T.foes.length fc, .slice ra T.rules.length rc, .slice ba T.beats.length bc] 25)
  have hX := heap_alloc_new w (.cells #[.int .i64 T.lits, .slice fa T.foes.length fc, .slice ra T.rules.length rc, .slice ba T.beats.length bc] 25)
  have HF := hide (Ints.go hB hF)
  have HL := hide (TR.go hB h)
  have CC := hide (fault_any HL.out HF.out)
  have HB := hide hB
  have HX := hide hX
  obtain ⟨e0, he⟩ : ∃ a, faultM T F = a := ⟨_, rfl⟩
  rw [he] at CC
  have HE := hide he
  clear h hB hF he
  go_enter Try.func17, Try.ntmps17
  go_upto_region 1 with fail
  generalize w.alloc (.cells #[.int .i64 T.lits, .slice fa T.foes.length fc, .slice ra T.rules.length rc, .slice ba T.beats.length bc] 25) = W at *
  obtain ⟨-, c0, c1, c2, c3⟩ := Bt.of hX
  clear hX
  by_cases ha : e0 = 0
  · subst ha
    obtain ⟨-, hnm, hn, hn4, hrl, hbl, -⟩ := fault_ok HE.out
    obtain ⟨n, hnn⟩ : ∃ n, T.lits.toNat = n := ⟨_, rfl⟩
    rw [hnn] at hnm hn hn4
    have HN := hide hnn
    have HN2 := hide hn
    have HNM := hide hnm
    have HBL := hide hbl
    clear hnm hn hbl hnn
    go_upto_region 5 with (go_at_call 18; refine CC.out.mono ?_; rintro _ w1 ⟨rfl, hw1⟩; have HB1 := hide (HB.out.trans (hw1.mono HB.out.size)); have HI1 := hide (Ints.go hw1 HF.out); have HL1 := hide (TR.go hw1 HL.out); have HX1 := hide ((hw1.block _ (loc_lt HX.out)).trans HX.out); clear hw1)
    clear c0 c1 c2 c3 CC HB HX HF HL
    obtain ⟨-, c0, c1, c2, c3⟩ := Bt.of HX1.out
    have CF := hide (conclude_any HL1.out HI1.out HNM.out HN2.out hn4 hrl HBL.out)
    have hfd := field0
    go_upto_region 6 with (go_at_call 19; refine CF.out.mono ?_; rintro _ w2 ⟨sg, rd, sr, rr, rfl, hfin, hsr, -, -, -, hw2⟩; have HFN := hide hfin; have HSR := hide hsr; have HB2 := hide (HB1.out.trans (hw2.mono HB1.out.size)); clear hfin hsr hw2)
    clear c0 c1 c2 c3 CF hfd
    have HSG : Hid (sg = sgM T F) := hide (HFN.out.sg HN2.out)
    have hsl : sg.length = n := HFN.out.ls
    have HLS := hide hsl
    have hws := HB2.out.size
    clear hsl
    go_loopw [9, 23] (fun v x wr => ∃ (k : Nat) (va : Option Addr) (vc : Nat), k ≤ n ∧ v = .slice va (selK sg i k).length vc ∧ x = .int .i64 k ∧ Hid (wr.ownsRow w.heap.size 3 1 (.slice va (selK sg i k).length vc) (selK sg i k).length (ints (selK sg i k))) ∧ Hid (Fx sr 44 (ints sg) wr) ∧ Hid (Below w.heap.size w wr)) (fun _ x _ => n - (intOf x).toNat)
    case atStart => exact ⟨0, none, 0, by omega, rfl, rfl, hide ⟨rfl, .inl ⟨rfl, rfl⟩⟩, HSR, HB2⟩
    case round =>
      clear HSR HB2
      obtain ⟨k, va, vc, hk, rfl, rfl, HRO, HSR, HBr⟩ := hrel
      by_cases hlt : k < n
      · have cs := HSR.out.get (int_at (l := sg) (k := k) (by rw [HLS.out]; exact hlt))
        have hsk := selK_len (sg := sg) (i := i) (k := k)
        by_cases hs : sg.getD k 0 = i
        · have HK2 : Hid (selK sg i (k + 1) = selK sg i k ++ [(k : Int)]) := hide (by rw [selK_succ, if_pos hs])
          rw [hs] at cs
          clear hs
          generalize selK sg i k = L at *
          generalize hLn : L.length = ln at *
          have HLn := hide hLn
          clear hLn
          have hii : (i == i) = true := by simp
          go_upto_region 9 with fail
          have HROW : Hid ((wr.alloc (.cells #[.int .i64 k] 3)).ownsRow w.heap.size 3 1 (.slice va ln vc) ln (ints L)) := hide (owns_keep HRO.out fun g hg => (below_new wr (.cells #[.int .i64 k] 3)).block g (owns_lt HRO.out hg))
          have hwr : w.heap.size ≤ wr.heap.size := HBr.out.size
          go_wp2_with (at_builtin; go_must (refine wpList_append_two _ rfl _ _ 26 rfl w.heap.size 3 iI _ 1 8 Try.underlying26 hiI zI0 zI1 zI2 rfl (by decide) _ _ (ints L) rfl HROW.out ⟨wr.heap.size, 0, none⟩ 1 [.int .i64 k] rfl rfl (cell_one_new _ _ _) (by intro u hu; simp at hu; subst hu; rfl) (by unfold maxLen; omega) (by omega) (by simp; omega) ?_); intro g4 cap4 w4 hown4 hg4; have HO4 := hide hown4; have HG4 := hide hg4; clear hown4 hg4)
          have HOR : Hid (∀ g, g < wr.heap.size → Value.ownBlock (.slice va ln vc) ≠ some g → w4.heap[g]? = wr.heap[g]?) := hide fun g hg hn => grown_old rfl (by rcases HG4.out with h | ⟨h1, h2⟩; exact .inl h; exact .inr ⟨by simpa using h1, h2⟩) hg hn
          have HS4 := hide (HSR.out.keep (HOR.out _ HSR.out.lt (own_fx HRO.out HSR.out (by decide))))
          have HB4 : Hid (Below w.heap.size w w4) := hide (HBr.out.trans ((grown_fr (Z := fun k => w.heap.size ≤ k) rfl (by rcases HG4.out with h | ⟨h1, h2⟩; exact .inl h; exact .inr ⟨by simpa using h1, h2⟩) fun g e => (HRO.out.lt g e).1).below fun k hk => ⟨by omega, by omega⟩))
          go_roundw
          case rel =>
            have e : (selK sg i (k + 1)).length = ln + 1 := by rw [HK2.out, List.length_append, HLn.out]; rfl
            refine ⟨k + 1, some ⟨g4, 0, none⟩, cap4, by omega, by rw [e], by go_num, hide ?_, HS4, HB4⟩
            rw [e, HK2.out, ints_snoc]
            exact HO4.out
          case measure => simp [intOf]; omega
        · have HK2 : Hid (selK sg i (k + 1) = selK sg i k) := hide (by rw [selK_succ, if_neg hs])
          have hs2 : (sg.getD k 0 == i) = false := beq_eq_false_iff_ne.2 hs
          clear hs
          generalize sg.getD k 0 = sv at *
          generalize selK sg i k = L at *
          generalize hLn : L.length = ln at *
          have HLn := hide hLn
          clear hLn
          go_wp2_with fail
          go_roundw
          case rel =>
            have e : (selK sg i (k + 1)).length = ln := by rw [HK2.out, HLn.out]
            refine ⟨k + 1, va, vc, by omega, by rw [e], by go_num, hide ?_, HSR, HBr⟩
            rw [e, HK2.out]
            exact HRO.out
          case measure => simp [intOf]; omega
      · have HK2 : Hid (selK sg i k = selM (sgM T F) i) := hide (by
          have : k = n := by omega
          unfold selM
          rw [← HSG.out, HLS.out, this]
          rfl)
        generalize selK sg i k = L at *
        generalize hLn : L.length = ln at *
        have HLn := hide hLn
        clear hLn
        go_wp2_with fail
        go_ret2
        refine ⟨.inr ⟨HE.out, va, vc, ?_, ?_⟩, HBr.out⟩
        · rw [← HK2.out, HLn.out]; rfl
        · rw [← HK2.out, HLn.out]; exact HRO.out
  · have hab2 : (e0 != 0) = true := by simpa using ha
    go_wp2_with (go_at_call 18; refine CC.out.mono ?_; rintro _ w1 ⟨rfl, hw1⟩; have HB1 := hide (HB.out.trans (hw1.mono HB.out.size)); clear hw1)
    go_ret2
    refine ⟨.inl ⟨by rw [HE.out]; exact ha, ?_⟩, HB1.out⟩
    rw [HE.out]; rfl
set_option maxRecDepth 100000 in
set_option maxHeartbeats 3200000 in
theorem plus_any (h : TA w.heap.size w T fa fc ra rc ba bc) (hF : Ints w.heap.size w F (.slice ea F.length ec)) :
    Calls Try.prog 8 #[tv T fa fc ra rc ba bc, .slice ea F.length ec] w fun e w' => Sgd T F (selM (sgM T F) 1) w e w' ∧ Below w.heap.size w w' := by
  have hB := below_new w (.cells #[.int .i64 T.lits, .slice fa T.foes.length fc, .slice ra T.rules.length rc, .slice ba T.beats.length bc] 25)
  have hX := heap_alloc_new w (.cells #[.int .i64 T.lits, .slice fa T.foes.length fc, .slice ra T.rules.length rc, .slice ba T.beats.length bc] 25)
  have CC := hide (signed_any (TR.go hB h) (Ints.go hB hF) 1)
  generalize selM (sgM T F) 1 = l at *
  have HB := hide hB
  clear h hF hB
  go_enter Try.func8, Try.ntmps8
  go_upto_region 1 with fail
  generalize w.alloc (.cells #[.int .i64 T.lits, .slice fa T.foes.length fc, .slice ra T.rules.length rc, .slice ba T.beats.length bc] 25) = W at *
  obtain ⟨-, c0, c1, c2, c3⟩ := Bt.of hX
  clear hX
  go_wp2_with (go_at_call 17; refine CC.out.mono ?_; rintro _ w1 ⟨(⟨h0, rfl⟩ | ⟨h0, xa, xc, rfl, ho⟩), hw1⟩)
  · go_ret2
    exact ⟨.inl ⟨h0, rfl⟩, HB.out.trans (hw1.mono HB.out.size)⟩
  · go_ret2
    exact ⟨.inr ⟨h0, xa, xc, rfl, owns_down ho HB.out.size⟩, HB.out.trans (hw1.mono HB.out.size)⟩
set_option maxRecDepth 100000 in
set_option maxHeartbeats 3200000 in
theorem minus_any (h : TA w.heap.size w T fa fc ra rc ba bc) (hF : Ints w.heap.size w F (.slice ea F.length ec)) :
    Calls Try.prog 9 #[tv T fa fc ra rc ba bc, .slice ea F.length ec] w fun e w' => Sgd T F (selM (sgM T F) 2) w e w' ∧ Below w.heap.size w w' := by
  have hB := below_new w (.cells #[.int .i64 T.lits, .slice fa T.foes.length fc, .slice ra T.rules.length rc, .slice ba T.beats.length bc] 25)
  have hX := heap_alloc_new w (.cells #[.int .i64 T.lits, .slice fa T.foes.length fc, .slice ra T.rules.length rc, .slice ba T.beats.length bc] 25)
  have CC := hide (signed_any (TR.go hB h) (Ints.go hB hF) 2)
  generalize selM (sgM T F) 2 = l at *
  have HB := hide hB
  clear h hF hB
  go_enter Try.func9, Try.ntmps9
  go_upto_region 1 with fail
  generalize w.alloc (.cells #[.int .i64 T.lits, .slice fa T.foes.length fc, .slice ra T.rules.length rc, .slice ba T.beats.length bc] 25) = W at *
  obtain ⟨-, c0, c1, c2, c3⟩ := Bt.of hX
  clear hX
  go_wp2_with (go_at_call 17; refine CC.out.mono ?_; rintro _ w1 ⟨(⟨h0, rfl⟩ | ⟨h0, xa, xc, rfl, ho⟩), hw1⟩)
  · go_ret2
    exact ⟨.inl ⟨h0, rfl⟩, HB.out.trans (hw1.mono HB.out.size)⟩
  · go_ret2
    exact ⟨.inr ⟨h0, xa, xc, rfl, owns_down ho HB.out.size⟩, HB.out.trans (hw1.mono HB.out.size)⟩
set_option maxRecDepth 100000 in
set_option maxHeartbeats 3200000 in
theorem neither_any (h : TA w.heap.size w T fa fc ra rc ba bc) (hF : Ints w.heap.size w F (.slice ea F.length ec)) :
    Calls Try.prog 10 #[tv T fa fc ra rc ba bc, .slice ea F.length ec] w fun e w' => Sgd T F (selM (sgM T F) 0) w e w' ∧ Below w.heap.size w w' := by
  have hB := below_new w (.cells #[.int .i64 T.lits, .slice fa T.foes.length fc, .slice ra T.rules.length rc, .slice ba T.beats.length bc] 25)
  have hX := heap_alloc_new w (.cells #[.int .i64 T.lits, .slice fa T.foes.length fc, .slice ra T.rules.length rc, .slice ba T.beats.length bc] 25)
  have CC := hide (signed_any (TR.go hB h) (Ints.go hB hF) 0)
  generalize selM (sgM T F) 0 = l at *
  have HB := hide hB
  clear h hF hB
  go_enter Try.func10, Try.ntmps10
  go_upto_region 1 with fail
  generalize w.alloc (.cells #[.int .i64 T.lits, .slice fa T.foes.length fc, .slice ra T.rules.length rc, .slice ba T.beats.length bc] 25) = W at *
  obtain ⟨-, c0, c1, c2, c3⟩ := Bt.of hX
  clear hX
  go_wp2_with (go_at_call 17; refine CC.out.mono ?_; rintro _ w1 ⟨(⟨h0, rfl⟩ | ⟨h0, xa, xc, rfl, ho⟩), hw1⟩)
  · go_ret2
    exact ⟨.inl ⟨h0, rfl⟩, HB.out.trans (hw1.mono HB.out.size)⟩
  · go_ret2
    exact ⟨.inr ⟨h0, xa, xc, rfl, owns_down ho HB.out.size⟩, HB.out.trans (hw1.mono HB.out.size)⟩
/-- How Heights ends. -/
def Hts (T : Th) (F : List Int) (w : World) (e : Ending) (w' : World) : Prop :=
  (faultM T F ≠ 0 ∧ e = .returned (.tuple #[.slice none 0 0, .int .i64 (faultM T F)])) ∨
  (faultM T F = 0 ∧ ∃ rd rr, Fin T F T.lits.toNat (sgM T F) rd ∧ e = .returned (.tuple #[.slice (some ⟨rr, 0, none⟩) T.lits.toNat T.lits.toNat, .int .i64 0]) ∧ Fx rr 3 (ints rd) w' ∧ w.heap.size ≤ rr)
set_option maxRecDepth 100000 in
set_option maxHeartbeats 6400000 in
theorem heights_any (h : TA w.heap.size w T fa fc ra rc ba bc) (hF : Ints w.heap.size w F (.slice ea F.length ec)) :
    Calls Try.prog 12 #[tv T fa fc ra rc ba bc, .slice ea F.length ec] w fun e w' => Hts T F w e w' ∧ Below w.heap.size w w' := by
  have hB := below_new w (.cells #[.int .i64 T.lits, .slice fa T.foes.length fc, .slice ra T.rules.length rc, .slice ba T.beats.length bc] 25)
  have hX := heap_alloc_new w (.cells #[.int .i64 T.lits, .slice fa T.foes.length fc, .slice ra T.rules.length rc, .slice ba T.beats.length bc] 25)
  have HF := hide (Ints.go hB hF)
  have HL := hide (TR.go hB h)
  have CC := hide (fault_any HL.out HF.out)
  have HB := hide hB
  have HX := hide hX
  obtain ⟨e0, he⟩ : ∃ a, faultM T F = a := ⟨_, rfl⟩
  rw [he] at CC
  have HE := hide he
  clear h hB hF he
  go_enter Try.func12, Try.ntmps12
  go_upto_region 1 with fail
  generalize w.alloc (.cells #[.int .i64 T.lits, .slice fa T.foes.length fc, .slice ra T.rules.length rc, .slice ba T.beats.length bc] 25) = W at *
  obtain ⟨-, c0, c1, c2, c3⟩ := Bt.of hX
  clear hX
  by_cases ha : e0 = 0
  · subst ha
    obtain ⟨-, hnm, hn, hn4, hrl, hbl, -⟩ := fault_ok HE.out
    obtain ⟨n, hnn⟩ : ∃ n, T.lits.toNat = n := ⟨_, rfl⟩
    rw [hnn] at hnm hn hn4
    have HN := hide hnn
    have HN2 := hide hn
    have HNM := hide hnm
    have HBL := hide hbl
    clear hnm hn hbl hnn
    go_upto_region 4 with (go_at_call 18; refine CC.out.mono ?_; rintro _ w1 ⟨rfl, hw1⟩; have HB1 := hide (HB.out.trans (hw1.mono HB.out.size)); have HI1 := hide (Ints.go hw1 HF.out); have HL1 := hide (TR.go hw1 HL.out); have HX1 := hide ((hw1.block _ (loc_lt HX.out)).trans HX.out); clear hw1)
    clear c0 c1 c2 c3 CC HB HX HF HL
    obtain ⟨-, c0, c1, c2, c3⟩ := Bt.of HX1.out
    have CF := hide (conclude_any HL1.out HI1.out HNM.out HN2.out hn4 hrl HBL.out)
    have hfd := field1
    go_wp2_with (go_at_call 19; refine CF.out.mono ?_; rintro _ w2 ⟨sg, rd, sr, rr, rfl, hfin, -, hrr, -, hlo, hw2⟩; have HFN := hide hfin; have HRR := hide hrr; have HLO := hide hlo; have HB2 := hide (HB1.out.trans (hw2.mono HB1.out.size)); clear hfin hrr hlo hw2)
    go_ret2
    have hs := HB1.out.size
    have hlo := HLO.out
    have hf := HFN.out
    rw [hf.sg HN2.out] at hf
    refine ⟨.inr ⟨HE.out, rd, rr, by rw [HN.out]; exact hf, by rw [HN.out]; rfl, HRR.out, by omega⟩, HB2.out⟩
  · have hab2 : (e0 != 0) = true := by simpa using ha
    go_wp2_with (go_at_call 18; refine CC.out.mono ?_; rintro _ w1 ⟨rfl, hw1⟩; have HB1 := hide (HB.out.trans (hw1.mono HB.out.size)); clear hw1)
    go_ret2
    refine ⟨.inl ⟨by rw [HE.out]; exact ha, ?_⟩, HB1.out⟩
    rw [HE.out]; rfl
end
end Go.Proofs.Ytdholifacnnjcaa
