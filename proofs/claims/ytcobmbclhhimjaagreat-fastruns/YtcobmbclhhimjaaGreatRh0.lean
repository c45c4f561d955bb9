/- What is asked of a solution: Holds, Set, Undecided, Differ. PLAIN. -/
import Derived.Test.YtcobmbclhhimjaaGreatRg7
import Derived.Test.YtcobmbclhhimjaaGreatLit
namespace Go.Proofs.YtcobmbclhhimjaaGreat.Rf
open Go.RowKit

/-- Whatever the rounds end with is this. -/
def Uq (T : Th) (F m : List Int) : Prop := ∀ m' k, Sol T F m' k → m' = m
theorem uq_exists (T : Th) (F : List Int) : ∃ m, Uq T F m := by
  by_cases h : ∃ m k, Sol T F m k
  · obtain ⟨m, k, h⟩ := h
    exact ⟨m, fun m' k' h' => sol_one h' h⟩
  · exact ⟨[], fun m' k' h' => absurd ⟨m', k', h'⟩ h⟩
def tagE (t : Int) : Int := if t < 1 ∨ 4 < t then 1 else 0
def hasE (T : Th) (F : List Int) (q t : Int) : Int := if faultM T F ≠ 0 then faultM T F else if q < 0 ∨ T.lits ≤ q then 91 else tagE t
def hasV (T : Th) (F m : List Int) (q t : Int) : Bool := decide (hasE T F q t = 0) && hb (m.getD q.toNat 0) t
def setE (T : Th) (F : List Int) (t : Int) : Int := if faultM T F ≠ 0 then faultM T F else tagE t
def tagP (m : List Int) (t : Int) (x : Int) : Bool := hb (m.getD x.toNat 0) t
def setL (T : Th) (F m : List Int) (t : Int) : List Int := if setE T F t = 0 then Fa.soL (tagP m t) T.lits.toNat else []
def undP (m : List Int) (x : Int) : Bool := !hb (m.getD x.toNat 0) 3 && !hb (m.getD x.toNat 0) 4
def undL (T : Th) (F m : List Int) : List Int := if faultM T F = 0 then Fa.soL (undP m) T.lits.toNat else []
def difB (m m2 : List Int) (x : Int) : Bool := m.getD x.toNat 0 != m2.getD x.toNat 0
def difE (T : Th) (A B : List Int) : Int := if faultM T A ≠ 0 then faultM T A else faultM T B
def difL (T : Th) (A B m m2 : List Int) : List Int := if difE T A B = 0 then Fa.soL (difB m m2) T.lits.toNat else []
theorem tag_of {t : Int} (h : tagE t = 0) : isTag t := by
  unfold tagE at h
  by_cases c : t < 1 ∨ 4 < t
  · rw [if_pos c] at h; cases h
  · unfold isTag; omega
theorem len_soL {p : Int → Bool} {n : Nat} (h : n ≤ 4096) : (Fa.soL p n).length ≤ 4096 := Nat.le_trans Fa.soL_len h
theorem lits_le {T : Th} {F : List Int} (h : faultM T F = 0) : T.lits.toNat ≤ 4096 := (pf_of h).n4
theorem setL_len {T : Th} {F m : List Int} {t : Int} : (setL T F m t).length ≤ 4096 := by
  unfold setL
  by_cases c : setE T F t = 0
  · rw [if_pos c]
    unfold setE at c
    by_cases d : faultM T F ≠ 0
    · rw [if_pos d] at c; exact absurd c d
    · exact len_soL (lits_le (F := F) (by omega))
  · rw [if_neg c]; simp
theorem undL_len {T : Th} {F m : List Int} : (undL T F m).length ≤ 4096 := by
  unfold undL
  by_cases c : faultM T F = 0
  · rw [if_pos c]; exact len_soL (lits_le c)
  · rw [if_neg c]; simp
theorem difL_len {T : Th} {A B m m2 : List Int} : (difL T A B m m2).length ≤ 4096 := by
  unfold difL
  by_cases c : difE T A B = 0
  · rw [if_pos c]
    unfold difE at c
    by_cases d : faultM T A ≠ 0
    · rw [if_pos d] at c; exact absurd c d
    · exact len_soL (lits_le (F := A) (by omega))
  · rw [if_neg c]; simp
theorem hasE_bad {T : Th} {F : List Int} {q t : Int} (h : faultM T F ≠ 0) : hasE T F q t = faultM T F := by unfold hasE; rw [if_pos h]
theorem hasE_lit {T : Th} {F : List Int} {q t : Int} (h : faultM T F = 0) (h2 : q < 0 ∨ T.lits ≤ q) : hasE T F q t = 91 := by unfold hasE; rw [if_neg (by omega), if_pos h2]
theorem hasE_tag {T : Th} {F : List Int} {q t : Int} (h : faultM T F = 0) (h2 : ¬(q < 0 ∨ T.lits ≤ q)) : hasE T F q t = tagE t := by unfold hasE; rw [if_neg (by omega), if_neg h2]
theorem setE_bad {T : Th} {F : List Int} {t : Int} (h : faultM T F ≠ 0) : setE T F t = faultM T F := by unfold setE; rw [if_pos h]
theorem setE_tag {T : Th} {F : List Int} {t : Int} (h : faultM T F = 0) : setE T F t = tagE t := by unfold setE; rw [if_neg (by omega)]
theorem hasV_no {T : Th} {F m : List Int} {q t : Int} (h : hasE T F q t ≠ 0) : hasV T F m q t = false := by unfold hasV; rw [decide_eq_false h]; rfl
theorem hasV_yes {T : Th} {F m : List Int} {q : Nat} {t : Int} (h : hasE T F q t = 0) : hasV T F m q t = hb (m.getD q 0) t := by unfold hasV; rw [decide_eq_true h, Int.toNat_natCast]; rfl
theorem tagE_no {t : Int} (h : t < 1 ∨ 4 < t) : tagE t = 1 := if_pos h
theorem tagE_yes {t : Int} (h : ¬(t < 1 ∨ 4 < t)) : tagE t = 0 := if_neg h
theorem cell_onR {w w' : World} {p : Addr} {v : Value} (h : w.cell? p = some v) (hb : Below w.heap.size w w') : w'.cell? p = some v := (World.cell?_of_block (hb.block p.block (by
  cases hx : w.heap[p.block]? with
  | none => simp [World.cell?, hx] at h
  | some o => exact (Array.getElem?_eq_some_iff.1 hx).1))).trans h
theorem ret2_b {b b' : Bool} {c c' : Int} (h1 : b = b') (h2 : c = c') : (Go.Ending.returned (.tuple #[.bool b, .int .i64 c])) = .returned (.tuple #[.bool b', .int .i64 c']) := by rw [h1, h2]
end Go.Proofs.YtcobmbclhhimjaaGreat.Rf
/- The document's answer, layer 16: Holds, Set, Undecided, Differ. -/
namespace Go.Proofs.YtcobmbclhhimjaaGreat.Rf
open Go.RowKit

section
variable {w : World} {T : Th} {F m m2 A B : List Int} {fa ra ba xa ya : Option Addr} {fc rc bc xc yc : Nat}
set_option maxRecDepth 100000 in
set_option maxHeartbeats 6400000 in
theorem rholds_any (hM : Uq T F m) (h : TA w.heap.size w T fa fc ra rc ba bc) (hF : Ints w.heap.size w F (.slice xa F.length xc)) {q t : Int} :
    Calls Tryz.prog 18 #[tv T fa fc ra rc ba bc, .slice xa F.length xc, .int .i64 q, .int .i64 t] w fun e w' => e = .returned (.tuple #[.bool (hasV T F m q t), .int .i64 (hasE T F q t)]) ∧ Below w.heap.size w w' := by
  have hB := below_new w (.cells #[.int .i64 T.lits, .slice fa T.foes.length fc, .slice ra T.rules.length rc, .slice ba T.beats.length bc] 25)
  have hX := heap_alloc_new w (.cells #[.int .i64 T.lits, .slice fa T.foes.length fc, .slice ra T.rules.length rc, .slice ba T.beats.length bc] 25)
  have HB := hide hB
  by_cases h0 : faultM T F = 0
  · have CR := hide (rRun_ok h0 (TR.go hB h) (Ints.go hB hF))
    obtain ⟨n, hn⟩ : ∃ n, T.lits.toNat = n := ⟨_, rfl⟩
    have hp := pf_of h0
    rw [hn] at CR hp
    have hln := hp.ln
    have HE1 : Hid ((q < 0 ∨ T.lits ≤ q) → hasE T F q t = 91) := hide (hasE_lit h0)
    have HE2 : Hid (¬(q < 0 ∨ T.lits ≤ q) → hasE T F q t = tagE t) := hide (hasE_tag h0)
    have HM := hide hM
    have HLN := hide hln
    clear h hF hB h0 hp hln hn hM
    go_enter Tryz.func18, Tryz.ntmps18
    go_upto_region 1 with fail
    generalize w.alloc (.cells #[.int .i64 T.lits, .slice fa T.foes.length fc, .slice ra T.rules.length rc, .slice ba T.beats.length bc] 25) = W at *
    obtain ⟨-, c0, c1, c2, c3⟩ := Bt.of hX
    have HX := hide hX
    clear hX
    go_upto_region 4 with (go_at_call 10; refine CR.out.mono ?_; rintro _ w1 ⟨ma, m1, k, rfl, hm, hw1⟩; have HM1 := hide hm; have HW1 := hide hw1; clear hm hw1)
    clear c0 c1 c2 c3 CR
    obtain ⟨-, c0, c1, c2, c3⟩ := Bt.of ((HW1.out.block _ (loc_lt HX.out)).trans HX.out)
    have HBW := hide (HB.out.trans (HW1.out.mono HB.out.size))
    obtain ⟨hs, hl, hat⟩ := HM1.out
    have heq := HM.out _ _ hs
    rw [heq] at hl hat
    have HL := hide hl
    have HA := hide hat
    clear hs hl hat heq HM1 HW1 HX HM HB
    rw [HLN.out] at c0
    by_cases hq0 : q < 0
    · have HE : Hid (hasE T F q t = 91) := hide (HE1.out (.inl hq0))
      go_wp2_with fail
      go_ret2
      exact ⟨ret2_b (hasV_no (by rw [HE.out]; decide)).symm HE.out.symm, HBW.out⟩
    · by_cases hq1 : (n : Int) ≤ q
      · have HE : Hid (hasE T F q t = 91) := hide (HE1.out (.inr (by rw [HLN.out]; exact hq1)))
        go_wp2_with fail
        go_ret2
        exact ⟨ret2_b (hasV_no (by rw [HE.out]; decide)).symm HE.out.symm, HBW.out⟩
      · have HE3 : Hid (hasE T F q t = tagE t) := hide (HE2.out (by rw [HLN.out]; omega))
        by_cases ht0 : t < 1
        · have HE : Hid (hasE T F q t = 1) := hide (by rw [HE3.out, tagE_no (.inl ht0)])
          go_wp2_with fail
          go_ret2
          exact ⟨ret2_b (hasV_no (by rw [HE.out]; decide)).symm HE.out.symm, HBW.out⟩
        · by_cases ht1 : 4 < t
          · have HE : Hid (hasE T F q t = 1) := hide (by rw [HE3.out, tagE_no (.inr ht1)])
            go_wp2_with fail
            go_ret2
            exact ⟨ret2_b (hasV_no (by rw [HE.out]; decide)).symm HE.out.symm, HBW.out⟩
          · have HE : Hid (hasE T F q t = 0) := hide (by rw [HE3.out, tagE_yes (by omega)])
            have htg := tag_of (t := t) (tagE_yes (by omega))
            obtain ⟨x, rfl⟩ := Int.eq_ofNat_of_zero_le (a := q) (by omega)
            have hxn : x < n := by omega
            obtain ⟨g, o, rfl, cm⟩ := HA.out x _ (u8s_at (by rw [HL.out]; exact hxn))
            have CH := hide (rhas_any (w := w1) (x := m.getD x 0) htg)
            have HV : Hid (hb (m.getD x 0) t = hasV T F m (x : Int) t) := hide (hasV_yes HE.out).symm
            generalize hb (m.getD x 0) t = ob at *
            generalize m.getD x 0 = mx at *
            clear htg HE3 HE1 HE2
            go_wp2_with (go_at_call 37; refine CH.out.mono ?_; rintro _ w2 ⟨rfl, hw⟩; subst w2)
            go_ret2
            exact ⟨ret2_b HV.out HE.out.symm, HBW.out⟩
  · have CR := hide (rRun_bad h0 (TR.go hB h) (Ints.go hB hF))
    have HE : Hid (hasE T F q t = faultM T F) := hide (hasE_bad h0)
    have HV : Hid (hasV T F m q t = false) := hide (hasV_no (by rw [HE.out]; exact h0))
    generalize faultM T F = z at *
    have hzb : (z != 0) = true := by simpa using h0
    clear h hF hB h0
    go_enter Tryz.func18, Tryz.ntmps18
    go_upto_region 1 with fail
    generalize w.alloc (.cells #[.int .i64 T.lits, .slice fa T.foes.length fc, .slice ra T.rules.length rc, .slice ba T.beats.length bc] 25) = W at *
    obtain ⟨-, c0, c1, c2, c3⟩ := Bt.of hX
    clear hX
    go_wp2_with (go_at_call 10; refine CR.out.mono ?_; rintro _ w1 ⟨rfl, hw1⟩; have HW1 := hide (HB.out.trans (hw1.mono HB.out.size)); clear hw1)
    go_ret2
    exact ⟨ret2_b HV.out.symm HE.out.symm, HW1.out⟩
set_option maxRecDepth 100000 in
set_option maxHeartbeats 6400000 in
theorem rset_any (hM : Uq T F m) (h : TA w.heap.size w T fa fc ra rc ba bc) (hF : Ints w.heap.size w F (.slice xa F.length xc)) {t : Int} :
    Calls Tryz.prog 20 #[tv T fa fc ra rc ba bc, .slice xa F.length xc, .int .i64 t] w fun e w' => ∃ va vc, e = .returned (.tuple #[.slice va (setL T F m t).length vc, .int .i64 (setE T F t)]) ∧ At1 w' va (ints (setL T F m t)) ∧ Below w.heap.size w w' := by
  obtain ⟨iI, hiI, zI0, zI1, zI2⟩ := info_parts infoI
  have hB := below_new w (.cells #[.int .i64 T.lits, .slice fa T.foes.length fc, .slice ra T.rules.length rc, .slice ba T.beats.length bc] 25)
  have hX := heap_alloc_new w (.cells #[.int .i64 T.lits, .slice fa T.foes.length fc, .slice ra T.rules.length rc, .slice ba T.beats.length bc] 25)
  have HB := hide hB
  by_cases h0 : faultM T F = 0
  · have CR := hide (rRun_ok h0 (TR.go hB h) (Ints.go hB hF))
    obtain ⟨n, hn⟩ : ∃ n, T.lits.toNat = n := ⟨_, rfl⟩
    have hp := pf_of h0
    rw [hn] at CR hp
    have hn4 := hp.n4
    have HE2 : Hid (setE T F t = tagE t) := hide (setE_tag h0)
    have HNN := hide hn
    have HM := hide hM
    clear h hF hB h0 hp hn hM
    go_enter Tryz.func20, Tryz.ntmps20
    go_upto_region 1 with fail
    generalize w.alloc (.cells #[.int .i64 T.lits, .slice fa T.foes.length fc, .slice ra T.rules.length rc, .slice ba T.beats.length bc] 25) = W at *
    obtain ⟨-, c0, c1, c2, c3⟩ := Bt.of hX
    clear hX
    go_upto_region 4 with (go_at_call 10; refine CR.out.mono ?_; rintro _ w1 ⟨ma, m1, kk, rfl, hm, hw1⟩; have HM1 := hide hm; have HW1 := hide hw1; clear hm hw1)
    clear c0 c1 c2 c3 CR
    have HBW := hide (HB.out.trans (HW1.out.mono HB.out.size))
    have HBW2 := hide (fun (X : World) (hX : Below w1.heap.size w1 X) => HBW.out.trans (hX.mono HBW.out.size))
    obtain ⟨hs, hl, hat⟩ := HM1.out
    have heq := HM.out _ _ hs
    rw [heq] at hl hat
    have HL := hide hl
    have HA := hide hat
    clear hs hl hat heq HM1 HM HB HW1
    by_cases ht0 : t < 1
    · have HE : Hid (setE T F t = 1) := hide (by rw [HE2.out, tagE_no (.inl ht0)])
      have HL2 : Hid (setL T F m t = []) := hide (by unfold setL; rw [HE.out]; rfl)
      go_wp2_with fail
      go_ret2
      rw [HL2.out, HE.out]
      first | exact ⟨none, 0, rfl, fun i v hi => (by simp [ints] at hi), HBW.out⟩ | exact ⟨none, ⟨0, rfl⟩, fun i v hi => (by simp [ints] at hi), HBW.out⟩
    · by_cases ht1 : 4 < t
      · have HE : Hid (setE T F t = 1) := hide (by rw [HE2.out, tagE_no (.inr ht1)])
        have HL2 : Hid (setL T F m t = []) := hide (by unfold setL; rw [HE.out]; rfl)
        go_wp2_with fail
        go_ret2
        rw [HL2.out, HE.out]
        first | exact ⟨none, 0, rfl, fun i v hi => (by simp [ints] at hi), HBW.out⟩ | exact ⟨none, ⟨0, rfl⟩, fun i v hi => (by simp [ints] at hi), HBW.out⟩
      · have HE : Hid (setE T F t = 0) := hide (by rw [HE2.out, tagE_yes (by omega)])
        have htg := hide (tag_of (t := t) (tagE_yes (by omega)))
        have HL2 : Hid (setL T F m t = Fa.soL (tagP m t) n) := hide (by unfold setL; rw [if_pos HE.out, HNN.out])
        go_wp2_with fail
        go_loopw [10, 11] (fun y x wr => ∃ (k : Nat) (va : Option Addr) (vc : Nat), k ≤ n ∧ x = .int .i64 k ∧ y = .slice va (Fa.soL (tagP m t) k).length vc ∧ Hid (wr.ownsRow w1.heap.size 3 1 (.slice va (Fa.soL (tagP m t) k).length vc) (Fa.soL (tagP m t) k).length (ints (Fa.soL (tagP m t) k))) ∧ Hid (Below w1.heap.size w1 wr)) (fun _ x _ => n - (intOf x).toNat)
        case atStart => exact ⟨0, none, 0, by omega, rfl, rfl, hide (World.ownsRow_nil _ _ _ _), hide (Below.refl _ _)⟩
        case round =>
          obtain ⟨k, va, vc, hk, rfl, rfl, HR2, HB2⟩ := hrel
          by_cases hlt : k < n
          · obtain ⟨g, o, rfl, cm1⟩ := HA.out k _ (u8s_at (by rw [HL.out]; exact hlt))
            have cm : wr.cell? ⟨g, o + k, none⟩ = some (.int .u8 (m.getD k 0)) := cell_onR cm1 HB2.out
            clear cm1
            have CH := hide (rhas_any (w := wr) (x := m.getD k 0) htg.out)
            cases hv : hb (m.getD k 0) t with
            | true =>
              have HPK : Hid (tagP m t (k : Int) = true) := hide (by unfold tagP; rw [Int.toNat_natCast]; exact hv)
              rw [hv] at CH
              clear hv
              generalize m.getD k 0 = mx at *
              have HS : Hid (Fa.soL (tagP m t) (k + 1) = Fa.soL (tagP m t) k ++ [(k : Int)]) := hide (by rw [Fa.soL_succ, HPK.out]; rfl)
              have hA := below_new wr (.cells #[.int .i64 k] 3)
              have HROW := hide (owns_keep HR2.out fun g hg => hA.block g (owns_lt HR2.out hg))
              have hw2 : w1.heap.size ≤ wr.heap.size := HB2.out.size
              have HHI : Hid (∀ g, Value.ownBlock (.slice va (Fa.soL (tagP m t) k).length vc) = some g → w1.heap.size ≤ g) := hide fun g e => (HR2.out.lt g e).1
              have HA2 := hide hA
              have HT : Hid (ints (Fa.soL (tagP m t) k) ++ [.int .i64 (k : Int)] = ints (Fa.soL (tagP m t) (k + 1))) := hide (by rw [HS.out]; unfold ints; simp)
              have HLN2 : Hid ((Fa.soL (tagP m t) k).length + 1 = (Fa.soL (tagP m t) (k + 1)).length) := hide (by rw [HS.out]; simp)
              have hlen := Fa.soL_len (p := (tagP m t)) (k := k)
              generalize (Fa.soL (tagP m t) k).length = sl0 at *
              clear hA
              go_wp2_with fail
              refine CH.out.mono ?_
              rintro _ w2 ⟨rfl, hw⟩
              subst w2
              go_wp2_with (at_builtin; go_must (refine wpList_append_two _ rfl _ _ 26 rfl w1.heap.size 3 iI _ 1 8 Tryz.underlying26 hiI zI0 zI1 zI2 rfl (by decide) (.slice va sl0 vc) sl0 (ints (Fa.soL (tagP m t) k)) rfl HROW.out ⟨wr.heap.size, 0, none⟩ 1 [.int .i64 k] rfl rfl (cell_one_new _ _ _) (by intro u hu; simp at hu; subst hu; rfl) (by unfold maxLen; omega) (by omega) (by simp; omega) ?_); intro g4 cap4 w4 hown4 hg4; rw [HT.out, HLN2.out] at hown4; have HO4 := hide hown4; have HB4 : Hid (Below w1.heap.size w1 w4) := (hide (HB2.out.trans ((HA2.out.mono HB2.out.size).trans (by rcases hg4 with ⟨h1, h2⟩ | ⟨h1, h2⟩; exact (Fr.of_grown (Z := fun k => w1.heap.size ≤ k) h2 (fun k e => by cases e; exact HHI.out _ h1)).below fun k hk => ⟨by simp; omega, by omega⟩; exact (Fr.of_grown (Z := fun k => w1.heap.size ≤ k) h2 (fun k e => by cases e)).below fun k hk => ⟨by simp; omega, by omega⟩)))); clear hown4 hg4)
              go_roundw
              case rel => exact ⟨k + 1, some ⟨g4, 0, none⟩, cap4, by omega, by go_num, by rw [HLN2.out], HO4, HB4⟩
              case measure => simp [intOf]; omega
            | false =>
              have HPK : Hid (tagP m t (k : Int) = false) := hide (by unfold tagP; rw [Int.toNat_natCast]; exact hv)
              have HS : Hid (Fa.soL (tagP m t) (k + 1) = Fa.soL (tagP m t) k) := hide (by rw [Fa.soL_succ, HPK.out]; rfl)
              rw [hv] at CH
              clear hv
              generalize m.getD k 0 = mx at *
              go_wp2_with fail
              refine CH.out.mono ?_
              rintro _ w2 ⟨rfl, hw⟩
              subst w2
              go_wp2_with fail
              go_roundw
              case rel => exact ⟨k + 1, va, vc, by omega, by go_num, by rw [HS.out], by rw [HS.out]; exact HR2, HB2⟩
              case measure => simp [intOf]; omega
          · have hkn : k = n := by omega
            subst hkn
            go_wp2_with fail
            go_ret2
            rw [HL2.out, HE.out]
            first | exact ⟨va, vc, rfl, owns_at1 HR2.out, HBW2.out _ HB2.out⟩ | exact ⟨va, ⟨vc, rfl⟩, owns_at1 HR2.out, HBW2.out _ HB2.out⟩
  · have CR := hide (rRun_bad h0 (TR.go hB h) (Ints.go hB hF))
    have HE : Hid (setE T F t = faultM T F) := hide (setE_bad h0)
    have HL2 : Hid (setL T F m t = []) := hide (by unfold setL; rw [if_neg (by rw [HE.out]; exact h0)])
    rw [HL2.out, HE.out]
    clear HE HL2
    generalize faultM T F = z at *
    have hzb : (z != 0) = true := by simpa using h0
    clear h hF hB h0
    go_enter Tryz.func20, Tryz.ntmps20
    go_upto_region 1 with fail
    generalize w.alloc (.cells #[.int .i64 T.lits, .slice fa T.foes.length fc, .slice ra T.rules.length rc, .slice ba T.beats.length bc] 25) = W at *
    obtain ⟨-, c0, c1, c2, c3⟩ := Bt.of hX
    clear hX
    go_wp2_with (go_at_call 10; refine CR.out.mono ?_; rintro _ w1 ⟨rfl, hw1⟩; have HW1 := hide (HB.out.trans (hw1.mono HB.out.size)); clear hw1)
    go_ret2
    first | exact ⟨none, 0, rfl, fun i v hi => (by simp [ints] at hi), HW1.out⟩ | exact ⟨none, ⟨0, rfl⟩, fun i v hi => (by simp [ints] at hi), HW1.out⟩
set_option maxRecDepth 100000 in
set_option maxHeartbeats 6400000 in
theorem rund_any (hM : Uq T F m) (h : TA w.heap.size w T fa fc ra rc ba bc) (hF : Ints w.heap.size w F (.slice xa F.length xc)) :
    Calls Tryz.prog 22 #[tv T fa fc ra rc ba bc, .slice xa F.length xc] w fun e w' => ∃ va vc, e = .returned (.tuple #[.slice va (undL T F m).length vc, .int .i64 (faultM T F)]) ∧ At1 w' va (ints (undL T F m)) ∧ Below w.heap.size w w' := by
  obtain ⟨iI, hiI, zI0, zI1, zI2⟩ := info_parts infoI
  have hB := below_new w (.cells #[.int .i64 T.lits, .slice fa T.foes.length fc, .slice ra T.rules.length rc, .slice ba T.beats.length bc] 25)
  have hX := heap_alloc_new w (.cells #[.int .i64 T.lits, .slice fa T.foes.length fc, .slice ra T.rules.length rc, .slice ba T.beats.length bc] 25)
  have HB := hide hB
  by_cases h0 : faultM T F = 0
  · have CR := hide (rRun_ok h0 (TR.go hB h) (Ints.go hB hF))
    obtain ⟨n, hn⟩ : ∃ n, T.lits.toNat = n := ⟨_, rfl⟩
    have hp := pf_of h0
    rw [hn] at CR hp
    have hn4 := hp.n4
    have HE2 : Hid (faultM T F = 0) := hide h0
    have HNN := hide hn
    have HM := hide hM
    clear h hF hB h0 hp hn hM
    go_enter Tryz.func22, Tryz.ntmps22
    go_upto_region 1 with fail
    generalize w.alloc (.cells #[.int .i64 T.lits, .slice fa T.foes.length fc, .slice ra T.rules.length rc, .slice ba T.beats.length bc] 25) = W at *
    obtain ⟨-, c0, c1, c2, c3⟩ := Bt.of hX
    clear hX
    go_upto_region 4 with (go_at_call 10; refine CR.out.mono ?_; rintro _ w1 ⟨ma, m1, kk, rfl, hm, hw1⟩; have HM1 := hide hm; have HW1 := hide hw1; clear hm hw1)
    clear c0 c1 c2 c3 CR
    have HBW := hide (HB.out.trans (HW1.out.mono HB.out.size))
    have HBW2 := hide (fun (X : World) (hX : Below w1.heap.size w1 X) => HBW.out.trans (hX.mono HBW.out.size))
    obtain ⟨hs, hl, hat⟩ := HM1.out
    have heq := HM.out _ _ hs
    rw [heq] at hl hat
    have HL := hide hl
    have HA := hide hat
    clear hs hl hat heq HM1 HM HB HW1
    have HL2 : Hid (undL T F m = Fa.soL (undP m) n) := hide (by unfold undL; rw [if_pos HE2.out, HNN.out])
    go_wp2_with fail
    go_loopw [8, 9] (fun y x wr => ∃ (k : Nat) (va : Option Addr) (vc : Nat), k ≤ n ∧ x = .int .i64 k ∧ y = .slice va (Fa.soL (undP m) k).length vc ∧ Hid (wr.ownsRow w1.heap.size 3 1 (.slice va (Fa.soL (undP m) k).length vc) (Fa.soL (undP m) k).length (ints (Fa.soL (undP m) k))) ∧ Hid (Below w1.heap.size w1 wr)) (fun _ x _ => n - (intOf x).toNat)
    case atStart => exact ⟨0, none, 0, by omega, rfl, rfl, hide (World.ownsRow_nil _ _ _ _), hide (Below.refl _ _)⟩
    case round =>
      obtain ⟨k, va, vc, hk, rfl, rfl, HR2, HB2⟩ := hrel
      by_cases hlt : k < n
      · obtain ⟨g, o, rfl, cm1⟩ := HA.out k _ (u8s_at (by rw [HL.out]; exact hlt))
        have cm : wr.cell? ⟨g, o + k, none⟩ = some (.int .u8 (m.getD k 0)) := cell_onR cm1 HB2.out
        clear cm1
        have CH3 := hide (rhas_any (w := wr) (x := m.getD k 0) tag3)
        have CH4 := hide (rhas_any (w := wr) (x := m.getD k 0) tag4)
        cases hv : hb (m.getD k 0) 3 with
        | true =>
          have HPK : Hid (undP m (k : Int) = false) := hide (by unfold undP; rw [Int.toNat_natCast, hv]; rfl)
          have HS : Hid (Fa.soL (undP m) (k + 1) = Fa.soL (undP m) k) := hide (by rw [Fa.soL_succ, HPK.out]; rfl)
          rw [hv] at CH3
          clear hv CH4
          generalize m.getD k 0 = mx at *
          go_wp2_with fail
          refine CH3.out.mono ?_
          rintro _ w7 ⟨rfl, hw⟩
          subst w7
          go_wp2_with fail
          go_roundw
          case rel => exact ⟨k + 1, va, vc, by omega, by go_num, by rw [HS.out], by rw [HS.out]; exact HR2, HB2⟩
          case measure => simp [intOf]; omega
        | false =>
          cases hv4 : hb (m.getD k 0) 4 with
          | true =>
            have HPK : Hid (undP m (k : Int) = false) := hide (by unfold undP; rw [Int.toNat_natCast, hv, hv4]; rfl)
            have HS : Hid (Fa.soL (undP m) (k + 1) = Fa.soL (undP m) k) := hide (by rw [Fa.soL_succ, HPK.out]; rfl)
            rw [hv] at CH3
            rw [hv4] at CH4
            clear hv hv4
            generalize m.getD k 0 = mx at *
            go_wp2_with fail
            refine CH3.out.mono ?_
            rintro _ w7 ⟨rfl, hw⟩
            subst w7
            go_wp2_with fail
            refine CH4.out.mono ?_
            rintro _ w8 ⟨rfl, hw⟩
            subst w8
            go_wp2_with fail
            go_roundw
            case rel => exact ⟨k + 1, va, vc, by omega, by go_num, by rw [HS.out], by rw [HS.out]; exact HR2, HB2⟩
            case measure => simp [intOf]; omega
          | false =>
            have HPK : Hid (undP m (k : Int) = true) := hide (by unfold undP; rw [Int.toNat_natCast, hv, hv4]; rfl)
            rw [hv] at CH3
            rw [hv4] at CH4
            clear hv hv4
            generalize m.getD k 0 = mx at *
            have HS : Hid (Fa.soL (undP m) (k + 1) = Fa.soL (undP m) k ++ [(k : Int)]) := hide (by rw [Fa.soL_succ, HPK.out]; rfl)
            have hA := below_new wr (.cells #[.int .i64 k] 3)
            have HROW := hide (owns_keep HR2.out fun g hg => hA.block g (owns_lt HR2.out hg))
            have hw2 : w1.heap.size ≤ wr.heap.size := HB2.out.size
            have HHI : Hid (∀ g, Value.ownBlock (.slice va (Fa.soL (undP m) k).length vc) = some g → w1.heap.size ≤ g) := hide fun g e => (HR2.out.lt g e).1
            have HA2 := hide hA
            have HT : Hid (ints (Fa.soL (undP m) k) ++ [.int .i64 (k : Int)] = ints (Fa.soL (undP m) (k + 1))) := hide (by rw [HS.out]; unfold ints; simp)
            have HLN2 : Hid ((Fa.soL (undP m) k).length + 1 = (Fa.soL (undP m) (k + 1)).length) := hide (by rw [HS.out]; simp)
            have hlen := Fa.soL_len (p := (undP m)) (k := k)
            generalize (Fa.soL (undP m) k).length = sl0 at *
            clear hA
            go_wp2_with fail
            refine CH3.out.mono ?_
            rintro _ w7 ⟨rfl, hw⟩
            subst w7
            go_wp2_with fail
            refine CH4.out.mono ?_
            rintro _ w8 ⟨rfl, hw⟩
            subst w8
            go_wp2_with (at_builtin; go_must (refine wpList_append_two _ rfl _ _ 26 rfl w1.heap.size 3 iI _ 1 8 Tryz.underlying26 hiI zI0 zI1 zI2 rfl (by decide) (.slice va sl0 vc) sl0 (ints (Fa.soL (undP m) k)) rfl HROW.out ⟨wr.heap.size, 0, none⟩ 1 [.int .i64 k] rfl rfl (cell_one_new _ _ _) (by intro u hu; simp at hu; subst hu; rfl) (by unfold maxLen; omega) (by omega) (by simp; omega) ?_); intro g4 cap4 w4 hown4 hg4; rw [HT.out, HLN2.out] at hown4; have HO4 := hide hown4; have HB4 : Hid (Below w1.heap.size w1 w4) := (hide (HB2.out.trans ((HA2.out.mono HB2.out.size).trans (by rcases hg4 with ⟨h1, h2⟩ | ⟨h1, h2⟩; exact (Fr.of_grown (Z := fun k => w1.heap.size ≤ k) h2 (fun k e => by cases e; exact HHI.out _ h1)).below fun k hk => ⟨by simp; omega, by omega⟩; exact (Fr.of_grown (Z := fun k => w1.heap.size ≤ k) h2 (fun k e => by cases e)).below fun k hk => ⟨by simp; omega, by omega⟩)))); clear hown4 hg4)
            go_roundw
            case rel => exact ⟨k + 1, some ⟨g4, 0, none⟩, cap4, by omega, by go_num, by rw [HLN2.out], HO4, HB4⟩
            case measure => simp [intOf]; omega
      · have hkn : k = n := by omega
        subst hkn
        go_wp2_with fail
        go_ret2
        rw [HL2.out, HE2.out]
        first | exact ⟨va, vc, rfl, owns_at1 HR2.out, HBW2.out _ HB2.out⟩ | exact ⟨va, ⟨vc, rfl⟩, owns_at1 HR2.out, HBW2.out _ HB2.out⟩
  · have CR := hide (rRun_bad h0 (TR.go hB h) (Ints.go hB hF))
    have HL2 : Hid (undL T F m = []) := hide (by unfold undL; rw [if_neg h0])
    rw [HL2.out]
    clear HL2
    generalize faultM T F = z at *
    have hzb : (z != 0) = true := by simpa using h0
    clear h hF hB h0
    go_enter Tryz.func22, Tryz.ntmps22
    go_upto_region 1 with fail
    generalize w.alloc (.cells #[.int .i64 T.lits, .slice fa T.foes.length fc, .slice ra T.rules.length rc, .slice ba T.beats.length bc] 25) = W at *
    obtain ⟨-, c0, c1, c2, c3⟩ := Bt.of hX
    clear hX
    go_wp2_with (go_at_call 10; refine CR.out.mono ?_; rintro _ w1 ⟨rfl, hw1⟩; have HW1 := hide (HB.out.trans (hw1.mono HB.out.size)); clear hw1)
    go_ret2
    first | exact ⟨none, 0, rfl, fun i v hi => (by simp [ints] at hi), HW1.out⟩ | exact ⟨none, ⟨0, rfl⟩, fun i v hi => (by simp [ints] at hi), HW1.out⟩
end
end Go.Proofs.YtcobmbclhhimjaaGreat.Rf
/- The document's answer, layer 16: Differ. -/
namespace Go.Proofs.YtcobmbclhhimjaaGreat.Rf
open Go.RowKit

section
variable {w : World} {T : Th} {m m2 A B : List Int} {fa ra ba xa ya : Option Addr} {fc rc bc xc yc : Nat}
set_option maxRecDepth 100000 in
set_option maxHeartbeats 6400000 in
theorem rdif_any (hMA : Uq T A m) (hMB : Uq T B m2) (h : TA w.heap.size w T fa fc ra rc ba bc) (hF : Ints w.heap.size w A (.slice xa A.length xc)) (hF2 : Ints w.heap.size w B (.slice ya B.length yc)) :
    Calls Tryz.prog 24 #[tv T fa fc ra rc ba bc, .slice xa A.length xc, .slice ya B.length yc] w fun e w' => ∃ va vc, e = .returned (.tuple #[.slice va (difL T A B m m2).length vc, .int .i64 (difE T A B)]) ∧ At1 w' va (ints (difL T A B m m2)) ∧ Below w.heap.size w w' := by
  obtain ⟨iI, hiI, zI0, zI1, zI2⟩ := info_parts infoI
  have hB := below_new w (.cells #[.int .i64 T.lits, .slice fa T.foes.length fc, .slice ra T.rules.length rc, .slice ba T.beats.length bc] 25)
  have hX := heap_alloc_new w (.cells #[.int .i64 T.lits, .slice fa T.foes.length fc, .slice ra T.rules.length rc, .slice ba T.beats.length bc] 25)
  have HB := hide hB
  by_cases h0 : faultM T A = 0
  · have CR := hide (rRun_ok h0 (TR.go hB h) (Ints.go hB hF))
    have hp := pf_of h0
    have hn4 := hp.n4
    have HTA := hide (TR.go hB h)
    have HF2 := hide (Ints.go hB hF2)
    have HED : Hid (difE T A B = faultM T B) := hide (by unfold difE; rw [if_neg (by omega)])
    have HMA := hide hMA
    have HMB := hide hMB
    have HX := hide hX
    clear h hF hF2 hB h0 hp hMA hMB
    go_enter Tryz.func24, Tryz.ntmps24
    go_upto_region 1 with fail
    generalize w.alloc (.cells #[.int .i64 T.lits, .slice fa T.foes.length fc, .slice ra T.rules.length rc, .slice ba T.beats.length bc] 25) = W at *
    obtain ⟨-, c0, c1, c2, c3⟩ := Bt.of hX
    clear hX
    go_upto_region 4 with (go_at_call 10; refine CR.out.mono ?_; rintro _ w1 ⟨ma, m1, kk, rfl, hm, hw1⟩; have HM1 := hide hm; have HW1 := hide hw1; clear hm hw1)
    clear c0 c1 c2 c3 CR
    obtain ⟨-, c0, c1, c2, c3⟩ := Bt.of ((HW1.out.block _ (loc_lt HX.out)).trans HX.out)
    have HB1 := hide (HB.out.trans (HW1.out.mono HB.out.size))
    obtain ⟨hs, hl, hat⟩ := HM1.out
    have heq := HMA.out _ _ hs
    rw [heq] at hl hat
    have HL := hide hl
    have HA := hide hat
    clear hs hl hat heq HM1 HMA HB
    by_cases h1 : faultM T B = 0
    · have CR := hide (rRun_ok h1 (TR.go HW1.out HTA.out) (Ints.go HW1.out HF2.out))
      have HE : Hid (difE T A B = 0) := hide (by rw [HED.out, h1])
      have HL2 : Hid (difL T A B m m2 = Fa.soL (difB m m2) T.lits.toNat) := hide (by unfold difL; rw [if_pos HE.out])
      have HLL := HL2
      clear h1 HL2 HED HTA HF2
      generalize T.lits.toNat = n at *
      go_upto_region 7 with (go_at_call 10; refine CR.out.mono ?_; rintro _ w2 ⟨ma2, m3, k3, rfl, hm, hw2⟩; have HM1 := hide hm; have HW2 := hide hw2; clear hm hw2)
      obtain ⟨hs, hl, hat⟩ := HM1.out
      have heq := HMB.out _ _ hs
      rw [heq] at hl hat
      have HL2 := hide hl
      have HA2 := hide hat
      have HA1 := hide (HA.out.below HW2.out)
      have HBW := hide (HB1.out.trans (HW2.out.mono HB1.out.size))
      have HBW2 := hide (fun (X : World) (hX : Below w2.heap.size w2 X) => HBW.out.trans (hX.mono HBW.out.size))
      clear hs hl hat heq HM1 HMB HW1 HW2 HB1 HX CR c0 c1 c2 c3 HA
      go_wp2_with fail
      go_loopw [12, 13] (fun y x wr => ∃ (k : Nat) (va : Option Addr) (vc : Nat), k ≤ n ∧ x = .int .i64 k ∧ y = .slice va (Fa.soL (difB m m2) k).length vc ∧ Hid (wr.ownsRow w2.heap.size 3 1 (.slice va (Fa.soL (difB m m2) k).length vc) (Fa.soL (difB m m2) k).length (ints (Fa.soL (difB m m2) k))) ∧ Hid (Below w2.heap.size w2 wr)) (fun _ x _ => n - (intOf x).toNat)
      case atStart => exact ⟨0, none, 0, by omega, rfl, rfl, hide (World.ownsRow_nil _ _ _ _), hide (Below.refl _ _)⟩
      case round =>
        obtain ⟨k, va, vc, hk, rfl, rfl, HR1, HBr⟩ := hrel
        by_cases hlt : k < n
        · obtain ⟨g, o, rfl, cm1⟩ := HA1.out k _ (u8s_at (by rw [HL.out]; exact hlt))
          obtain ⟨g2, o2, rfl, cm2⟩ := HA2.out k _ (u8s_at (by rw [HL2.out]; exact hlt))
          have ca : wr.cell? ⟨g, o + k, none⟩ = some (.int .u8 (m.getD k 0)) := cell_onR cm1 HBr.out
          have cb : wr.cell? ⟨g2, o2 + k, none⟩ = some (.int .u8 (m2.getD k 0)) := cell_onR cm2 HBr.out
          have HPE : Hid (difB m m2 (k : Int) = (m.getD k 0 != m2.getD k 0)) := hide (by unfold difB; rw [Int.toNat_natCast])
          clear cm1 cm2
          by_cases hxy : m.getD k 0 = m2.getD k 0
          · have HPK : Hid (difB m m2 (k : Int) = false) := hide (by rw [HPE.out, hxy]; simp)
            have HS : Hid (Fa.soL (difB m m2) (k + 1) = Fa.soL (difB m m2) k) := hide (by rw [Fa.soL_succ, HPK.out]; rfl)
            clear HPE HPK
            generalize m.getD k 0 = x at *
            generalize m2.getD k 0 = y at *
            subst hxy
            go_wp2_with fail
            go_quiet (fail)
            have HB2 := hide (HBr.out.trans ((below_drewN wr nq).mono HBr.out.size))
            have HR2 := hide (owns_keep HR1.out fun g hg => (below_drewN wr nq).block g (owns_lt HR1.out hg))
            go_wp2_with fail
            go_roundw
            case rel => exact ⟨k + 1, va, vc, by omega, by go_num, by rw [HS.out], by rw [HS.out]; exact HR2, HB2⟩
            case measure => simp [intOf]; omega
          · have HPK : Hid (difB m m2 (k : Int) = true) := hide (by rw [HPE.out]; simpa using hxy)
            have hne : (m.getD k 0 != m2.getD k 0) = true := by simpa using hxy
            clear HPE hxy
            generalize m.getD k 0 = x at *
            generalize m2.getD k 0 = y at *
            go_wp2_with fail
            go_quiet (fail)
            have HB2 := hide (HBr.out.trans ((below_drewN wr nq).mono HBr.out.size))
            have HR2 := hide (owns_keep HR1.out fun g hg => (below_drewN wr nq).block g (owns_lt HR1.out hg))
            clear ca cb HBr HR1
            generalize wr.drewN nq = wq at *
            have HS : Hid (Fa.soL (difB m m2) (k + 1) = Fa.soL (difB m m2) k ++ [(k : Int)]) := hide (by rw [Fa.soL_succ, HPK.out]; rfl)
            have hA := below_new wq (.cells #[.int .i64 k] 3)
            have HROW := hide (owns_keep HR2.out fun g hg => hA.block g (owns_lt HR2.out hg))
            have hw2 : w2.heap.size ≤ wq.heap.size := HB2.out.size
            have HHI : Hid (∀ g, Value.ownBlock (.slice va (Fa.soL (difB m m2) k).length vc) = some g → w2.heap.size ≤ g) := hide fun g e => (HR2.out.lt g e).1
            have HA2 := hide hA
            have HT : Hid (ints (Fa.soL (difB m m2) k) ++ [.int .i64 (k : Int)] = ints (Fa.soL (difB m m2) (k + 1))) := hide (by rw [HS.out]; unfold ints; simp)
            have HLN2 : Hid ((Fa.soL (difB m m2) k).length + 1 = (Fa.soL (difB m m2) (k + 1)).length) := hide (by rw [HS.out]; simp)
            have hlen := Fa.soL_len (p := (difB m m2)) (k := k)
            generalize (Fa.soL (difB m m2) k).length = sl0 at *
            clear hA
            go_wp2_with (at_builtin; go_must (refine wpList_append_two _ rfl _ _ 26 rfl w2.heap.size 3 iI _ 1 8 Tryz.underlying26 hiI zI0 zI1 zI2 rfl (by decide) (.slice va sl0 vc) sl0 (ints (Fa.soL (difB m m2) k)) rfl HROW.out ⟨wq.heap.size, 0, none⟩ 1 [.int .i64 k] rfl rfl (cell_one_new _ _ _) (by intro u hu; simp at hu; subst hu; rfl) (by unfold maxLen; omega) (by omega) (by simp; omega) ?_); intro g4 cap4 w4 hown4 hg4; rw [HT.out, HLN2.out] at hown4; have HO4 := hide hown4; have HB4 : Hid (Below w2.heap.size w2 w4) := (hide (HB2.out.trans ((HA2.out.mono HB2.out.size).trans (by rcases hg4 with ⟨h1, h2⟩ | ⟨h1, h2⟩; exact (Fr.of_grown (Z := fun k => w2.heap.size ≤ k) h2 (fun k e => by cases e; exact HHI.out _ h1)).below fun k hk => ⟨by simp; omega, by omega⟩; exact (Fr.of_grown (Z := fun k => w2.heap.size ≤ k) h2 (fun k e => by cases e)).below fun k hk => ⟨by simp; omega, by omega⟩)))); clear hown4 hg4)
            go_roundw
            case rel => exact ⟨k + 1, some ⟨g4, 0, none⟩, cap4, by omega, by go_num, by rw [HLN2.out], HO4, HB4⟩
            case measure => simp [intOf]; omega
        · have hkn : k = n := by omega
          subst hkn
          go_wp2_with fail
          go_ret2
          rw [HLL.out, HE.out]
          first | exact ⟨va, vc, rfl, owns_at1 HR1.out, HBW2.out _ HBr.out⟩ | exact ⟨va, ⟨vc, rfl⟩, owns_at1 HR1.out, HBW2.out _ HBr.out⟩
    · have CR := hide (rRun_bad h1 (TR.go HW1.out HTA.out) (Ints.go HW1.out HF2.out))
      have HL2 : Hid (difL T A B m m2 = []) := hide (by unfold difL; rw [if_neg (by rw [HED.out]; exact h1)])
      generalize faultM T B = z at *
      have hzb : (z != 0) = true := by simpa using h1
      clear h1
      go_wp2_with (go_at_call 10; refine CR.out.mono ?_; rintro _ w2 ⟨rfl, hw2⟩; have HW2 := hide (HB1.out.trans (hw2.mono HB1.out.size)); clear hw2)
      go_ret2
      rw [HL2.out, HED.out]
      first | exact ⟨none, 0, rfl, fun i v hi => (by simp [ints] at hi), HW2.out⟩ | exact ⟨none, ⟨0, rfl⟩, fun i v hi => (by simp [ints] at hi), HW2.out⟩
  · have CR := hide (rRun_bad h0 (TR.go hB h) (Ints.go hB hF))
    have HED : Hid (difE T A B = faultM T A) := hide (by unfold difE; rw [if_pos h0])
    have HL2 : Hid (difL T A B m m2 = []) := hide (by unfold difL; rw [if_neg (by rw [HED.out]; exact h0)])
    rw [HL2.out, HED.out]
    clear HL2 HED
    generalize faultM T A = z at *
    have hzb : (z != 0) = true := by simpa using h0
    clear h hF hF2 hB h0
    go_enter Tryz.func24, Tryz.ntmps24
    go_upto_region 1 with fail
    generalize w.alloc (.cells #[.int .i64 T.lits, .slice fa T.foes.length fc, .slice ra T.rules.length rc, .slice ba T.beats.length bc] 25) = W at *
    obtain ⟨-, c0, c1, c2, c3⟩ := Bt.of hX
    clear hX
    go_wp2_with (go_at_call 10; refine CR.out.mono ?_; rintro _ w1 ⟨rfl, hw1⟩; have HW1 := hide (HB.out.trans (hw1.mono HB.out.size)); clear hw1)
    go_ret2
    first | exact ⟨none, 0, rfl, fun i v hi => (by simp [ints] at hi), HW1.out⟩ | exact ⟨none, ⟨0, rfl⟩, fun i v hi => (by simp [ints] at hi), HW1.out⟩
end
end Go.Proofs.YtcobmbclhhimjaaGreat.Rf
