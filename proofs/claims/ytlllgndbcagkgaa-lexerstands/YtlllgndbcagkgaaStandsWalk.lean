/- LexerStands, walked. -/
import Derived.Test.YtlllgndbcagkgaaGaps
import Derived.Test.YtlllgndbcagkgaaCutsWalk
namespace Go.Proofs.Ytlllgndbcagkgaa
open Go.RowKit

set_option maxRecDepth 100000 in
set_option maxHeartbeats 3200000 in
theorem gap_any (s : ByteArray) (w : World) (hs : s.size ≤ 140737488351232) :
    Calls Try.prog 25 #[.string s] w fun e w' => e = .returned (.bool (gapB false s.data.toList)) ∧ w' = w := by
  have HLen := hide (show s.data.toList.length = s.size by simp)
  go_enter Try.func25, Try.ntmps25
  go_wp2_with fail
  go_loop [3, 4] (fun f x => ∃ (k : Nat) (b : Bool), k ≤ s.size ∧ x = .int .i64 k ∧ f = .bool b ∧ Hid (gapB b (s.data.toList.drop k) = gapB false s.data.toList)) (fun _ x => s.size - (intOf x).toNat)
  case atStart => exact ⟨0, false, by omega, rfl, rfl, rfl⟩
  case round =>
    obtain ⟨k, b, hk, rfl, rfl, HG⟩ := hrel
    by_cases hlt : k < s.size
    · have hdc := drop_cons s.data.toList k (by rw [HLen.out]; exact hlt)
      rw [getD_at s k hlt] at hdc
      have HG2 := HG
      rw [hdc, gapB] at HG2
      have H1 := (cls_nums s[k].toNat).1
      have H2 := (cls_nums s[k].toNat).2.1
      have H8 := (cls_nums s[k].toNat).2.2.2.2.2.2.2.1
      have hcl : clsB s[k] = cls (s[k].toNat : Int) := rfl
      rw [hcl] at HG2
      by_cases h10 : (s[k].toNat : Int) = 10
      · rw [if_pos (H1.2 h10)] at HG2
        clear H1 H2 H8 hdc HG hcl
        go_wp2_with fail
        go_round
        case rel => exact ⟨k + 1, false, by omega, by go_num, rfl, HG2⟩
        case measure => simp [intOf]; omega
      · rw [if_neg (fun h => h10 (H1.1 h))] at HG2
        by_cases h35 : (s[k].toNat : Int) = 35
        · rw [if_pos (H8.2 h35)] at HG2
          clear H1 H2 H8 hdc HG hcl
          go_wp2_with fail
          go_round
          case rel => exact ⟨k + 1, true, by omega, by go_num, rfl, HG2⟩
          case measure => simp [intOf]; omega
        · rw [if_neg (fun h => h35 (H8.1 h))] at HG2
          cases b with
          | true =>
            rw [if_neg (by simp)] at HG2
            clear H1 H2 H8 hdc HG hcl
            go_wp2_with fail
            go_round
            case rel => exact ⟨k + 1, true, by omega, by go_num, rfl, HG2⟩
            case measure => simp [intOf]; omega
          | false =>
            by_cases h2 : cls (s[k].toNat : Int) = 2
            · rw [if_neg (by simp [h2])] at HG2
              have h2' := H2.1 h2
              clear H1 H2 H8 hdc HG hcl h2
              rcases h2' with h | h | h
              all_goals
                go_wp2_with fail
                go_round
                case rel => exact ⟨k + 1, false, by omega, by go_num, rfl, HG2⟩
                case measure => simp [intOf]; omega
            · rw [if_pos ⟨rfl, h2⟩] at HG2
              have n9 : ((s[k].toNat : Int) != 9) = true := by simp; intro h; exact h2 (H2.2 (.inl h))
              have n13 : ((s[k].toNat : Int) != 13) = true := by simp; intro h; exact h2 (H2.2 (.inr (.inl h)))
              have n32 : ((s[k].toNat : Int) != 32) = true := by simp; intro h; exact h2 (H2.2 (.inr (.inr h)))
              clear H1 H2 H8 hdc HG hcl h2
              go_wp2_with fail
              go_ret
              exact ⟨ret_bool HG2.out, rfl⟩
    · have e : s.data.toList.drop k = [] := List.drop_eq_nil_of_le (by rw [HLen.out]; omega)
      rw [e] at HG
      have HG2 : Hid (true = gapB false s.data.toList) := HG.out
      clear HG e
      go_wp2_with fail
      go_ret
      exact ⟨ret_bool HG2.out, rfl⟩

theorem err_place : ∀ (n : Nat) (l : List UInt8), l.length ≤ n → ∀ (i : Nat) (tk : List Tok) (rm : List (List UInt8)), (W l i tk rm).place ≤ i + l.length := by
  intro n
  induction n with
  | zero =>
    intro l hl i tk rm
    have : l = [] := List.eq_nil_of_length_eq_zero (by omega)
    subst this; simp [W_nil]
  | succ n ih =>
    intro l hl i tk rm
    cases l with
    | nil => simp [W_nil]
    | cons c r =>
      simp only [List.length_cons] at hl
      by_cases hb : blankB c = true
      · rw [W_blank _ _ _ _ _ hb]; have := ih r (by omega) (i + 1) tk rm; simp; omega
      · have hb' : blankB c = false := by simpa using hb
        by_cases h8 : clsB c = 8
        · rw [W_remark _ _ _ _ _ h8]
          have := ih (r.drop (span noEnd r)) (by simp; omega) (i + 1 + span noEnd r) tk (rm ++ [r.take (span noEnd r)])
          have h2 := span_le noEnd r
          simp only [List.length_drop, List.length_cons] at this ⊢
          omega
        · by_cases he : (one (c :: r)).2.2.1 = 0
          · have hol := one_len (l := c :: r) (by simp) he
            rw [W_tok c r i tk rm hb' h8 he]
            have := ih ((c :: r).drop (one (c :: r)).2.1) (by simp only [List.length_drop, List.length_cons]; omega) (i + (one (c :: r)).2.1) (tk ++ [tokOf (one (c :: r)).1 (one (c :: r)).2.1 (c :: r) i]) rm
            simp only [List.length_drop] at this
            omega
          · rw [W_err c r i tk rm hb' h8 he]
            have hoff : (one (c :: r)).2.2.2 ≤ (c :: r).length := by
              have hfin : ∀ k n, n ≤ (c :: r).length → (fin k n (c :: r)).2.2.2 ≤ (c :: r).length := by
                intro k n hn
                unfold fin
                split
                · simp
                · split
                  · exact hn
                  · simp
              unfold one
              split
              · next hd => exact hfin _ _ (dateB_len hd)
              · split
                · next h5 => exact hfin _ _ (numLen_bd (by simp) (digB_cls.2 h5)).2
                · split
                  · exact hfin _ _ (span_le _ _)
                  · split
                    · exact hfin _ _ (span_le _ _)
                    · split
                      · split <;> simp
                      · split
                        · simp
                        · split <;> simp
            simp only
            omega

theorem lexT_bound (s : List UInt8) : (lexT s).place ≤ s.length := by
  unfold lexT
  split
  · simp
  · have := err_place s.length s (Nat.le_refl _) 0 [] []
    have e : lexR s = W s 0 [] [] := rfl
    rw [e]; omega

theorem lexT_cut {s : List UInt8} (he : (lexT s).err = 0) : ∃ rs, Cut s 0 (lexT s).tk rs := by
  obtain ⟨_, _, hR⟩ := lexT_place he
  rw [hR] at he ⊢
  obtain ⟨ts, rs, h1, _, h3⟩ := cut_of_W _ _ (Nat.le_refl _) 0 [] [] he
  have h1' : (lexR s).tk = ts := by have : (lexR s).tk = [] ++ ts := h1; simpa using this
  rw [h1']; exact ⟨rs, h3⟩

set_option maxRecDepth 100000 in
set_option maxHeartbeats 8000000 in
theorem stands_walk (s : ByteArray) (w : World) (_hs : s.size ≤ 140737488351232) :
    Calls Try.prog 7 #[.string s] w fun e w' => e = .returned (.bool true) ∧ Below w.heap.size w w' := by
  have CW := hide works_any
  have C1 := hide (tokens_any s)
  have HL := lexT_len s.data.toList
  have HLen := hide (show s.data.toList.length = s.size by simp)
  have hPl := lexT_bound s.data.toList
  rw [HLen.out] at hPl
  have HCut := hide (fun he => lexT_cut (s := s.data.toList) he)
  have HPl := hide (fun he => (lexT_place (s := s.data.toList) he).1)
  have HPs := hide (fun he => (lexT_place (s := s.data.toList) he).2.1)
  have HE := hide (fun he => lexT_err (s := s.data.toList) he)
  generalize lexT s.data.toList = Z at *
  go_enter Try.func7, Try.ntmps7
  go_wp2_with fail
  refine (CW.out _).mono ?_
  rintro _ w1 ⟨rfl, hb1⟩
  have B1 := hide hb1
  clear hb1
  go_wp2_with fail
  refine (C1.out _).mono ?_
  rintro _ w2 ⟨v, rfl, ho, hb2⟩
  obtain ⟨a, c, rfl, hr⟩ := own_rowT ho
  have B2 : Hid (Below w.heap.size w w2) := B1.out.trans (hb2.mono B1.out.size)
  have R2 := hide hr
  clear hb2 hr ho C1 B1 CW
  by_cases he : Z.err = 0
  · have he' : (Z.err : Int) = 0 := by omega
    rw [he']
    have hp1 := HPl.out he
    have hp2 := HPs.out he
    rw [HLen.out] at hp1 hp2
    rw [hp1]
    have HC0 := hide (HCut.out he)
    clear HPl HPs HE HCut hPl hp1
    go_wp2_with fail
    go_loopw [6, 7] (fun e x wr => ∃ (E k : Nat), k ≤ Z.tk.length ∧ E ≤ s.size ∧ e = .int .i64 E ∧ x = .int .i64 k ∧ Hid (∃ rs, Cut (s.data.toList.drop E) E (Z.tk.drop k) rs) ∧ Hid (Below w.heap.size w wr) ∧ Hid (RowT wr a Z.tk)) (fun _ x _ => Z.tk.length - (intOf x).toNat)
    case atStart => exact ⟨0, 0, Nat.zero_le _, Nat.zero_le _, rfl, rfl, HC0.out, B2, R2⟩
    case round =>
      obtain ⟨E, k, hk, hE, rfl, rfl, HC, HB, HR⟩ := hrel
      clear HC0 B2 R2
      obtain ⟨rs, hcut⟩ := HC.out
      by_cases hlt : k < Z.tk.length
      · obtain ⟨t, ht⟩ : ∃ t, Z.tk[k]? = some t := ⟨Z.tk[k], by simp [hlt]⟩
        have hdr : Z.tk.drop k = t :: Z.tk.drop (k + 1) := by
          rw [List.drop_eq_getElem_cons hlt]
          congr 1
          exact (List.getElem?_eq_some_iff.1 ht).2
        obtain ⟨g, x, z, rs', h1, h2, h3, h4, h5⟩ := (cut_next hcut).2 t _ hdr
        have hlen := congrArg List.length h1
        simp only [List.length_drop, List.length_append, HLen.out] at hlen
        obtain ⟨b, o, hab, r0, r1, r2⟩ := HR.out k t ht
        subst hab
        obtain ⟨P, hP⟩ : ∃ P, t.place = P := ⟨_, rfl⟩
        have hx1 : 1 ≤ x.length := List.length_pos_iff.2 h4.1.ne
        have htext := piece_text h4 (by omega)
        have htx : (⟨t.text.toArray⟩ : ByteArray).size ≤ 140737488351232 := by
          show t.text.toArray.size ≤ _
          rw [h4.2]
          unfold tokW tokOf
          simp only [List.size_toArray]
          split <;> simp <;> omega
        have CT := hide (fun w => text_any t.kind ⟨t.text.toArray⟩ t.place w htx)
        have hta : textF (t.kind : Int) (⟨t.text.toArray⟩ : ByteArray).data.toList = some x := htext
        rw [hta] at CT
        simp only [textV, strV] at CT r1
        rw [hP] at h3 r2 CT
        have hPX : P + x.length ≤ s.size := by omega
        have hdP : s.data.toList.drop P = x ++ z := by
          rw [h3]
          have e1 : s.data.toList.drop (E + g.length) = (s.data.toList.drop E).drop g.length := by rw [List.drop_drop]
          rw [e1, h1, List.drop_left]
        have hX : (s.extract P (P + x.length)).data.toList = x := by
          rw [sub_data]
          unfold sub
          have e2 : P + x.length - P = x.length := by omega
          rw [hdP, e2, List.take_left]
        have hGp : (s.extract E P).data.toList = g := by
          rw [sub_data]
          unfold sub
          have e2 : P - E = g.length := by omega
          rw [h1, e2, List.take_left]
        have CG := hide (fun w => gap_any (s.extract E P) w (by rw [ByteArray.size_extract]; omega))
        rw [hGp, h2] at CG
        have HN : Hid (∃ rs, Cut (s.data.toList.drop (P + x.length)) (P + x.length) (Z.tk.drop (k + 1)) rs) := by
          refine ⟨rs', ?_⟩
          have e3 : s.data.toList.drop (P + x.length) = z := by
            have e4 : s.data.toList.drop (P + x.length) = (s.data.toList.drop P).drop x.length := by rw [List.drop_drop]
            rw [e4, hdP, List.drop_left]
          rw [e3, h3]; exact h5
        obtain ⟨xB, hxB⟩ : ∃ g : ByteArray, ⟨x.toArray⟩ = g := ⟨_, rfl⟩
        have hxs : xB.size = x.length := by rw [← hxB]; show x.toArray.size = _; simp
        have hxl : xB.data.toList = x := by rw [← hxB]
        have HXe : Hid (s.extract P (P + x.length) = xB) := by
          apply ByteArray.ext
          apply Array.toList_inj.1
          rw [hX, hxl]
        rw [hxB] at CT
        have hEP : E ≤ P := by omega
        have hcmp : ((s.extract P (P + x.length)).toList == xB.toList) = true := by rw [HXe.out]; simp
        have hemp : (xB.toList == []) = false := by rw [ByteArray.toList_eq, hxl]; cases hxx : x with | nil => rw [hxx] at hx1; simp at hx1 | cons _ _ => rfl
        have hemp2 : xB.toList.isEmpty = false := by rw [ByteArray.toList_eq, hxl]; cases hxx : x with | nil => rw [hxx] at hx1; simp at hx1 | cons _ _ => rfl
        generalize x.length = X at *
        have w1' : IntKind.i64.wrap ((P : Int) + (X : Int)) = (P : Int) + (X : Int) := by rw [IntKind.wrap_i64]; omega
        have d1 : decide (P < E) = false := decide_eq_false (by omega)
        have d2 : decide ((s.size : Int) < (P : Int) + (X : Int)) = false := decide_eq_false (by omega)
        have d3 : ((s.extract P ((P : Int) + (X : Int)).toNat).toList == xB.toList) = true := by
          have e5 : ((P : Int) + (X : Int)).toNat = P + X := by omega
          rw [e5]; exact hcmp
        have q3 : (E : Int) ≤ (P : Int) := by omega
        have q4 : (P : Int) ≤ (P : Int) + (X : Int) := by omega
        have q5 : (P : Int) + (X : Int) ≤ (s.size : Int) := by omega
        have q6 : (0 : Int) ≤ (P : Int) + (X : Int) := by omega
        have q7 : (P : Int) ≤ (s.size : Int) := by omega
        clear hcut HC h1 h2 h3 h4 h5 hlen hta htext hdP hX hGp hxB hdr htx ht
        go_wp2_with fail
        refine (CT.out _).mono ?_
        rintro _ w3 ⟨rfl, hb3⟩
        have HB3 : Hid (Below w.heap.size w w3) := HB.out.trans (hb3.mono HB.out.size)
        have HR3 := hide (HR.out.below hb3)
        have hbl : b < wr.heap.size := World.block_lt_of_cell? wr _ r0
        have r0' := (hb3.cell (p := ⟨b, o + k * 3, none⟩) hbl).trans r0
        have r1' := (hb3.cell (p := ⟨b, o + k * 3 + 1, none⟩) hbl).trans r1
        have r2' := (hb3.cell (p := ⟨b, o + k * 3 + 2, none⟩) hbl).trans r2
        clear hb3 CT HB HR r0 r1 r2 hbl
        go_wp2_with fail
        go_quiet ((go_at_call 25; exact Calls.quiet_of_same (CG.out _)))
        go_wp2_with fail
        go_roundw
        case rel => exact ⟨P + X, k + 1, by omega, by omega, by go_num, by go_num, HN, HB3.out.trans ((below_drewN w3 nq).mono HB3.out.size), HR3.out.below (below_drewN w3 nq)⟩
        case measure => simp [intOf]; omega
      · have hke : Z.tk.drop k = [] := List.drop_eq_nil_of_le (by omega)
        have hg := (cut_next hcut).1 hke
        have hEl : (s.extract E s.size).data.toList = s.data.toList.drop E := extract_end s E
        have CG := hide (fun w => gap_any (s.extract E s.size) w (by rw [ByteArray.size_extract]; omega))
        rw [hEl, hg] at CG
        clear hcut HC hke hg hEl
        go_wp2_with fail
        refine (CG.out _).mono ?_
        rintro _ w3 ⟨rfl, hw3⟩
        subst w3
        go_wp2_with fail
        go_ret
        exact ⟨rfl, HB.out⟩
  · have he' : ¬ (Z.err : Int) = 0 := by omega
    have hz : Z.tk.length = 0 := by rw [(HE.out he).1]; rfl
    rw [hz]
    have p1 : (0 : Int) ≤ (Z.place : Int) := by omega
    have p2 : (Z.place : Int) ≤ (s.size : Int) := by omega
    clear he HCut HPl HPs HE hz
    go_wp2_with fail
    go_ret
    exact ⟨rfl, B2.out⟩
end Go.Proofs.Ytlllgndbcagkgaa
