/- The document's walk over a text. -/
import Derived.Test.YtlllgndbcagkgaaRefMark
import Derived.OwnWalk
namespace Go.Proofs.Ytlllgndbcagkgaa
open Go.RowKit

theorem one_five {l : List UInt8} (h : (one l).2.2.1 = 0) (h5 : (one l).1 = 5) : 2 ≤ (one l).2.1 := by
  unfold one at h h5 ⊢
  by_cases hd : dateB l = true
  · rw [if_pos hd] at h h5; rw [fin_ok h] at h5; simp at h5
  · rw [if_neg hd] at h h5 ⊢
    by_cases c5 : clsB (l.getD 0 0) = 5
    · rw [if_pos c5] at h h5; rw [fin_ok h] at h5; simp at h5
    · rw [if_neg c5] at h h5 ⊢
      by_cases c3 : clsB (l.getD 0 0) = 3
      · rw [if_pos c3] at h h5; rw [fin_ok h] at h5; simp at h5
      · rw [if_neg c3] at h h5 ⊢
        by_cases c4 : clsB (l.getD 0 0) = 4
        · rw [if_pos c4] at h h5; rw [fin_ok h] at h5; simp at h5
        · rw [if_neg c4] at h h5 ⊢
          by_cases c7 : clsB (l.getD 0 0) = 7
          · rw [if_pos c7] at h ⊢
            by_cases hq : clsB (l.getD (span inQ (l.drop 1) + 1) 0) = 7
            · rw [if_pos hq]; simp
            · rw [if_neg hq] at h; simp at h
          · rw [if_neg c7] at h h5 ⊢
            by_cases h2 : 2 ≤ l.length ∧ markB (l.take 2) = true
            · rw [if_pos h2] at h5; simp at h5
            · rw [if_neg h2] at h h5 ⊢
              by_cases h1 : markB (l.take 1) = true
              · rw [if_pos h1] at h5; simp at h5
              · rw [if_neg h1] at h; simp at h

/-- Two rows of the call's own, of tokens and of texts. -/
structure Two (B : Nat) (tv rv : Value) (tk : List Tok) (rm : List (List UInt8)) (w0 w : World) : Prop where
  bel : Below B w0 w
  size : B ≤ w.heap.size
  tks : w.ownsRow B 47 3 tv tk.length (cellsT tk)
  rms : w.ownsRow B 9 1 rv rm.length (rm.map strV)

section
variable {B : Nat} {tv rv : Value} {tk : List Tok} {rm : List (List UInt8)} {w0 w w1 : World}

theorem own_kinds {e e' k k' n n' : Nat} {v v' : Value} {xs xs' : List Value} (h : w.ownsRow B e k v n xs) (h' : w.ownsRow B e' k' v' n' xs') (hne : e ≠ e') : v'.ownBlock = none ∨ v'.ownBlock ≠ v.ownBlock := by
  rcases h'.2 with ⟨rfl, _⟩ | ⟨g, cap, cur, rfl, _, hz, _⟩
  · exact .inl rfl
  · refine .inr fun e1 => ?_
    rcases h.2 with ⟨rfl, _⟩ | ⟨g', cap', cur', rfl, _, hz', _⟩
    · cases e1
    · have : g' = g := by simpa [Value.ownBlock] using e1.symm
      subst this
      rw [hz] at hz'
      simp at hz'
      exact hne hz'.2.symm

theorem grown_below (hs : B ≤ w.heap.size) {row : Option Nat} (hg : w.grownBy w1 row) (hr : ∀ k, row = some k → B ≤ k) (hb : Below B w0 w) : Below B w0 w1 :=
  hb.trans ⟨hg.os, hg.tape, hg.output, hg.size, fun k hk => hg.block k (by omega) fun e => by have := hr k e.symm; omega⟩

theorem Two.tok (h : Two B tv rv tk rm w0 w) {v : Value} (t : Tok) (hown : w1.ownsRow B 47 3 v (tk.length + 1) (cellsT tk ++ [.int .i64 t.kind, strV t.text, .int .i64 t.place])) (hg : w.grownBy w1 tv.ownBlock) : Two B v rv (tk ++ [t]) rm w0 w1 := by
  refine ⟨grown_below h.size hg (fun k hk => (h.tks.lt k hk).1) h.bel, Nat.le_trans h.size hg.size, ?_, h.rms.kept hg (own_kinds h.tks h.rms (by decide))⟩
  simp only [cellsT_snoc, List.length_append, List.length_cons, List.length_nil]
  exact hown

theorem Two.rem (h : Two B tv rv tk rm w0 w) {v : Value} (t : List UInt8) (hown : w1.ownsRow B 9 1 v (rm.length + 1) (rm.map strV ++ [strV t])) (hg : w.grownBy w1 rv.ownBlock) : Two B tv v tk (rm ++ [t]) w0 w1 := by
  refine ⟨grown_below h.size hg (fun k hk => (h.rms.lt k hk).1) h.bel, Nat.le_trans h.size hg.size, h.tks.kept hg (own_kinds h.rms h.tks (by decide)), ?_⟩
  simp only [List.map_append, List.map_cons, List.map_nil, List.length_append, List.length_cons, List.length_nil]
  exact hown

theorem Two.below (h : Two B tv rv tk rm w0 w) (hb : Below w.heap.size w w1) : Two B tv rv tk rm w0 w1 := by
  have ow : ∀ {e k n : Nat} {v : Value} {xs : List Value}, w.ownsRow B e k v n xs → w1.ownsRow B e k v n xs := fun {e k n v xs} ho => by
    refine ⟨ho.1, ?_⟩
    rcases ho.2 with h3 | ⟨g, cap, cur, h4, h5, h6, h7⟩
    · exact .inl h3
    · exact .inr ⟨g, cap, cur, h4, h5, (hb.block g (Array.getElem?_eq_some_iff.1 h6).1).trans h6, h7⟩
  exact ⟨h.bel.trans (hb.mono h.size), Nat.le_trans h.size hb.size, ow h.tks, ow h.rms⟩
end

set_option maxRecDepth 100000 in
set_option maxHeartbeats 8000000 in
theorem walk_any (s : ByteArray) (w : World) (B : Nat) (hB : w.heap.size = B) :
    Calls Try.prog 27 #[.string s] w fun r w' => ∃ tv rv, r = .returned (.tuple #[tv, rv, .int .i64 (lexT s.data.toList).err, .int .i64 (lexT s.data.toList).place]) ∧ Two B tv rv (lexT s.data.toList).tk (lexT s.data.toList).rm w w' := by
  have hsl : s.data.toList.length = s.size := by simp
  by_cases hs : 65536 < s.size
  · have HL : Hid (lexT s.data.toList = ⟨[], [], 5, 0⟩) := by unfold Hid lexT; rw [if_pos (by omega)]
    rw [HL.out]
    clear hsl HL
    go_enter Try.func27, Try.ntmps27
    go_wp2_with fail
    try simp only [Exit.inBlock, Exit.then]
    refine bodyPost_ret (results_tmp4 rfl _ _ _) rfl ?_
    exact ⟨_, _, rfl, ⟨Below.refl _ _, by omega, ⟨rfl, .inl ⟨rfl, rfl⟩⟩, ⟨rfl, .inl ⟨rfl, rfl⟩⟩⟩⟩
  · have HL : Hid (lexT s.data.toList = lexR s.data.toList) := by unfold Hid lexT; rw [if_neg (by omega)]
    rw [HL.out]
    have HB := hide hB
    have HLen := hide hsl
    clear HL hB hsl
    obtain ⟨iT, hiT, zT0, zT1, zT2⟩ := info_parts infoTok
    obtain ⟨iS, hiS, zS0, zS1, zS2⟩ := info_parts infoStr
    go_enter Try.func27, Try.ntmps27
    go_wp2_with fail
    go_loopw [6, 7, 8] (fun tv rv x wr => ∃ (k : Nat) (tk : List Tok) (rm : List (List UInt8)), k ≤ s.size ∧ x = .int .i64 k ∧ tk.length ≤ k ∧ rm.length ≤ k ∧ Hid (Two B tv rv tk rm w wr) ∧ Hid (W (s.data.toList.drop k) k tk rm = lexR s.data.toList)) (fun _ _ x _ => s.size - (intOf x).toNat)
    case atStart => exact ⟨0, [], [], Nat.zero_le _, rfl, Nat.zero_le _, Nat.zero_le _, ⟨Below.refl _ _, by rw [HB.out]; exact Nat.le_refl _, ⟨rfl, .inl ⟨rfl, rfl⟩⟩, ⟨rfl, .inl ⟨rfl, rfl⟩⟩⟩, rfl⟩
    case round =>
      obtain ⟨k, tk, rm, hk, rfl, htk, hrm, HT, HW⟩ := hrel
      by_cases hlt : k < s.size
      · have HG : Hid (s.data.toList.getD k 0 = s[k]) := getD_at s k hlt
        have HDC := hide (drop_cons s.data.toList k (by rw [HLen.out]; exact hlt))
        rw [HG.out] at HDC
        have CB := hide (blank_any s[k] wr)
        cases hb : blankB s[k] with
        | true =>
          have HW2 : Hid (W (s.data.toList.drop (k + 1)) (k + 1) tk rm = lexR s.data.toList) := by
            unfold Hid
            rw [← HW.out, HDC.out, W_blank _ _ _ _ _ hb]
          rw [hb] at CB
          clear hb HW HG HDC
          go_wp2_with fail
          refine CB.out.mono ?_
          rintro _ w1 ⟨rfl, hw1⟩
          subst w1
          go_wp2_with fail
          go_roundw
          case rel => exact ⟨k + 1, tk, rm, by omega, by go_num, by omega, by omega, HT, HW2⟩
          case measure => simp [intOf]; omega
        | false =>
          have HBk := hide hb
          rw [hb] at CB
          clear hb
          have H8 := hide ((cls_nums s[k].toNat).2.2.2.2.2.2.2.1)
          by_cases h35 : (s[k].toNat : Int) = 35
          · have h8 : clsB s[k] = 8 := H8.out.2 h35
            have HW2 := HW
            rw [HDC.out, W_remark _ _ _ _ _ h8] at HW2
            rw [h35] at CB
            clear HW HG HDC H8 HBk h8
            go_wp2_with fail
            refine CB.out.mono ?_
            rintro _ w1 ⟨rfl, hw1⟩
            subst w1
            go_wp2_with fail
            clear CB
            go_loop [9] (fun x => ∃ m : Nat, k ≤ m ∧ m ≤ s.size ∧ x = .int .i64 m ∧ Hid (∀ j, k ≤ j → j < m → noEnd (s.data.toList.getD j 0) = true)) (fun x => s.size - (intOf x).toNat)
            case atStart => exact ⟨k, Nat.le_refl _, by omega, rfl, fun j h1 h2 => by omega⟩
            case round =>
              obtain ⟨m, hkm, hms, rfl, HM⟩ := hrel
              have go : ∀ (_ : m < s.size → noEnd (s.data.toList.getD m 0) = false) (_ : k + 1 ≤ m), W (s.data.toList.drop m) m tk (rm ++ [sub s.data.toList (k + 1) m]) = lexR s.data.toList := by
                intro hm hkm1
                rw [← HW2.out, span_drop _ _ (k + 1) m hkm1 (by rw [HLen.out]; exact hms) (fun j h1 h2 => HM.out j (by omega) h2) (fun h => hm (by rw [HLen.out] at h; exact h)), List.drop_drop]
                have e : k + 1 + (m - (k + 1)) = m := by omega
                rw [e]; rfl
              have GO := hide go
              clear go
              by_cases hml : m < s.size
              · have HG : Hid (s.data.toList.getD m 0 = s[m]) := getD_at s m hml
                have H1 := hide ((cls_nums s[m].toNat).1)
                by_cases h10 : (s[m].toNat : Int) = 10
                · have hkm1 : k + 1 ≤ m := by
                    by_cases e : m = k
                    · subst e; omega
                    · omega
                  have HW3 := hide (GO.out (fun _ => by rw [HG.out]; exact decide_eq_false (fun h => h (H1.out.2 h10))) hkm1)
                  have b1 : (k : Int) + 1 ≤ (m : Int) := by omega
                  clear HM GO HW2
                  go_wp2_with (at_builtin; go_must (refine wpList_append_lies _ rfl _ _ 28 rfl B 9 iS _ 1 16 Try.underlying28 hiS zS0 zS1 zS2 rfl (by omega) _ rm.length (rm.map strV) rfl (HT.out.rms.alloc _) ⟨wr.heap.size, 0, none⟩ 1 1 [.string (s.extract (k + 1) m)] rfl rfl (World.news_of_block (cs := #[.string (s.extract (k + 1) m)]) (t := 9) (fr := (0, 0)) (heap_alloc_new wr _)) (by simp [Value.oneCell']) (by omega) (by unfold maxLen; omega) (by omega) (by simp; have := HT.out.size; omega) (wr.heap.size + 1) (by simp) ?_))
                  intro g cap w1 hown hgrow hat hlt1
                  have HT2 := hide (HT.out.rem (sub s.data.toList (k + 1) m) (by rw [← sub_data, strV_data]; exact hown) ((grown_alloc wr _ _).trans hgrow))
                  clear hown hgrow hat hlt1
                  go_wp2_with fail
                  go_roundw
                  case rel => exact ⟨m, tk, rm ++ [sub s.data.toList (k + 1) m], by omega, rfl, by omega, by simp; omega, HT2, HW3⟩
                  case measure => simp [intOf]; omega
                · have n10 : ((s[m].toNat : Int) != 10) = true := by simpa using h10
                  have HN : Hid (∀ j, k ≤ j → j < m + 1 → noEnd (s.data.toList.getD j 0) = true) := fun j h1 h2 => by
                    by_cases e : j = m
                    · subst e; rw [HG.out]; exact decide_eq_true (fun h => h10 (H1.out.1 h))
                    · exact HM.out j h1 (by omega)
                  clear HM HG H1 GO HW2 h10
                  go_wp2_with fail
                  go_round
                  case rel => exact ⟨m + 1, by omega, by omega, by go_num, HN⟩
                  case measure => simp [intOf]; omega
              · have hkm1 : k + 1 ≤ m := by omega
                have HW3 := hide (GO.out (fun h => absurd h hml) hkm1)
                have b1 : (k : Int) + 1 ≤ (m : Int) := by omega
                clear HM GO HW2
                go_wp2_with (at_builtin; go_must (refine wpList_append_lies _ rfl _ _ 28 rfl B 9 iS _ 1 16 Try.underlying28 hiS zS0 zS1 zS2 rfl (by omega) _ rm.length (rm.map strV) rfl (HT.out.rms.alloc _) ⟨wr.heap.size, 0, none⟩ 1 1 [.string (s.extract (k + 1) m)] rfl rfl (World.news_of_block (cs := #[.string (s.extract (k + 1) m)]) (t := 9) (fr := (0, 0)) (heap_alloc_new wr _)) (by simp [Value.oneCell']) (by omega) (by unfold maxLen; omega) (by omega) (by simp; have := HT.out.size; omega) (wr.heap.size + 1) (by simp) ?_))
                intro g cap w1 hown hgrow hat hlt1
                have HT2 := hide (HT.out.rem (sub s.data.toList (k + 1) m) (by rw [← sub_data, strV_data]; exact hown) ((grown_alloc wr _ _).trans hgrow))
                clear hown hgrow hat hlt1
                go_wp2_with fail
                go_roundw
                case rel => exact ⟨m, tk, rm ++ [sub s.data.toList (k + 1) m], by omega, rfl, by omega, by simp; omega, HT2, HW3⟩
                case measure => simp [intOf]; omega
          · have h8 : clsB s[k] ≠ 8 := fun h => h35 (H8.out.1 h)
            have CO := hide (one_any s k wr (by omega) hlt)
            by_cases he : (one (s.data.toList.drop k)).2.2.1 = 0
            · have HLn := hide (one_len (l := s.data.toList.drop k) (by rw [HDC.out]; simp) he)
              have H5 := hide (fun h => one_five he h)
              have HW2 : Hid (W (s.data.toList.drop (k + (one (s.data.toList.drop k)).2.1)) (k + (one (s.data.toList.drop k)).2.1) (tk ++ [tokOf (one (s.data.toList.drop k)).1 (one (s.data.toList.drop k)).2.1 (s.data.toList.drop k) k]) rm = lexR s.data.toList) := by
                have h := HW.out
                have he' := he
                rw [HDC.out] at h he'
                rw [W_tok _ _ _ _ _ HBk.out h8 he', ← HDC.out, List.drop_drop] at h
                exact h
              unfold oneV at CO
              rw [if_pos he] at CO
              have hK := HLn.out
              simp only [List.length_drop, HLen.out] at hK
              clear HW HG HDC H8 HBk h8 HLn he
              generalize one (s.data.toList.drop k) = o at CO H5 HW2 hK
              obtain ⟨kd, m, ee, pp⟩ := o
              simp only at CO H5 HW2 hK
              obtain ⟨K, hKe⟩ : ∃ K, K = k + m := ⟨_, rfl⟩
              rw [← hKe] at CO HW2
              have hkK : k < K := by omega
              have hKs : K ≤ s.size := by omega
              have HKe := hide hKe
              clear hKe
              go_wp2_with fail
              refine CB.out.mono ?_
              rintro _ w1 ⟨rfl, hw1⟩
              subst w1
              go_wp2_with fail
              refine CO.out.mono ?_
              rintro _ w1 ⟨rfl, hb1⟩
              have HT1 := hide (HT.out.below hb1)
              clear hb1 CB CO
              by_cases h5 : kd = 5
              · subst h5
                have hm2 : 2 ≤ m := H5.out rfl
                have HTk : Hid (tokOf 5 m (s.data.toList.drop k) k = ⟨5, (s.extract (k + 1) (K - 1)).data.toList, k⟩) := by
                  unfold Hid tokOf
                  rw [if_pos rfl, sub_data]
                  unfold sub
                  rw [List.drop_take, List.drop_drop]
                  have e : m - 1 - 1 = K - 1 - (k + 1) := by have := HKe.out; omega
                  rw [e]
                have b1 : (k : Int) + 1 ≤ (K : Int) - 1 := by have := HKe.out; omega
                have eK : (K : Int) - 1 = ((K - 1 : Nat) : Int) := by omega
                have b2 : k + 1 ≤ K - 1 := by have := HKe.out; omega
                have b3 : K - 1 ≤ s.size := by omega
                clear H5 hK
                go_wp2_with (at_builtin; go_must (refine wpList_append_lies _ rfl _ _ 22 rfl B 47 iT _ 3 32 Try.underlying22 hiT zT0 zT1 zT2 rfl (by omega) _ tk.length (cellsT tk) rfl (HT1.out.tks.alloc _) ⟨w1.heap.size, 0, none⟩ 1 1 [.int .i64 5, .string (s.extract (k + 1) (K - 1)), .int .i64 k] rfl rfl (World.news_of_block (cs := #[.int .i64 5, .string (s.extract (k + 1) (K - 1)), .int .i64 k]) (t := 47) (fr := (0, 0)) (heap_alloc_new w1 _)) (by simp [Value.oneCell']) (by omega) (by unfold maxLen; omega) (by omega) (by simp; have := HT1.out.size; omega) (w1.heap.size + 1) (by simp) ?_))
                intro g cap w2 hown hgrow hat hlt1
                have HT2 := hide (HT1.out.tok (tokOf 5 m (s.data.toList.drop k) k) (by rw [HTk.out]; rw [strV_data]; exact hown) ((grown_alloc w1 _ _).trans hgrow))
                clear hown hgrow hat hlt1
                go_wp2_with fail
                go_roundw
                case rel => exact ⟨K, _, rm, by omega, rfl, by simp; omega, by omega, HT2, HW2⟩
                case measure => simp [intOf]; omega
              · have HTk : Hid (tokOf kd m (s.data.toList.drop k) k = ⟨kd, (s.extract k K).data.toList, k⟩) := by
                  unfold Hid tokOf
                  rw [if_neg h5, sub_data]
                  unfold sub
                  have e : m = K - k := by have := HKe.out; omega
                  rw [e]
                have h5' : ¬ (kd : Int) = 5 := by omega
                clear H5 hK h5
                go_wp2_with (at_builtin; go_must (refine wpList_append_lies _ rfl _ _ 22 rfl B 47 iT _ 3 32 Try.underlying22 hiT zT0 zT1 zT2 rfl (by omega) _ tk.length (cellsT tk) rfl (HT1.out.tks.alloc _) ⟨w1.heap.size, 0, none⟩ 1 1 [.int .i64 kd, .string (s.extract k K), .int .i64 k] rfl rfl (World.news_of_block (cs := #[.int .i64 kd, .string (s.extract k K), .int .i64 k]) (t := 47) (fr := (0, 0)) (heap_alloc_new w1 _)) (by simp [Value.oneCell']) (by omega) (by unfold maxLen; omega) (by omega) (by simp; have := HT1.out.size; omega) (w1.heap.size + 1) (by simp) ?_))
                intro g cap w2 hown hgrow hat hlt1
                have HT2 := hide (HT1.out.tok (tokOf kd m (s.data.toList.drop k) k) (by rw [HTk.out]; rw [strV_data]; exact hown) ((grown_alloc w1 _ _).trans hgrow))
                clear hown hgrow hat hlt1
                go_wp2_with fail
                go_roundw
                case rel => exact ⟨K, _, rm, by omega, rfl, by simp; omega, by omega, HT2, HW2⟩
                case measure => simp [intOf]; omega
            · have HE := hide (W_err s[k] (s.data.toList.drop (k + 1)) k tk rm HBk.out h8 (by rw [← HDC.out]; exact he))
              rw [← HDC.out, HW.out] at HE
              unfold oneV at CO
              rw [if_neg he] at CO
              have hne : ((one (s.data.toList.drop k)).2.2.1 : Int) ≠ 0 := by omega
              clear HW HG HDC H8 HBk h8 he
              generalize (one (s.data.toList.drop k)).2.2.1 = ee at *
              generalize k + (one (s.data.toList.drop k)).2.2.2 = pp at *
              go_wp2_with fail
              refine CB.out.mono ?_
              rintro _ w1 ⟨rfl, hw1⟩
              subst w1
              go_wp2_with fail
              refine CO.out.mono ?_
              rintro _ w1 ⟨rfl, hb1⟩
              have HT1 := hide (HT.out.below hb1)
              clear hb1 CB CO
              go_wp2_with fail
              try simp only [Exit.inBlock, Exit.then]
              refine bodyPost_ret (results_tmp4 rfl _ _ _) rfl ?_
              rw [HE.out]
              exact ⟨_, _, rfl, ⟨HT1.out.bel, HT1.out.size, ⟨rfl, .inl ⟨rfl, rfl⟩⟩, ⟨rfl, .inl ⟨rfl, rfl⟩⟩⟩⟩
      · have HE : Hid (lexR s.data.toList = ⟨tk, rm, 0, s.size⟩) := by
          have e : k = s.size := by omega
          unfold Hid
          rw [← HW.out, List.drop_eq_nil_of_le (by rw [HLen.out]; omega), W_nil, e]
        go_wp2_with fail
        try simp only [Exit.inBlock, Exit.then]
        refine bodyPost_ret (results_tmp4 rfl _ _ _) rfl ?_
        rw [HE.out]
        exact ⟨_, _, rfl, HT.out⟩
end Go.Proofs.Ytlllgndbcagkgaa
