/- LexerTogether, walked. -/
import Derived.Test.YtlllgndbcagkgaaTwo
import Derived.Test.YtlllgndbcagkgaaSrc
import Derived.Test.YtlllgndbcagkgaaBackWalk
namespace Go.Proofs.Ytlllgndbcagkgaa
open Go.RowKit

theorem own_below {w w1 : World} {B e k n : Nat} {v : Value} {xs : List Value} (ho : w.ownsRow B e k v n xs) (hb : Below w.heap.size w w1) : w1.ownsRow B e k v n xs := by
  refine ⟨ho.1, ?_⟩
  rcases ho.2 with h3 | ⟨g, cap, cur, h4, h5, h6, h7⟩
  · exact .inl h3
  · exact .inr ⟨g, cap, cur, h4, h5, (hb.block g (Array.getElem?_eq_some_iff.1 h6).1).trans h6, h7⟩

theorem cellsT_app (a b : List Tok) : cellsT (a ++ b) = cellsT a ++ cellsT b := by simp [cellsT]

theorem own_empty (w : World) (e k : Nat) : (w.alloc (.cells #[] e)).ownsRow w.heap.size e k (.slice (some ⟨w.heap.size, 0, none⟩) 0 0) 0 [] :=
  ⟨by simp, .inr ⟨w.heap.size, 0, #[], rfl, Nat.le_refl _, heap_alloc_new w _, Nat.le_refl _, by unfold maxLen; omega, by simp, by simp⟩⟩

set_option maxRecDepth 100000 in
set_option maxHeartbeats 8000000 in
theorem together_walk (a b : ByteArray) (w : World) (ha : a.size ≤ 140737488351232) (hb : b.size ≤ 140737488351232) :
    Calls Try.prog 8 #[.string a, .string b] w fun e w' => e = .returned (.bool true) ∧ Below w.heap.size w w' := by
  have CW := hide works_any
  have T1 := hide (tokens_any a)
  have T2 := hide (tokens_any b)
  have T3 := hide (tokens_any (a ++ ⟨#[10]⟩ ++ b))
  have S1 := hide (remarks_any a)
  have S2 := hide (remarks_any b)
  have S3 := hide (remarks_any (a ++ ⟨#[10]⟩ ++ b))
  have hab : (a ++ ⟨#[10]⟩ ++ b : ByteArray).data.toList = a.data.toList ++ 10 :: b.data.toList := by simp
  rw [hab] at T3 S3
  have hal : a.data.toList.length = a.size := by simp
  have hbl : b.data.toList.length = b.size := by simp
  have hla := lexT_len a.data.toList
  have hlb := lexT_len b.data.toList
  have hlc := lexT_len (a.data.toList ++ 10 :: b.data.toList)
  have HBig : Hid (65536 < a.size + b.size + 1 → (lexT (a.data.toList ++ 10 :: b.data.toList)).err = 5) := fun h => by
    unfold lexT
    rw [if_pos (by simp; omega)]
  have HTwo := hide (fun h => lex_two a.data.toList b.data.toList h)
  rw [hal, hbl] at HTwo
  have HEr := hide (fun h => (lexT_err (s := a.data.toList ++ 10 :: b.data.toList) h).1)
  clear hab hal hbl
  generalize lexT (a.data.toList ++ 10 :: b.data.toList) = Zc at *
  generalize lexT a.data.toList = Za at *
  generalize lexT b.data.toList = Zb at *
  obtain ⟨iT, hiT, zT0, zT1, zT2⟩ := info_parts infoTok
  obtain ⟨iS, hiS, zS0, zS1, zS2⟩ := info_parts infoStr
  go_enter Try.func8, Try.ntmps8
  go_wp2_with fail
  refine (CW.out _).mono ?_
  rintro _ w1 ⟨rfl, hb1⟩
  have B1 := hide hb1
  clear hb1
  go_wp2_with fail
  refine (T1.out _).mono ?_
  rintro _ w2 ⟨v2, rfl, o2, hb2⟩
  have B2 : Hid (Below w.heap.size w w2) := B1.out.trans (hb2.mono B1.out.size)
  have O2 := hide o2
  clear hb2 o2 T1 B1
  go_wp2_with fail
  refine (T2.out _).mono ?_
  rintro _ w3 ⟨v3, rfl, o3, hb3⟩
  have B3 : Hid (Below w.heap.size w w3) := B2.out.trans (hb3.mono B2.out.size)
  have O2' := hide (own_below O2.out hb3)
  have O3 := hide o3
  clear hb3 o3 T2 B2 O2
  go_wp2_with fail
  refine (T3.out _).mono ?_
  rintro _ w4 ⟨v4, rfl, o4, hb4⟩
  have B4 : Hid (Below w.heap.size w w4) := B3.out.trans (hb4.mono B3.out.size)
  have O2'' := hide (own_below O2'.out hb4)
  have O3' := hide (own_below O3.out hb4)
  have O4 := hide o4
  clear hb4 o4 T3 B3 O2' O3
  go_wp2_with fail
  refine (S1.out _).mono ?_
  rintro _ w5 ⟨v5, rfl, o5, hb5⟩
  have B5 : Hid (Below w.heap.size w w5) := B4.out.trans (hb5.mono B4.out.size)
  have P2 := hide (own_below O2''.out hb5)
  have P3 := hide (own_below O3'.out hb5)
  have P4 := hide (own_below O4.out hb5)
  have P5 := hide o5
  clear hb5 o5 S1 B4 O2'' O3' O4
  go_wp2_with fail
  refine (S2.out _).mono ?_
  rintro _ w6 ⟨v6, rfl, o6, hb6⟩
  have B6 : Hid (Below w.heap.size w w6) := B5.out.trans (hb6.mono B5.out.size)
  have Q2 := hide (own_below P2.out hb6)
  have Q3 := hide (own_below P3.out hb6)
  have Q4 := hide (own_below P4.out hb6)
  have Q5 := hide (own_below P5.out hb6)
  have Q6 := hide o6
  clear hb6 o6 S2 B5 P2 P3 P4 P5
  go_wp2_with fail
  refine (S3.out _).mono ?_
  rintro _ w7 ⟨v7, rfl, o7, hb7⟩
  have B7 : Hid (Below w.heap.size w w7) := B6.out.trans (hb7.mono B6.out.size)
  have R2 := hide (own_below Q2.out hb7)
  have R3 := hide (own_below Q3.out hb7)
  have R4 := hide (own_below Q4.out hb7)
  have R5 := hide (own_below Q5.out hb7)
  have R6 := hide (own_below Q6.out hb7)
  have R7 := hide o7
  clear hb7 o7 S3 B6 Q2 Q3 Q4 Q5 Q6
  by_cases hbig : 65536 < a.size + b.size + 1
  · have hbig' : 65536 < (a.size : Int) + (b.size : Int) + 1 := by omega
    have he5 : (Zc.err : Int) = 5 := by have := HBig.out hbig; omega
    rw [he5]
    clear HBig HTwo HEr hbig he5
    go_wp2_with fail
    go_ret
    exact ⟨rfl, B7.out⟩
  · have hbig' : decide (65536 < (a.size : Int) + (b.size : Int) + 1) = false := decide_eq_false (by omega)
    obtain ⟨hyes, hno⟩ := HTwo.out (by omega)
    by_cases hok : Za.err = 0 ∧ Zb.err = 0
    · obtain ⟨g1, g2, g3⟩ := hyes hok.1 hok.2
      have ea : (Za.err : Int) = 0 := by omega
      have eb : (Zb.err : Int) = 0 := by omega
      have ec : (Zc.err : Int) = 0 := by omega
      rw [ea, eb, ec]
      have HP := hide g2
      have HRm := hide g3
      clear HBig HTwo HEr hbig hyes hno hok ea eb ec g1 g2 g3
      go_wp2_with (at_builtin; go_must (refine wpList_append_src3 _ (by rfl) _ _ 22 22 rfl w7.heap.size 47 iT _ Try.underlying22 hiT zT0 zT1 zT2 rfl _ 0 [] rfl (own_empty w7 47 3) _ Za.tk.length (cellsT Za.tk) rfl (src_own3 (own_below R2.out ((Below.refl _ _).alloc (Nat.le_refl _) _)) Try.underlying22 (cellsT_one _)) (by omega) (by simp) ?_))
      intro v8 w8 o8 g8
      have al8 : Below w7.heap.size w7 (w7.alloc (.cells #[] 47)) := (Below.refl _ _).alloc (Nat.le_refl _) _
      have b8 : Below w7.heap.size w7 w8 := grown_below (by simp) g8 (fun k hk => by simp [Value.ownBlock] at hk; omega) al8
      have B8 := hide b8
      have O8 := hide o8
      have S8 : Hid (w7.heap.size ≤ w8.heap.size) := b8.size
      clear o8 g8 al8 b8
      go_wp2_with (at_builtin; go_must (refine wpList_append_src3 _ (by rfl) _ _ 22 22 rfl w7.heap.size 47 iT _ Try.underlying22 hiT zT0 zT1 zT2 rfl _ _ _ rfl O8.out _ Zb.tk.length (cellsT Zb.tk) rfl (src_own3 (own_below R3.out B8.out) Try.underlying22 (cellsT_one _)) (by omega) S8.out ?_))
      intro v9 w9 o9 g9
      have b9 : Below w7.heap.size w7 w9 := grown_below S8.out g9 (fun k hk => (O8.out.lt k hk).1) B8.out
      have o9' : w9.ownsRow w7.heap.size 47 3 v9 (Za.tk ++ Zb.tk).length (cellsT (Za.tk ++ Zb.tk)) := by
        rw [cellsT_app, List.length_append]
        simpa using o9
      obtain ⟨a9, c9, hv9, hr9⟩ := own_rowT o9'
      obtain ⟨a4, c4, hv4, hr4⟩ := own_rowT (own_below R4.out b9)
      subst hv9
      subst hv4
      have CS := hide (sameButAt_yes a9 a4 c9 c4 (Za.tk ++ Zb.tk) Zc.tk w9 hr9 hr4 HP.out (by rw [List.length_append]; omega) Zc.tk.length rfl HP.out.len)
      have HL := hide HP.out.len
      have B9 := hide b9
      clear o9 g9 o9' hr9 hr4 b9 O8 B8 S8 R2 R3 R4
      rw [HL.out]
      go_wp2_with fail
      refine CS.out.mono ?_
      rintro _ wa ⟨rfl, hba⟩
      have ba : Below w7.heap.size w7 wa := B9.out.trans (hba.mono B9.out.size)
      have U5 := hide (own_below R5.out ba)
      have U6 := hide (own_below R6.out ba)
      have U7 := hide (own_below R7.out ba)
      have BA : Hid (Below w.heap.size w wa) := B7.out.trans (ba.mono B7.out.size)
      clear hba ba CS B9 B7 R5 R6 R7
      go_wp2_with (at_builtin; go_must (refine wpList_append_src1 _ (by rfl) _ _ 28 28 rfl wa.heap.size 9 iS _ Try.underlying28 hiS zS0 zS1 zS2 rfl _ 0 [] rfl (own_empty wa 9 1) _ Za.rm.length (Za.rm.map strV) rfl (src_own1 (own_below U5.out ((Below.refl _ _).alloc (Nat.le_refl _) _)) Try.underlying28 (strs_one _)) (by omega) (by simp) ?_))
      intro vb wb ob gb
      have alb : Below wa.heap.size wa (wa.alloc (.cells #[] 9)) := (Below.refl _ _).alloc (Nat.le_refl _) _
      have bb : Below wa.heap.size wa wb := grown_below (by simp) gb (fun k hk => by simp [Value.ownBlock] at hk; omega) alb
      have BB := hide bb
      have OB := hide ob
      have SB : Hid (wa.heap.size ≤ wb.heap.size) := bb.size
      clear ob gb alb bb
      go_wp2_with (at_builtin; go_must (refine wpList_append_src1 _ (by rfl) _ _ 28 28 rfl wa.heap.size 9 iS _ Try.underlying28 hiS zS0 zS1 zS2 rfl _ _ _ rfl OB.out _ Zb.rm.length (Zb.rm.map strV) rfl (src_own1 (own_below U6.out BB.out) Try.underlying28 (strs_one _)) (by omega) SB.out ?_))
      intro vc wc oc gc
      have bc : Below wa.heap.size wa wc := grown_below SB.out gc (fun k hk => (OB.out.lt k hk).1) BB.out
      have oc' : wc.ownsRow wa.heap.size 9 1 vc Zc.rm.length (Zc.rm.map strV) := by
        rw [HRm.out, List.map_append, List.length_append]
        simpa using oc
      obtain ⟨ac, cc, hvc, hrc⟩ := own_rowS oc'
      obtain ⟨a7, c7, hv7, hr7⟩ := own_rowS (own_below U7.out bc)
      subst hvc
      subst hv7
      have CS := hide (sameStrings_yes ac a7 cc c7 Zc.rm wc hrc hr7 (by omega))
      have BC : Hid (Below w.heap.size w wc) := BA.out.trans (bc.mono BA.out.size)
      clear oc gc oc' hrc hr7 bc OB BB SB U5 U6 U7 BA
      go_wp2_with fail
      refine CS.out.mono ?_
      rintro _ wd ⟨rfl, hbd⟩
      have BD : Hid (Below w.heap.size w wd) := BC.out.trans (hbd.mono BC.out.size)
      clear hbd CS BC
      go_wp2_with fail
      go_ret
      exact ⟨rfl, BD.out⟩
    · have hne := hno hok
      have ec : ¬ (Zc.err : Int) = 0 := by omega
      have hz : Zc.tk.length = 0 := by rw [HEr.out hne]; rfl
      by_cases ea : Za.err = 0
      · have ea' : (Za.err : Int) = 0 := by omega
        have eb' : ¬ (Zb.err : Int) = 0 := fun h => hok ⟨ea, by omega⟩
        rw [ea']
        obtain ⟨a4, c4, hv4, _⟩ := own_rowT R4.out
        rw [hz] at hv4
        subst hv4
        clear HBig HTwo HEr hbig hyes hno hok hne ea R4 hz
        go_wp2_with fail
        go_ret
        exact ⟨ret_bool (by simpa using ec), B7.out⟩
      · have ea' : ¬ (Za.err : Int) = 0 := by omega
        obtain ⟨a4, c4, hv4, _⟩ := own_rowT R4.out
        rw [hz] at hv4
        subst hv4
        clear HBig HTwo HEr hbig hyes hno hok hne ea R4 hz
        go_wp2_with fail
        go_ret
        exact ⟨ret_bool (by simpa using ec), B7.out⟩
end Go.Proofs.Ytlllgndbcagkgaa
