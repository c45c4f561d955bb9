/- LexerBack, walked. -/
import Derived.Test.YtlllgndbcagkgaaPieces
import Derived.Test.YtlllgndbcagkgaaJoin
import Derived.Test.YtlllgndbcagkgaaCutsWalk
namespace Go.Proofs.Ytlllgndbcagkgaa
open Go.RowKit

set_option maxRecDepth 100000 in
set_option maxHeartbeats 3200000 in
theorem sameButAt_yes (a b : Option Addr) (ca cb : Nat) (tk tk' : List Tok) (w : World) (ha : RowT w a tk) (hb : RowT w b tk') (hp : Pair ButAt tk tk') (hl : tk.length ≤ 1000000000000) (n : Nat) (hn : tk'.length = n) (hn2 : tk.length = n) :
    Calls Try.prog 24 #[.slice a n ca, .slice b n cb] w fun e w' => e = .returned (.bool true) ∧ Below w.heap.size w w' := by
  have HA := hide ha
  have HB := hide hb
  have HP := hide hp
  have HN := hide hn
  have HN2 := hide hn2
  have hl' : n ≤ 1000000000000 := by omega
  clear ha hb hp hn hn2 hl
  go_enter Try.func24, Try.ntmps24
  go_wp2_with fail
  go_loopw [5] (fun x wr => ∃ k q : Nat, k ≤ n ∧ x = .int .i64 k ∧ wr = w.drewN q) (fun x _ => n - (intOf x).toNat)
  case atStart => exact ⟨0, 0, by omega, rfl, rfl⟩
  case round =>
    obtain ⟨k, q, hk, rfl, rfl⟩ := hrel
    by_cases hlt : k < n
    · obtain ⟨⟨kd, tx, pl⟩, ht⟩ : ∃ t, tk[k]? = some t := ⟨tk[k]'(by rw [HN2.out]; exact hlt), by simp [HN2.out, hlt]⟩
      obtain ⟨⟨kd', tx', pl'⟩, ht'⟩ : ∃ t, tk'[k]? = some t := ⟨tk'[k]'(by rw [HN.out]; exact hlt), by simp [HN.out, hlt]⟩
      obtain ⟨e1, e2⟩ := HP.out.at' k _ _ ht ht'
      simp only at e1 e2
      subst e1
      subst e2
      obtain ⟨ab, ao, rfl, a0, a1, a2⟩ := HA.out k _ ht
      obtain ⟨bb, bo, rfl, b0, b1, b2⟩ := HB.out k _ ht'
      simp only [strV] at a0 a1 a2 b0 b1 b2
      go_wp2_with fail
      go_quiet (fail)
      go_wp2_with fail
      go_roundw
      case rel => exact ⟨k + 1, _, by omega, by go_num, rfl⟩
      case measure => simp [intOf]; omega
    · go_wp2_with fail
      go_ret
      exact ⟨rfl, below_drewN w q⟩

set_option maxRecDepth 100000 in
set_option maxHeartbeats 3200000 in
theorem back_walk (s : ByteArray) (w : World) (_hs : s.size ≤ 140737488351232) :
    Calls Try.prog 6 #[.string s] w fun e w' => e = .returned (.bool true) ∧ Below w.heap.size w w' := by
  have CW := hide works_any
  have C1 := hide (tokens_any s)
  have HL := lexT_len s.data.toList
  have HBk := hide (fun he => join_back (s := s.data.toList) he)
  have HE := hide (fun he => lexT_err (s := s.data.toList) he)
  have hsl : s.data.toList.length = s.size := by simp
  rw [hsl] at HBk
  clear hsl
  generalize lexT s.data.toList = Z at *
  go_enter Try.func6, Try.ntmps6
  go_wp2_with fail
  refine (CW.out _).mono ?_
  rintro _ w1 ⟨rfl, hb1⟩
  have B1 := hide hb1
  clear hb1
  go_wp2_with fail
  refine (C1.out _).mono ?_
  rintro _ w2 ⟨v, rfl, ho, hb2⟩
  obtain ⟨a, c, rfl, hr⟩ := own_rowT ho
  have B2 : Hid (Below w.heap.size w w2) := B1.out.trans (hb2.mono B1.out.size)
  have R2 := hide hr
  clear hb2 hr ho C1 B1 CW
  by_cases he : Z.err = 0
  · have he' : (Z.err : Int) = 0 := by omega
    rw [he']
    obtain ⟨xs, h1, h2, h3, h4, h5, h6, h7⟩ := HBk.out he
    have hml : (Z.tk.map Tok.a).length = Z.tk.length := by simp
    have CJ := hide (join_any a c (Z.tk.map Tok.a) w2 w2.heap.size rfl R2.out.a (by omega) (fun t ht => by
      obtain ⟨t', ht', rfl⟩ := List.mem_map.1 ht
      obtain ⟨j, hj, rfl⟩ := List.getElem_of_mem ht'
      have hjx : j < xs.length := by rw [← h1.len]; exact hj
      have hp := h1.at' j Z.tk[j] xs[j] (by simp [hj]) (by simp [hjx])
      have hlx := sumLen_mem (List.getElem_mem hjx)
      show (Z.tk[j].text.toArray).size ≤ _
      rw [hp.2]
      unfold tokW tokOf
      simp only [List.size_toArray]
      split <;> simp <;> omega))
    rw [joinV_ok _ h4] at CJ
    have hsz : sizeA (Z.tk.map Tok.a) (Z.tk.map Tok.a).length = (joinL xs).length := by unfold sizeA; rw [h5]
    rw [hsz, h5, hml] at CJ
    have H7 := hide h7
    clear h1 h2 h4 h5 hml hsz h7 HBk HE
    by_cases hj : 65536 < (joinL xs).length
    · rw [if_pos hj] at CJ
      have hbig : 32768 < (s.size : Int) := by omega
      clear hj h6 H7
      go_wp2_with fail
      refine CJ.out.mono ?_
      rintro _ w3 ⟨rfl, hb3⟩
      have B3 : Hid (Below w.heap.size w w3) := B2.out.trans (hb3.mono B2.out.size)
      clear hb3 CJ
      go_wp2_with fail
      go_ret
      exact ⟨rfl, B3.out⟩
    · rw [if_neg hj] at CJ
      obtain ⟨g1, g2⟩ := H7.out (by omega)
      have C2 := hide (tokens_any ⟨(joinL xs).toArray⟩)
      have hpl : (lexT (joinL xs)).place = (joinL xs).length := (lexT_place g1).1
      obtain ⟨JB, hJB⟩ : ∃ g : ByteArray, ⟨(joinL xs).toArray⟩ = g := ⟨_, rfl⟩
      have hJs : JB.size = (joinL xs).length := by rw [← hJB]; show (joinL xs).toArray.size = _; simp
      simp only [strV] at CJ
      rw [hJB] at C2 CJ
      have hJl : JB.data.toList = joinL xs := by rw [← hJB]
      rw [hJl, g1, hpl, ← hJs] at C2
      have HP := hide g2
      have hlen2 : (lexT (joinL xs)).tk.length = Z.tk.length := g2.len.symm
      rw [hlen2] at C2
      have HLen2 := hide hlen2
      clear hj h6 H7 g1 g2 hpl hJB hJs hJl hlen2
      generalize lexT (joinL xs) = Y at *
      go_wp2_with fail
      refine CJ.out.mono ?_
      rintro _ w3 ⟨rfl, hb3⟩
      have B3 : Hid (Below w.heap.size w w3) := B2.out.trans (hb3.mono B2.out.size)
      have R3 := hide (R2.out.below hb3)
      clear hb3 CJ R2 B2
      go_wp2_with fail
      refine (C2.out _).mono ?_
      rintro _ w4 ⟨v4, rfl, ho4, hb4⟩
      have ho4' := ho4
      rw [← HLen2.out] at ho4'
      obtain ⟨a4, c4, hv4, hr4⟩ := own_rowT ho4'
      rw [HLen2.out] at hv4
      subst hv4
      have B4 : Hid (Below w.heap.size w w4) := B3.out.trans (hb4.mono B3.out.size)
      have CS := hide (sameButAt_yes a a4 c c4 Z.tk Y.tk w4 (R3.out.below hb4) hr4 HP.out (by omega) Z.tk.length HLen2.out rfl)
      clear hb4 hr4 ho4 ho4' C2 R3 B3
      go_wp2_with fail
      refine CS.out.mono ?_
      rintro _ w5 ⟨rfl, hb5⟩
      have B5 : Hid (Below w.heap.size w w5) := B4.out.trans (hb5.mono B4.out.size)
      clear hb5 CS B4
      go_wp2_with fail
      go_ret
      exact ⟨rfl, B5.out⟩
  · have he' : ¬ (Z.err : Int) = 0 := by omega
    have hz : Z.tk.length = 0 := by rw [(HE.out he).1]; rfl
    rw [hz]
    clear he HBk HE hz
    go_wp2_with fail
    go_ret
    exact ⟨rfl, B2.out⟩
end Go.Proofs.Ytlllgndbcagkgaa
