import Derived.Test.YtbpphlmakmeoaaaGreatDoorMo
namespace Go.Proofs.YtbpphlmakmeoaaaGreatDoor.Mo
theorem ux : ∀ (f : Nat) (ds : List Int), ds.length ≤ f + 1 → js ds → decD f (fH ds) = ds := by
 intro f
 induction f with
 | zero =>
  intro ds hl hg
  match ds, hl, hg.1 with
  | [a], _, _ => simp [decD, fH]; omega
 | succ f ih =>
  intro ds hl hg
  obtain ⟨l, c, rfl⟩ : ∃ l c, ds = l ++ [c] := ⟨ds.dropLast, ds.getLast hg.1, (List.dropLast_concat_getLast hg.1).symm⟩
  have hd := hg.2.1
  unfold fE at hd
  rw [List.all_append, Bool.and_eq_true] at hd
  have hc : 48 ≤ c ∧ c ≤ 57 := by
   have : iB c = true := by simpa using hd.2
   exact of_decide_eq_true this
  rw [tl, decD]
  cases hl0 : l with
  | nil => subst hl0; have : fH [] = 0 := by decide
           rw [this, if_pos (by omega)]; simp; omega
  | cons a l' =>
   have Aa : l ≠ [] := by rw [hl0]; simp
   have Ae : js l := by
    refine ⟨Aa, hd.1, ?_⟩
    rcases hg.2.2 with h | h
    · rw [List.length_append] at h; simp at h; exact absurd h Aa
    · right; rw [hl0] at h ⊢; simpa using h
   have Af : 1 ≤ fH l := by
    have Ab : l.getD 0 0 ≠ 48 := by
     rcases hg.2.2 with h | h
     · rw [List.length_append] at h; simp at h; exact absurd h Aa
     · rw [hl0] at h ⊢; simpa using h
    have Ag := mr l hd.1
    rcases (show fH l = 0 ∨ 1 ≤ fH l by omega) with h | h
    · exfalso
      rw [hl0] at h Ab
      unfold fH at h
      rw [List.foldl_cons] at h
      have Ac : iB a = true := by
       have := hd.1; rw [hl0, List.all_cons, Bool.and_eq_true] at this; exact this.1
      have Ad : fE l' = true := by
       have := hd.1; rw [hl0, List.all_cons, Bool.and_eq_true] at this; exact this.2
      have Ah := of_decide_eq_true Ac
      simp at Ab
      have fb := (kG l' (0 * 10 + (a - 48)) (by omega) Ad).1
      have hp : (0 : Int) < 10 ^ l'.length := Int.pow_pos (by decide)
      have : 1 * (10 : Int) ^ l'.length ≤ (0 * 10 + (a - 48)) * 10 ^ l'.length := Int.mul_le_mul_of_nonneg_right (by omega) (by omega)
      omega
    · exact h
   rw [← hl0, if_neg (by omega), show (fH l * 10 + (c - 48)) / 10 = fH l by omega, ih l (by rw [List.length_append] at hl; simp at hl; omega) Ae]
   congr 2
   omega
theorem text_parse (l : List Int) (n : Int) (h : parseM l = (n, 0)) : kT n = true ∧ textM n = l := by
 obtain ⟨neg, ds, cs, hg, hl⟩ := oP (l := l) (by rw [h]; simp)
 rw [hl, pK hg] at h
 split at h
 · cases h
 · rename_i h15
   split at h
   · cases h
   · rename_i hm
     have Am := mr ds hg.d.2.1
     have Al : 0 ≤ fH cs ∧ fH cs < 100 := by
      rcases hg.c with hc | ⟨Ab, Aa, _⟩
      · rw [hc]; decide
      · have h1 := mr cs Aa
        have h2 := sJ cs Aa
        rw [Ab] at h2
        exact ⟨h1, by simpa using h2⟩
     have Ag := ux 20 ds (by omega) hg.d
     have Ad : centsB (iL ds cs) = ds ++ (if cs = [] then [] else 46 :: cs) := by
      unfold centsB iL
      rw [show (fH ds * 100 + fH cs) / 100 = fH ds by omega, Ag]
      congr 1
      rcases hg.c with hc | ⟨Ab, Aa, Ac⟩
      · rw [if_pos hc, if_pos (by rw [hc]; have : fH [] = 0 := by decide
                                  omega)]
      · have Ai : cs ≠ [] := by intro h; rw [h] at Ab; cases Ab
        have h2 := pC Ab
        have d0 := of_decide_eq_true (ka Aa 0 (by omega))
        have d1 := of_decide_eq_true (ka Aa 1 (by omega))
        rw [if_neg Ai]
        generalize cs.getD 0 0 = a at *
        generalize cs.getD 1 0 = b at *
        rw [h2, pN, if_neg (by omega)]
        congr 2
        · omega
        · congr 1; omega
     have Ak : 0 ≤ iL ds cs := by unfold iL; omega
     cases neg with
     | false =>
      rw [if_neg (by simp)] at h
      simp only [Prod.mk.injEq, and_true] at h
      subst h
      refine ⟨tr ⟨by omega, by omega⟩, ?_⟩
      unfold textM
      rw [if_neg (by omega), Ad, hl]
      rfl
     | true =>
      rw [if_pos rfl] at h
      simp only [Prod.mk.injEq, and_true] at h
      subst h
      have Aj : 0 < iL ds cs := by
       apply Classical.byContradiction
       intro hz
       have Ah : iL ds cs = 0 := by omega
       unfold iL at Ah
       have Ae : fH ds = 0 := by omega
       have Af : fH cs = 0 := by omega
       apply hg.n
       refine ⟨rfl, ?_, ?_⟩
       · have := ux 20 ds (by omega) hg.d
         rw [Ae] at this
         exact this.symm
       · rcases hg.c with hc | ⟨Ab, Aa, Ac⟩
         · exact hc
         · exfalso
           have h2 := pC Ab
           have d0 := of_decide_eq_true (ka Aa 0 (by omega))
           have d1 := of_decide_eq_true (ka Aa 1 (by omega))
           rw [h2, pN] at Af
           exact Ac ⟨by omega, by omega⟩
      refine ⟨tr ⟨by omega, by omega⟩, ?_⟩
      unfold textM
      rw [if_pos (by omega), Int.neg_neg, Ad, hl]
      rfl
#print axioms text_parse
end Go.Proofs.YtbpphlmakmeoaaaGreatDoor.Mo
