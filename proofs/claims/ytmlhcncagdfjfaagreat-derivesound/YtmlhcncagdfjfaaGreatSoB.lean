import Derived.Test.YtmlhcncagdfjfaaGreatSoA
import Derived.Test.YtmlhcncagdfjfaaGreatDrP
namespace Go.Proofs.YtmlhcncagdfjfaaGreat.De
open Go.RowKit Fa
theorem lq {T : Th} {r t : Int} (ht : aq t) : ∀ x ∈ dB T r t, aq x.2 := by
 intro x hx
 unfold dB at hx
 obtain ⟨y, -, rfl⟩ := List.mem_map.1 hx
 exact ht
theorem sB {f : Int → Int × Int → Bool × bC} (h : ∀ r c, ∀ x ∈ (f r c).2, aq x.2) : ∀ {rs : List Int} {cs : List (Int × Int)}, ∀ x ∈ (cP f rs cs).2, aq x.2
 | [], cs, x, hx => by cases cs <;> cases hx
 | r :: rs, [], x, hx => by cases hx
 | r :: rs, c :: cs, x, hx => by
  unfold cP at hx
  split at hx
  · rcases List.mem_append.1 hx with hx | hx
    · exact h _ _ x hx
    · exact sB h x hx
  · exact h _ _ x hx
theorem jX {f : Int → Int × Int → Bool × bC} (h : ∀ r c, ∀ x ∈ (f r c).2, aq x.2) {rs : List Int} {cs : List (Int × Int)} : ∀ x ∈ (eachM f rs cs).2, aq x.2 := by
 intro x hx
 unfold eachM at hx
 split at hx
 · cases hx
 · exact sB h x hx
theorem ld {T : Th} {t : Int} (ht : aq t) : ∀ r c, ∀ x ∈ (refX T t r c).2, aq x.2 := by
 intro r c x hx
 unfold refX at hx
 split at hx
 · rw [List.mem_singleton.1 hx]; exact ht
 · cases hx
theorem yg {T : Th} {q : Int} : ∀ r c, ∀ x ∈ (ansX T q r c).2, aq x.2 := by
 intro r c x hx
 unfold ansX at hx
 split at hx
 · exact ld tag4 r c x hx
 · unfold betX at hx
   split at hx
   · exact lq tag3 x hx
   · cases hx
theorem xJ {T : Th} {s : StM} : ∀ x ∈ (formM T s).2, aq x.2 := by
 intro x hx
 unfold formM at hx
 split at hx
 · unfold lp at hx
   repeat' split at hx
   · cases hx
   · unfold rowStrict at hx
     split at hx
     · exact lq tag1 x hx
     · cases hx
   · unfold rowNoStrict at hx
     split at hx
     · exact jX (ld tag2) x hx
     · cases hx
   · unfold ik at hx
     rw [List.mem_singleton.1 hx]; exact tag1
   · unfold rowRule at hx
     split at hx
     · rcases List.mem_append.1 hx with hx | hx
       · rcases List.mem_append.1 hx with hx | hx
         · exact lq tag3 x hx
         · obtain ⟨y, -, rfl⟩ := List.mem_map.1 hx; exact tag2
       · exact jX yg x hx
     · cases hx
   · unfold rowNoRule at hx
     split at hx
     · rcases List.mem_cons.1 hx with rfl | hx
       · exact tag2
       · exact jX (ld tag4) x hx
     · rw [List.mem_singleton.1 hx]; exact tag2
   · unfold rowFoe at hx
     split at hx
     · rcases List.mem_cons.1 hx with rfl | hx
       · exact tag2
       · rw [List.mem_singleton.1 hx]; exact tag1
     · cases hx
   · unfold rowBeaten at hx
     split at hx
     · rcases List.mem_append.1 hx with hx | hx
       · rcases List.mem_cons.1 hx with rfl | hx
         · exact tag2
         · exact lq tag3 x hx
       · exact jX (ld tag4) x hx
     · cases hx
   · cases hx
 · cases hx
def F5 (f : Int → Int) (m : List Int) : Prop := (∀ q t, aq t → hb (f q) t = true → hs m q t = true) ∧ ∀ q, aU (f q)
theorem sub_zero {m : List Int} : F5 (fun _ => 0) m := ⟨fun q t ht h => (by rw [ic ht] at h; cases h), fun _ => ⟨by show (0 : Int) ≤ 0; omega, by show (0 : Int) < 256; omega⟩⟩
section
variable {T : Th} {F m : List Int} {n k : Nat}
theorem qy (hp : Pf T F n) (hs_ : fU T F m k) : ∀ {l : List StM} {i : Nat} {f : Int → Int}, F5 f m → (jL T F n i f l).1 = 0 → ∀ s ∈ l, cG s.lit n = true ∧ aq s.tag ∧ hs m s.lit s.tag = true
 | [], _, _, _, _, s, h => by cases h
 | s0 :: l, i, f, hf, h0, s, h => by
  unfold jL at h0
  by_cases hfo : followsM T F f s0 = true
  · rw [if_pos hfo] at h0
    unfold followsM at hfo
    simp only [Bool.and_eq_true] at hfo
    obtain ⟨⟨a1, a2⟩, a3⟩ := hfo
    unfold allM at a2
    rw [List.all_eq_true] at a2
    obtain ⟨b1, b2, b3⟩ := rt (m := m) hp a1 (fun x hx => hf.1 x.1 x.2 (xJ x hx) (a2 x hx)) a3
    rw [hp.ln] at b1
    have hq := fy b1
    have hm : hs m s0.lit s0.tag = true := (s9 hp hs_ hq.1 hq.2 b2).2 b3
    have hsay : sayM n f s0 = ar f s0.lit (cC (f s0.lit) s0.tag) := by
     unfold sayM
     rw [b1, show fW s0.tag = true from by unfold fW; rcases b2 with e | e | e | e <;> rw [e] <;> rfl]
     rfl
    rcases List.mem_cons.1 h with rfl | h
    · exact ⟨b1, b2, hm⟩
    · refine qy hp hs_ (i := i + 1) ⟨fun q t ht hh => ?_, fun q => ?_⟩ h0 s h
      · rw [hsay] at hh
        by_cases e : q = s0.lit
        · subst e
          rw [aA, (dg (hf.2 _) b2 ht).1] at hh
          rcases Bool.or_eq_true _ _ ▸ hh with hh | hh
          · exact hf.1 _ t ht hh
          · rw [← of_decide_eq_true hh]; exact hm
        · rw [aw e] at hh
          exact hf.1 q t ht hh
      · rw [hsay]
        by_cases e : q = s0.lit
        · subst e
          rw [aA]
          exact (dg (hf.2 _) b2 b2).2.1
        · rw [aw e]; exact hf.2 q
  · rw [if_neg hfo] at h0
    exact absurd h0 (show ¬ ((201 : Int) = 0) by decide)
end
end Go.Proofs.YtmlhcncagdfjfaaGreat.De
