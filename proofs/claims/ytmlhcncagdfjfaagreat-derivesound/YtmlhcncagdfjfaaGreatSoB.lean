import Derived.Test.YtmlhcncagdfjfaaGreatSoA
import Derived.Test.YtmlhcncagdfjfaaGreatDrP
namespace Go.Proofs.YtmlhcncagdfjfaaGreat.De
open Go.RowKit Fa
theorem jQ {T : Th} {r t : Int} (ht : aw t) : ∀ x ∈ cS T r t, aw x.2 := by
 intro x hx
 unfold cS at hx
 obtain ⟨y, -, rfl⟩ := List.mem_map.1 hx
 exact ht
theorem qW {f : Int → Int × Int → Bool × be} (h : ∀ r c, ∀ x ∈ (f r c).2, aw x.2) : ∀ {rs : List Int} {cs : List (Int × Int)}, ∀ x ∈ (cg f rs cs).2, aw x.2
 | [], cs, x, hx => by cases cs <;> cases hx
 | r :: rs, [], x, hx => by cases hx
 | r :: rs, c :: cs, x, hx => by
  unfold cg at hx
  split at hx
  ·rcases List.mem_append.1 hx with hx | hx
   ·exact h _ _ x hx
   exact qW h x hx
  exact h _ _ x hx
theorem i7 {f : Int → Int × Int → Bool × be} (h : ∀ r c, ∀ x ∈ (f r c).2, aw x.2) {rs : List Int} {cs : List (Int × Int)} : ∀ x ∈ (eachM f rs cs).2, aw x.2 := by
 intro x hx
 unfold eachM at hx
 split at hx
 ·cases hx
 exact qW h x hx
theorem jM {T : Th} {t : Int} (ht : aw t) : ∀ r c, ∀ x ∈ (refX T t r c).2, aw x.2 := by
 intro r c x hx
 unfold refX at hx
 split at hx
 ·rw [List.mem_singleton.1 hx]; exact ht
 cases hx
theorem vw {T : Th} {q : Int} : ∀ r c, ∀ x ∈ (ansX T q r c).2, aw x.2 := by
 intro r c x hx
 unfold ansX at hx
 split at hx
 ·exact jM tag4 r c x hx
 unfold betX at hx
 split at hx
 ·exact jQ tag3 x hx
 cases hx
theorem vn {T : Th} {s : StM} : ∀ x ∈ (formM T s).2, aw x.2 := by
 intro x hx
 unfold formM at hx
 split at hx
 ·unfold jF at hx
  repeat' split at hx
  ·cases hx
  ·unfold rowStrict at hx
   split at hx
   ·exact jQ tag1 x hx
   cases hx
  ·unfold rowNoStrict at hx
   split at hx
   ·exact i7 (jM tag2) x hx
   cases hx
  ·unfold gu at hx
   rw [List.mem_singleton.1 hx]; exact tag1
  ·unfold rowRule at hx
   split at hx
   ·rcases List.mem_append.1 hx with hx | hx
    ·rcases List.mem_append.1 hx with hx | hx
     ·exact jQ tag3 x hx
     obtain ⟨y, -, rfl⟩ := List.mem_map.1 hx; exact tag2
    exact i7 vw x hx
   cases hx
  ·unfold rowNoRule at hx
   split at hx
   ·rcases List.mem_cons.1 hx with rfl | hx
    ·exact tag2
    exact i7 (jM tag4) x hx
   rw [List.mem_singleton.1 hx]; exact tag2
  ·unfold rowFoe at hx
   split at hx
   ·rcases List.mem_cons.1 hx with rfl | hx
    ·exact tag2
    rw [List.mem_singleton.1 hx]; exact tag1
   cases hx
  ·unfold rowBeaten at hx
   split at hx
   ·rcases List.mem_append.1 hx with hx | hx
    ·rcases List.mem_cons.1 hx with rfl | hx
     ·exact tag2
     exact jQ tag3 x hx
    exact i7 (jM tag4) x hx
   cases hx
  cases hx
 cases hx
def zS (f : Int → Int) (m : List Int) : Prop := (∀ q t, aw t → hb (f q) t = true → hs m q t = true) ∧ ∀ q, dm (f q)
theorem sub_zero {m : List Int} : zS (fun _ => 0) m := ⟨fun q t ht h => (by rw [oQ ht] at h; cases h), fun _ => ⟨by show (0 : Int) ≤ 0; omega, by show (0 : Int) < 256; omega⟩⟩
section
variable {T : Th} {F m : List Int} {n k : Nat}
theorem o7 (hp : Pf T F n) (hs_ : pA T F m k) : ∀ {l : List StM} {i : Nat} {f : Int → Int}, zS f m → (iy T F n i f l).1 = 0 → ∀ s ∈ l, bU s.lit n = true ∧ aw s.tag ∧ hs m s.lit s.tag = true
 | [], _, _, _, _, s, h => by cases h
 | s0 :: l, i, f, hf, h0, s, h => by
  unfold iy at h0
  by_cases hfo : followsM T F f s0 = true
  ·rw [if_pos hfo] at h0
   unfold followsM at hfo
   simp only [Bool.and_eq_true] at hfo
   obtain ⟨⟨a1, a2⟩, a3⟩ := hfo
   unfold allM at a2
   rw [List.all_eq_true] at a2
   obtain ⟨b1, b2, b3⟩ := qM (m := m) hp a1 (fun x hx => hf.1 x.1 x.2 (vn x hx) (a2 x hx)) a3
   rw [hp.ln] at b1
   have hq := eV b1
   have hm : hs m s0.lit s0.tag = true := (yb hp hs_ hq.1 hq.2 b2).2 b3
   have hsay : sayM n f s0 = aA f s0.lit (dt (f s0.lit) s0.tag) := by
    unfold sayM
    rw [b1, show fj s0.tag = true from by unfold fj; rcases b2 with e | e | e | e <;> rw [e] <;> rfl]
    rfl
   rcases List.mem_cons.1 h with rfl | h
   ·exact ⟨b1, b2, hm⟩
   refine o7 hp hs_ (i := i + 1) ⟨fun q t ht hh => ?_, fun q => ?_⟩ h0 s h
   ·rw [hsay] at hh
    by_cases e : q = s0.lit
    ·subst e
     rw [aL, (jT (hf.2 _) b2 ht).1] at hh
     rcases Bool.or_eq_true _ _ ▸ hh with hh | hh
     ·exact hf.1 _ t ht hh
     rw [← of_decide_eq_true hh]; exact hm
    rw [aS e] at hh
    exact hf.1 q t ht hh
   rw [hsay]
   by_cases e : q = s0.lit
   ·subst e
    rw [aL]
    exact (jT (hf.2 _) b2 b2).2.1
   rw [aS e]; exact hf.2 q
  rw [if_neg hfo] at h0
  exact absurd h0 (show ¬ ((201 : Int) = 0) by decide)
end
end Go.Proofs.YtmlhcncagdfjfaaGreat.De
