import Derived.Test.YtmlhcncagdfjfaaGreatDrP
import Derived.Test.YtmlhcncagdfjfaaGreatFs2
namespace Go.Proofs.YtmlhcncagdfjfaaGreat.De
open Go.RowKit Fa
section
variable {T : Th} {F m : List Int}
theorem qs {f : Int → Int × Int → Bool × be} : ∀ {rs : List Int} {cs : List (Int × Int)}, cs.length = rs.length → (cg f rs cs).1 = true → (∀ x ∈ (cg f rs cs).2, hs m x.1 x.2 = true) → ∀ r ∈ rs, ∃ c, (f r c).1 = true ∧ ∀ x ∈ (f r c).2, hs m x.1 x.2 = true
 | [], _, _, _, _, r, hr => by cases hr
 | r0 :: rs, [], hl, _, _, _, _ => by simp at hl
 | r0 :: rs, c :: cs, hl, h1, h2, r, hr => by
  unfold cg at h1 h2
  by_cases hf : (f r0 c).1 = true
  ·rw [if_pos hf] at h1 h2
   rcases List.mem_cons.1 hr with rfl | hr
   ·exact ⟨c, hf, fun x hx => h2 x (List.mem_append_left _ hx)⟩
   exact qs (by simpa using hl) h1 (fun x hx => h2 x (List.mem_append_right _ hx)) r hr
  rw [if_neg hf] at h1
  cases h1
theorem iX {f : Int → Int × Int → Bool × be} {rs : List Int} {cs : List (Int × Int)} (h1 : (eachM f rs cs).1 = true) (h2 : ∀ x ∈ (eachM f rs cs).2, hs m x.1 x.2 = true) : ∀ r ∈ rs, ∃ c, (f r c).1 = true ∧ ∀ x ∈ (f r c).2, hs m x.1 x.2 = true := by
 unfold eachM at h1 h2
 by_cases hl : cs.length = rs.length
 ·rw [if_neg (fun e => e hl)] at h1 h2
  exact qs hl h1 h2
 rw [if_pos hl] at h1
 cases h1
theorem j3 {t r : Int} {c : Int × Int} (h1 : (refX T t r c).1 = true) (h2 : ∀ x ∈ (refX T t r c).2, hs m x.1 x.2 = true) : partB T m r t = true := by
 unfold refX at h1 h2
 by_cases hf : jE T r c = true
 ·rw [if_pos hf] at h2
  have h3 := h2 _ (List.mem_singleton.2 rfl)
  unfold jE at hf
  rw [Bool.and_eq_true] at hf
  obtain ⟨l0, l1⟩ := eV hf.2
  unfold partB
  rw [List.any_eq_true]
  refine ⟨(az T r).getD c.1.toNat 0, ?_, h3⟩
  rw [List.getD_eq_getElem?_getD]
  have Aa : c.1.toNat < (az T r).length := by omega
  rw [List.getElem?_eq_getElem Aa]
  exact List.getElem_mem Aa
 rw [if_neg hf] at h1
 cases h1
theorem gS {r t : Int} (h : ∀ x ∈ cS T r t, hs m x.1 x.2 = true) : wholeB T m r t = true := by
 unfold wholeB
 rw [List.all_eq_true]
 intro x hx
 exact h (x, t) (by unfold cS; exact List.mem_map.2 ⟨x, hx, rfl⟩)
theorem vj {q s t : Int} (h : t ∈ aQ T q s) : t ∈ ag T kT q ∧ beatB T t s = true := by
 unfold aQ eX at h
 exact List.mem_filter.1 h
theorem xR {n : Nat} (hp : Pf T F n) {q f s : Int} (h0 : 0 ≤ q) (h1 : q < (n : Int)) (hf : f ∈ row T.foes q) (hs : s ∈ ag T kA f) : s ∈ aG T q := by
 unfold ag bh at hs
 obtain ⟨a, ha, rfl⟩ := List.mem_map.1 hs
 obtain ⟨k1, h2⟩ := List.mem_filter.1 ha
 unfold aG gd
 refine List.mem_map.2 ⟨a, List.mem_filter.2 ⟨k1, ?_⟩, rfl⟩
 unfold bK at h2
 unfold lX
 cases e : T.rules[a]? with
 | none => rw [e] at h2; cases h2
 | some x =>
  rw [e] at h2
  simp only [Bool.and_eq_true, decide_eq_true_eq] at h2 ⊢
  rw [h2.2]
  exact hH hp h0 h1 hf
theorem xC {n : Nat} (hp : Pf T F n) {q s : Int} (h : s ∈ aG T q) : ∃ f ∈ row T.foes q, s ∈ ag T kA f := by
 unfold aG gd at h
 obtain ⟨a, ha, rfl⟩ := List.mem_map.1 h
 obtain ⟨h1, h2⟩ := List.mem_filter.1 ha
 unfold lX at h2
 cases e : T.rules[a]? with
 | none => rw [e] at h2; cases h2
 | some x =>
  rw [e] at h2
  simp only [decide_eq_true_eq] at h2
  have hx := hp.head x (List.mem_of_getElem? e)
  refine ⟨x.head, hH hp hx.1 hx.2 h2, ?_⟩
  unfold ag bh
  refine List.mem_map.2 ⟨a, List.mem_filter.2 ⟨h1, ?_⟩, rfl⟩
  unfold bK
  rw [e]
  simp [kA]
theorem qM {n : Nat} (hp : Pf T F n) {s : StM} (h1 : (formM T s).1 = true) (h2 : ∀ x ∈ (formM T s).2, hs m x.1 x.2 = true) (h3 : suitM F s = true) : bU s.lit T.lits = true ∧ aw s.tag ∧ cH T F m s.tag s.lit = true := by
 have Ab : bU s.lit T.lits = true := by
  cases e : bU s.lit T.lits with
  | true => rfl
  | false => unfold formM at h1; rw [e] at h1; cases h1
 refine ⟨Ab, ?_⟩
 rw [qZ Ab] at h1 h2
 have Aa := eV Ab
 rw [hp.ln] at Aa
 obtain ⟨t, q, h, r, ch⟩ := s
 unfold jF at h1 h2
 unfold suitM at h3
 simp only at h1 h2 h3 Aa
 by_cases c1 : t = 1 ∧ h = 1
 ·obtain ⟨rfl, rfl⟩ := c1
  refine ⟨.inl rfl, ?_⟩
  rw [if_pos rfl] at h3
  show eE T F m q = true
  unfold eE
  rw [h3, Bool.true_or]
 rw [if_neg c1] at h1 h2
 by_cases c2 : t = 1 ∧ h = 2
 ·obtain ⟨rfl, rfl⟩ := c2
  refine ⟨.inl rfl, ?_⟩
  rw [if_pos ⟨rfl, rfl⟩] at h1 h2
  unfold rowStrict at h1 h2
  by_cases c : r ∈ ag T kS q ∧ ch = []
  ·simp only [if_pos c] at h2
   show eE T F m q = true
   unfold eE
   rw [Bool.or_eq_true]
   exact .inr (List.any_eq_true.2 ⟨r, c.1, gS h2⟩)
  simp only [if_neg c] at h1
  cases h1
 rw [if_neg c2] at h1 h2
 by_cases c3 : t = 2 ∧ h = 3
 ·obtain ⟨rfl, rfl⟩ := c3
  refine ⟨.inr (.inl rfl), ?_⟩
  rw [if_pos ⟨rfl, rfl⟩] at h1 h2
  unfold rowNoStrict at h1 h2
  by_cases c : r = -1
  ·simp only [if_pos c] at h1 h2
   rw [if_neg (by decide), if_pos rfl] at h3
   show d8 T F m q = true
   unfold d8
   rw [h3, Bool.true_and, List.all_eq_true]
   intro x hx
   obtain ⟨c, k1, k2⟩ := iX h1 h2 x hx
   exact j3 k1 k2
  simp only [if_neg c] at h1
  cases h1
 rw [if_neg c3] at h1 h2
 by_cases c4 : t = 3 ∧ h = 4
 ·obtain ⟨rfl, rfl⟩ := c4
  refine ⟨.inr (.inr (.inl rfl)), ?_⟩
  rw [if_pos ⟨rfl, rfl⟩] at h1 h2
  have k := h2 (q, 1) (by unfold gu; exact List.mem_singleton.2 rfl)
  show YtmlhcncagdfjfaaGreat.plusD T m q = true
  unfold YtmlhcncagdfjfaaGreat.plusD
  rw [show hs m q 1 = true from k, Bool.true_or]
 rw [if_neg c4] at h1 h2
 by_cases c5 : t = 3 ∧ h = 2
 ·obtain ⟨rfl, rfl⟩ := c5
  refine ⟨.inr (.inr (.inl rfl)), ?_⟩
  rw [if_pos ⟨rfl, rfl⟩] at h1 h2
  unfold rowRule at h1 h2
  by_cases c : r ∈ ag T kT q
  ·simp only [if_pos c] at h1 h2
   have k1 := gS fun x hx => h2 x (List.mem_append_left _ (List.mem_append_left _ hx))
   have k2 : ∀ f ∈ row T.foes q, hs m f 2 = true := fun f hf => h2 (f, 2) (List.mem_append_left _ (List.mem_append_right _ (List.mem_map.2 ⟨f, hf, rfl⟩)))
   have k3 := iX h1 fun x hx => h2 x (List.mem_append_right _ hx)
   show YtmlhcncagdfjfaaGreat.plusD T m q = true
   unfold YtmlhcncagdfjfaaGreat.plusD
   rw [Bool.or_eq_true, Bool.and_eq_true, Bool.and_eq_true]
   refine .inr ⟨⟨List.any_eq_true.2 ⟨r, c, k1⟩, List.all_eq_true.2 k2⟩, List.all_eq_true.2 fun f hf => List.all_eq_true.2 fun s hs => ?_⟩
   obtain ⟨c, j1, j2⟩ := k3 s (xR hp Aa.1 Aa.2 hf hs)
   unfold ansX at j1 j2
   unfold iK
   rw [Bool.or_eq_true]
   by_cases cr : jE T s c = true
   ·rw [if_pos cr] at j1 j2
    exact .inl (j3 j1 j2)
   rw [if_neg cr] at j1 j2
   unfold betX at j1 j2
   by_cases cb : vM T q s c = true
   ·rw [if_pos cb] at j2
    unfold vM at cb
    simp only [Bool.and_eq_true, decide_eq_true_eq] at cb
    obtain ⟨o1, o2⟩ := vj cb.2
    exact .inr (List.any_eq_true.2 ⟨c.2, o1, by rw [o2, Bool.true_and]; exact gS j2⟩)
   rw [if_neg cb] at j1
   cases j1
  simp only [if_neg c] at h1
  cases h1
 rw [if_neg c5] at h1 h2
 by_cases c6 : t = 4 ∧ h = 3
 ·obtain ⟨rfl, rfl⟩ := c6
  refine ⟨.inr (.inr (.inr rfl)), ?_⟩
  rw [if_pos ⟨rfl, rfl⟩] at h1 h2
  unfold rowNoRule at h1 h2
  by_cases c : r = -1
  ·simp only [if_pos c] at h1 h2
   have k0 := h2 (q, 2) (List.mem_cons_self ..)
   show YtmlhcncagdfjfaaGreat.minusD T m q = true
   unfold YtmlhcncagdfjfaaGreat.minusD
   rw [show hs m q 2 = true from k0, Bool.true_and, Bool.or_eq_true, Bool.or_eq_true]
   refine .inl (.inl (List.all_eq_true.2 fun x hx => ?_))
   obtain ⟨c, k1, k2⟩ := iX h1 (fun y hy => h2 y (List.mem_cons_of_mem _ hy)) x hx
   exact j3 k1 k2
  simp only [if_neg c] at h1
  cases h1
 rw [if_neg c6] at h1 h2
 by_cases c7 : t = 4 ∧ h = 4
 ·obtain ⟨rfl, rfl⟩ := c7
  refine ⟨.inr (.inr (.inr rfl)), ?_⟩
  rw [if_pos ⟨rfl, rfl⟩] at h1 h2
  unfold rowFoe at h1 h2
  by_cases c : r ∈ row T.foes q ∧ ch = []
  ·simp only [if_pos c] at h2
   have k0 := h2 (q, 2) (List.mem_cons_self ..)
   have k1 := h2 (r, 1) (List.mem_cons_of_mem _ (List.mem_cons_self ..))
   show YtmlhcncagdfjfaaGreat.minusD T m q = true
   unfold YtmlhcncagdfjfaaGreat.minusD
   rw [show hs m q 2 = true from k0, Bool.true_and, Bool.or_eq_true, Bool.or_eq_true]
   exact .inl (.inr (List.any_eq_true.2 ⟨r, c.1, k1⟩))
  simp only [if_neg c] at h1
  cases h1
 rw [if_neg c7] at h1 h2
 by_cases c8 : t = 4 ∧ h = 5
 ·obtain ⟨rfl, rfl⟩ := c8
  refine ⟨.inr (.inr (.inr rfl)), ?_⟩
  rw [if_pos ⟨rfl, rfl⟩] at h1 h2
  unfold rowBeaten at h1 h2
  by_cases c : r ∈ aG T q
  ·simp only [if_pos c] at h1 h2
   have k0 := h2 (q, 2) (List.mem_append_left _ (List.mem_cons_self ..))
   have k1 := gS fun x hx => h2 x (List.mem_append_left _ (List.mem_cons_of_mem _ hx))
   have k3 := iX h1 fun x hx => h2 x (List.mem_append_right _ hx)
   obtain ⟨f, hf, Ac⟩ := xC hp c
   show YtmlhcncagdfjfaaGreat.minusD T m q = true
   unfold YtmlhcncagdfjfaaGreat.minusD
   rw [show hs m q 2 = true from k0, Bool.true_and, Bool.or_eq_true]
   refine .inr (List.any_eq_true.2 ⟨f, hf, List.any_eq_true.2 ⟨r, Ac, ?_⟩⟩)
   unfold il
   rw [k1, Bool.true_and, List.all_eq_true]
   intro x hx
   rw [Bool.or_eq_true]
   by_cases hb : beatB T x r = true
   ·obtain ⟨c, j1, j2⟩ := k3 x (by unfold aQ eX; exact List.mem_filter.2 ⟨hx, hb⟩)
    exact .inl (j3 j1 j2)
   exact .inr (by simpa using hb)
  simp only [if_neg c] at h1
  cases h1
 rw [if_neg c8] at h1
 cases h1
end
end Go.Proofs.YtmlhcncagdfjfaaGreat.De
