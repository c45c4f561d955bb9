import Derived.Test.YthifoamnmhlghaaGreatNvM
namespace Go.Proofs.YthifoamnmhlghaaGreat
open Go.RowKit
def tags : List Int := [1, 2, 3, 4]
theorem g8 {t : Int} (h : ax t) : t ∈ tags := by rcases h with rfl | rfl | rfl | rfl <;> simp [tags]
theorem qu : ∀ x : _root_.Fin 256, (tags.all fun t => tags.all fun u => decide (hb (cw (x.val : Int) t) u = (hb (x.val : Int) u || decide (t = u))) && decide (0 ≤ cw (x.val : Int) t) && decide (cw (x.val : Int) t < 256) && decide ((x.val : Int) < 16 → cw (x.val : Int) t < 16)) = true := by decide +kernel
theorem qG : (tags.all fun t => decide (hb 0 t = false)) = true := by decide +kernel
def aU (x : Int) : Prop := 0 ≤ x ∧ x < 256
theorem dM {x t u : Int} (hx : aU x) (ht : ax t) (hu : ax u) : hb (cw x t) u = (hb x u || decide (t = u)) ∧ aU (cw x t) ∧ (x < 16 → cw x t < 16) := by
 obtain ⟨n, rfl⟩ := Int.eq_ofNat_of_zero_le hx.1
 have hn : n < 256 := by have := hx.2; omega
 have := qu ⟨n, hn⟩
 have := List.all_eq_true.1 this t (g8 ht)
 have := List.all_eq_true.1 this u (g8 hu)
 simp only [Bool.and_eq_true, decide_eq_true_eq] at this
 exact ⟨this.1.1.1, ⟨this.1.1.2, this.1.2⟩, this.2⟩
theorem iy {t : Int} (ht : ax t) : hb 0 t = false := by
 have := List.all_eq_true.1 qG t (g8 ht)
 simpa using this
def kN (m : List Int) : Prop := ∀ q : Nat, aU (m.getD q 0)
section
variable {T : Th} {F m m' : List Int} {n : Nat}
theorem gl {q t x u : Int} (hx : aU x) (ht : ax t) (hu : ax u) : hb (dy T F m q t x) u = (hb x u || (decide (t = u) && (!hs m q t && dl T F m t q))) ∧ aU (dy T F m q t x) ∧ (x < 16 → dy T F m q t x < 16) := by
 unfold dy
 obtain ⟨h1, h2, h3⟩ := dM hx ht hu
 cases hc : (!hs m q t && dl T F m t q)
 · simp [hx]
 · simp only [if_true]
   refine ⟨by rw [h1]; simp, h2, h3⟩
theorem tag1 : ax 1 := .inl rfl
theorem tag2 : ax 2 := .inr (.inl rfl)
theorem tag3 : ax 3 := .inr (.inr (.inl rfl))
theorem tag4 : ax 4 := .inr (.inr (.inr rfl))
theorem iX {q x u : Int} (hx : aU x) (hu : ax u) : hb (bC T F m q 4 x) u = (hb x u || (!hs m q u && dl T F m u q)) ∧ aU (bC T F m q 4 x) ∧ (x < 16 → bC T F m q 4 x < 16) := by
 obtain ⟨a1, a2, a3⟩ := gl (T := T) (F := F) (m := m) (q := q) hx tag1 hu
 obtain ⟨b1, b2, b3⟩ := gl (T := T) (F := F) (m := m) (q := q) a2 tag2 hu
 obtain ⟨c1, c2, c3⟩ := gl (T := T) (F := F) (m := m) (q := q) b2 tag3 hu
 obtain ⟨d1, d2, d3⟩ := gl (T := T) (F := F) (m := m) (q := q) c2 tag4 hu
 refine ⟨?_, d2, fun h => d3 (c3 (b3 (a3 h)))⟩
 show hb (dy T F m q 4 (dy T F m q 3 (dy T F m q 2 (dy T F m q 1 x)))) u = _
 rw [d1, c1, b1, a1]
 rcases hu with rfl | rfl | rfl | rfl <;> simp
theorem ko {q : Nat} (hq : q < m.length) : (aK T F m).getD q 0 = bC T F m q 4 (m.getD q 0) := by
 unfold aK
 rw [List.getD_eq_getElem?_getD, List.getElem?_map, List.getElem?_range hq]
 rfl
theorem j5 {q : Nat} (hq : m.length ≤ q) : m.getD q 0 = 0 := by rw [List.getD_eq_getElem?_getD, List.getElem?_eq_none hq]; rfl
theorem qp (h : kN m) : kN (aK T F m) := by
 intro q
 by_cases hq : q < m.length
 · rw [ko hq]; exact (iX (h q) tag1).2.1
 · rw [j5 (by rw [cu]; omega)]; exact ⟨by omega, by omega⟩
theorem nP (h : kN m) (hs : ∀ q : Nat, m.getD q 0 < 16) : ∀ q : Nat, (aK T F m).getD q 0 < 16 := by
 intro q
 by_cases hq : q < m.length
 · rw [ko hq]; exact (iX (h q) tag1).2.2 (hs q)
 · rw [j5 (by rw [cu]; omega)]; omega
theorem fE {q t : Int} (h : kN m) (h0 : 0 ≤ q) (h1 : q < (m.length : Int)) (ht : ax t) : hs (aK T F m) q t = (hs m q t || dl T F m t q) := by
 obtain ⟨k, rfl⟩ := Int.eq_ofNat_of_zero_le h0
 unfold hs
 rw [Int.toNat_natCast, ko (by omega), (iX (h k) ht).1]
 have : hs m (k : Int) t = hb (m.getD k 0) t := by unfold hs; rw [Int.toNat_natCast]
 rw [this]
 cases hb (m.getD k 0) t <;> simp
theorem pF {q t : Int} (h0 : 0 ≤ q) (h1 : ¬ q < (m.length : Int)) (ht : ax t) : hs m q t = false := by
 unfold hs
 rw [j5 (by omega)]
 exact iy ht
def Le (m m' : List Int) : Prop := ∀ q t : Int, 0 ≤ q → ax t → hs m q t = true → hs m' q t = true
theorem Le.refl (m : List Int) : Le m m := fun _ _ _ _ h => h
theorem Le.trans {m1 m2 m3 : List Int} (h : Le m1 m2) (k : Le m2 m3) : Le m1 m3 := fun q t h0 ht hq => k q t h0 ht (h q t h0 ht hq)
theorem gH (h : kN m) : Le m (aK T F m) := by
 intro q t h0 ht hq
 by_cases h1 : q < (m.length : Int)
 · rw [fE h h0 h1 ht, hq]; rfl
 · rw [pF h0 h1 ht] at hq; cases hq
theorem fF (hp : Pf T F n) {r x : Int} (hx : x ∈ aB T r) : 0 ≤ x ∧ x < (n : Int) := by
 unfold aB at hx
 cases hR : T.rules[r.toNat]? with
 | none => rw [hR] at hx; cases hx
 | some R => rw [hR] at hx; exact hp.body R (List.mem_of_getElem? hR) x hx
theorem lM {r t : Int} : wholeB T m r t = true ↔ ∀ x ∈ aB T r, hs m x t = true := by unfold wholeB; rw [List.all_eq_true]
theorem me {r t : Int} : partB T m r t = true ↔ ∃ x ∈ aB T r, hs m x t = true := by unfold partB; rw [List.any_eq_true]
theorem gu (hp : Pf T F n) (h : Le m m') {r t : Int} (ht : ax t) (hw : wholeB T m r t = true) : wholeB T m' r t = true := lM.2 fun x hx => h x t (fF hp hx).1 ht (lM.1 hw x hx)
theorem hH (hp : Pf T F n) (h : Le m m') {r t : Int} (ht : ax t) (hw : partB T m r t = true) : partB T m' r t = true := by
 obtain ⟨x, hx, hm⟩ := me.1 hw
 exact me.2 ⟨x, hx, h x t (fF hp hx).1 ht hm⟩
theorem nJ (hp : Pf T F n) {q f : Int} (h0 : 0 ≤ q) (h1 : q < (n : Int)) (hf : f ∈ row T.foes q) : 0 ≤ f ∧ f < (n : Int) := by
 obtain ⟨k, rfl⟩ := Int.eq_ofNat_of_zero_le h0
 exact hp.foe k (by omega) f hf
theorem eL {q : Int} : plusS T F m q = true ↔ q ∈ F ∨ ∃ r ∈ af T kS q, wholeB T m r 1 = true := by unfold plusS; simp [List.any_eq_true]
theorem eA {q : Int} : minusS T F m q = true ↔ q ∉ F ∧ ∀ r ∈ af T kS q, partB T m r 2 = true := by unfold minusS; simp [List.all_eq_true]
theorem jb {q s : Int} : gi T m q s = true ↔ partB T m s 4 = true ∨ ∃ t ∈ af T kT q, beatB T t s = true ∧ wholeB T m t 3 = true := by unfold gi; simp [List.any_eq_true]
theorem jf {q s : Int} : gh T m q s = true ↔ wholeB T m s 3 = true ∧ ∀ t ∈ af T kT q, partB T m t 4 = true ∨ beatB T t s = false := by unfold gh; simp [List.all_eq_true]
theorem eo {q : Int} : plusD T m q = true ↔ hs m q 1 = true ∨ ((∃ r ∈ af T kT q, wholeB T m r 3 = true) ∧ (∀ f ∈ row T.foes q, hs m f 2 = true) ∧ ∀ f ∈ row T.foes q, ∀ s ∈ af T kA f, gi T m q s = true) := by
 unfold plusD
 simp only [Bool.or_eq_true, Bool.and_eq_true, List.any_eq_true, List.all_eq_true, and_assoc]
theorem gz {q : Int} : minusD T m q = true ↔ hs m q 2 = true ∧ ((∀ r ∈ af T kT q, partB T m r 4 = true) ∨ (∃ f ∈ row T.foes q, hs m f 1 = true) ∨ ∃ f ∈ row T.foes q, ∃ s ∈ af T kA f, gh T m q s = true) := by
 unfold minusD
 simp only [Bool.or_eq_true, Bool.and_eq_true, List.any_eq_true, List.all_eq_true, or_assoc]
theorem rP {q : Int} : dl T F m 1 q = plusS T F m q := rfl
theorem rQ {q : Int} : dl T F m 2 q = minusS T F m q := rfl
theorem rV {q : Int} : dl T F m 3 q = plusD T m q := rfl
theorem sa {q : Int} : dl T F m 4 q = minusD T m q := rfl
theorem py (hp : Pf T F n) (h : Le m m') {q t : Int} (h0 : 0 ≤ q) (h1 : q < (n : Int)) (ht : ax t) (hc : dl T F m t q = true) : dl T F m' t q = true := by
 rcases ht with rfl | rfl | rfl | rfl
 · rw [rP] at *
   rcases eL.1 hc with h2 | ⟨r, hr, hw⟩
   · exact eL.2 (.inl h2)
   · exact eL.2 (.inr ⟨r, hr, gu hp h tag1 hw⟩)
 · rw [rQ] at *
   obtain ⟨h2, h3⟩ := eA.1 hc
   exact eA.2 ⟨h2, fun r hr => hH hp h tag2 (h3 r hr)⟩
 · rw [rV] at *
   rcases eo.1 hc with h2 | ⟨⟨r, hr, hw⟩, h3, h4⟩
   · exact eo.2 (.inl (h q 1 h0 tag1 h2))
   · refine eo.2 (.inr ⟨⟨r, hr, gu hp h tag3 hw⟩, fun f hf => h f 2 (nJ hp h0 h1 hf).1 tag2 (h3 f hf), fun f hf s hs => ?_⟩)
     rcases jb.1 (h4 f hf s hs) with h5 | ⟨t, ht, h5, h6⟩
     · exact jb.2 (.inl (hH hp h tag4 h5))
     · exact jb.2 (.inr ⟨t, ht, h5, gu hp h tag3 h6⟩)
 · rw [sa] at *
   obtain ⟨h2, h3⟩ := gz.1 hc
   refine gz.2 ⟨h q 2 h0 tag2 h2, ?_⟩
   rcases h3 with h3 | ⟨f, hf, h3⟩ | ⟨f, hf, s, hs, h3⟩
   · exact .inl fun r hr => hH hp h tag4 (h3 r hr)
   · exact .inr (.inl ⟨f, hf, h f 1 (nJ hp h0 h1 hf).1 tag1 h3⟩)
   · obtain ⟨h5, h6⟩ := jf.1 h3
     exact .inr (.inr ⟨f, hf, s, hs, jf.2 ⟨gu hp h tag3 h5, fun t ht => (h6 t ht).imp (hH hp h tag4) id⟩⟩)
end
def Mk (T : Th) (F : List Int) (k : Nat) : List Int := bn T F k (List.replicate T.lits.toNat 0)
section
variable {T : Th} {F m : List Int} {n k j : Nat}
theorem iN {c q : Nat} : (List.replicate c (0 : Int)).getD q 0 = 0 := by
 rw [List.getD_eq_getElem?_getD, List.getElem?_replicate]
 split <;> rfl
theorem gF (hp : Pf T F n) : (Mk T F k).length = n := by
 unfold Mk
 rw [np, List.length_replicate, hp.ln, Int.toNat_natCast]
theorem gC : Mk T F (k + 1) = aK T F (Mk T F k) := fX
theorem ft : ∀ {k : Nat}, kN (Mk T F k)
 | 0 => fun q => by show aU ((List.replicate T.lits.toNat 0).getD q 0); rw [iN]; exact ⟨by omega, by omega⟩
 | k + 1 => by rw [gC]; exact qp ft
theorem mM : ∀ {k : Nat} (q : Nat), (Mk T F k).getD q 0 < 16
 | 0, q => by show (List.replicate T.lits.toNat 0).getD q 0 < 16; rw [iN]; omega
 | k + 1, q => by rw [gC]; exact nP ft (fun q => mM q) q
theorem ub : Le (Mk T F k) (Mk T F (k + j)) := by
 induction j with
 | zero => exact Le.refl _
 | succ j ih => rw [← Nat.add_assoc, gC]; exact ih.trans (gH ft)
theorem oG (hp : Pf T F n) {q t : Int} (h0 : 0 ≤ q) (ht : ax t) : ∀ {k : Nat}, hs (Mk T F k) q t = true → ∃ i, i < k ∧ dl T F (Mk T F i) t q = true ∧ q < (n : Int)
 | 0, h => by
  have : hs (Mk T F 0) q t = false := by
   show hb ((List.replicate T.lits.toNat 0).getD q.toNat 0) t = false
   rw [iN]; exact iy ht
  rw [this] at h; cases h
 | k + 1, h => by
  by_cases h1 : q < (n : Int)
  · rw [gC, fE ft h0 (by rw [gF hp]; exact h1) ht] at h
    rcases Bool.or_eq_true_iff.1 h with h2 | h2
    · obtain ⟨i, hi, hc⟩ := oG hp h0 ht h2
      exact ⟨i, by omega, hc⟩
    · exact ⟨k, by omega, h2, h1⟩
  · rw [pF h0 (by rw [gF hp]; exact h1) ht] at h; cases h
theorem jJ (hp : Pf T F n) (h : bo T F m k) : m.length = n := by rw [h.1]; exact gF hp
theorem oE (h : bo T F m k) : kN m := by rw [h.1]; exact ft
theorem eq (hp : Pf T F n) (h : bo T F m k) {q t : Int} (h0 : 0 ≤ q) (h1 : q < (n : Int)) (ht : ax t) : hs m q t = true ↔ dl T F m t q = true := by
 constructor
 · intro hq
   have e := h.1
   rw [e] at hq
   obtain ⟨i, hi, hc, -⟩ := oG hp h0 ht hq
   refine py hp ?_ h0 h1 ht hc
   rw [e]
   obtain ⟨d, rfl⟩ := Nat.exists_eq_add_of_le (Nat.le_of_lt hi)
   exact ub
 · intro hc
   have := fE (T := T) (F := F) (oE h) h0 (by rw [jJ hp h]; exact h1) ht
   rw [h.2, hc] at this
   simpa using this
def uu (T : Th) : Prop := ∃ (f : Int → Nat) (B : Nat), (∀ r, f r ≤ B) ∧ ∀ t s : Int, 0 ≤ t → s ∈ row T.beats t → f s < f t
end
end Go.Proofs.YthifoamnmhlghaaGreat
namespace Go.Proofs.YthifoamnmhlghaaGreat
open Go.RowKit
def cm (s : Wk) (x : Int) : Int := s.came.getD x.toNat 0
def bk (s : Wk) (x : Int) : Int := s.back.getD x.toNat 0
def sh (s : Wk) (x : Int) : Bool := s.shut.getD x.toNat false
def kU (N : Nat) (x : Int) : Prop := 0 ≤ x ∧ x < (N : Int)
def uq (next : List (List Int)) (L : List Int) : Prop := ∀ A x B, L = A ++ x :: B → ∀ o ∈ row next x, o ∈ A
def un (s : Wk) : Nat := (s.came.filter fun z => decide (z = 0)).length
structure Iv (next : List (List Int)) (N : Nat) (s : Wk) : Prop where
 lc : s.came.length = N
 lb : s.back.length = N
 ls : s.shut.length = N
 ck : ∀ x, kU N x → 0 ≤ cm s x ∧ cm s x ≤ s.clock
 op : ∀ x ∈ s.opn, kU N x ∧ cm s x ≠ 0 ∧ sh s x = false
 vis : ∀ x, kU N x → cm s x ≠ 0 → sh s x = false → x ∈ s.opn
 srt : s.opn.Pairwise fun a b => cm s a < cm s b
 bck : ∀ x ∈ s.opn, ∃ y ∈ s.opn, bk s x = cm s y ∧ cm s y ≤ cm s x
 fl : ∀ x, kU N x → (sh s x = true ↔ x ∈ s.knots.flatten)
 kn : ∀ x ∈ s.knots.flatten, kU N x
 top : (∀ k ∈ s.knots, k.length ≤ 1) → uq next s.knots.flatten
 c0 : 0 ≤ s.clock
 sv : ∀ x, kU N x → sh s x = true → cm s x ≠ 0
structure Fm (N : Nat) (s s' : Wk) : Prop where
 same : ∀ x, kU N x → cm s x ≠ 0 → cm s' x = cm s x ∧ bk s' x = bk s x
 sh : ∀ x, kU N x → sh s x = true → sh s' x = true
 op : ∃ R, s'.opn = s.opn ++ R
 kn : ∃ K, s'.knots = s.knots ++ K
 un : un s' ≤ un s
theorem Fm.refl (N : Nat) (s : Wk) : Fm N s s := ⟨fun _ _ _ => ⟨rfl, rfl⟩, fun _ _ h => h, ⟨[], by simp⟩, ⟨[], by simp⟩, Nat.le_refl _⟩
theorem Fm.trans {N : Nat} {a b c : Wk} (h : Fm N a b) (k : Fm N b c) : Fm N a c := by
 refine ⟨fun x hx h0 => ?_, fun x hx h0 => k.sh x hx (h.sh x hx h0), ?_, ?_, Nat.le_trans k.un h.un⟩
 · obtain ⟨h1, h2⟩ := h.same x hx h0
   obtain ⟨h3, h4⟩ := k.same x hx (by rw [h1]; exact h0)
   exact ⟨h3.trans h1, h4.trans h2⟩
 · obtain ⟨R, h1⟩ := h.op
   obtain ⟨R', h2⟩ := k.op
   exact ⟨R ++ R', by rw [h2, h1, List.append_assoc]⟩
 · obtain ⟨R, h1⟩ := h.kn
   obtain ⟨R', h2⟩ := k.kn
   exact ⟨R ++ R', by rw [h2, h1, List.append_assoc]⟩
section
variable {next : List (List Int)} {N : Nat} {s : Wk} {p : Int}
structure Lp (next : List (List Int)) (N : Nat) (p : Int) (O : List Int) (D : List Int) (s : Wk) : Prop where
 iv : Iv next N s
 at_ : ∃ R, s.opn = O ++ p :: R
 dn : ∀ o ∈ D, kU N o ∧ (sh s o = true ∨ (o ∈ s.opn ∧ bk s p ≤ cm s o))
end
section
variable {next : List (List Int)} {N : Nat}
def ux (x : Int) : List Int → Nat
 | [] => 0
 | y :: l => if y = x then 0 else ux x l + 1
end
end Go.Proofs.YthifoamnmhlghaaGreat
