import Derived.Test.YtmlhcncagdfjfaaGreatNvM
import Derived.BigQuiet
namespace Go.Proofs.YtmlhcncagdfjfaaGreat
open Go.RowKit
structure Hv (hb n : Nat) (H : List (List Int)) (vs : List Value) (w : World) : Prop where
 ln : H.length = n
 vl : vs.length = n
 fx : Fx hb 26 vs w
 own : ∀ (i : Nat) l v, H[i]? = some l → vs[i]? = some v → w.ownsRow (hb + 1) 3 1 v l.length (aw l)
 apart : ∀ (i j : Nat) v u g, vs[i]? = some v → vs[j]? = some u → v.ownBlock = some g → u.ownBlock = some g → i = j
section
variable {hb n : Nat} {H : List (List Int)} {vs : List Value} {w w' : World}
end
section
variable {wr w5 : World} {ob : Obj} {v : Value} {hb : Nat}
theorem nm (hgrow : (wr.alloc ob).drew.grownBy w5 v.ownBlock) {k : Nat} (hk : k < wr.heap.size) (hn : v.ownBlock ≠ some k) : w5.heap[k]? = wr.heap[k]? := by
 refine (hgrow.block k ?_ fun e => hn e.symm).trans ((ac wr ob).block k hk)
 have : (wr.alloc ob).drew.heap.size = wr.heap.size + 1 := by show (wr.alloc ob).heap.size = _; simp
 omega
end
def Ts (w : World) (p : Int → Bool) (D : Int → Prop) (v : Value) : Prop :=
 ∃ (k : Nat) (caps : Array Value), v = .func (.func k) #[] caps ∧ (∀ args w', (callFunc k args).run Tryz.prog w' = .ok (.enter k args) w') ∧
  ∀ (x : Int) (w' : World), D x → Below w.heap.size w w' → Calls Tryz.prog k (#[.int .i64 x] ++ caps) w' fun e w2 => e = .returned (.bool (p x)) ∧ Below w'.heap.size w' w2
theorem nX {p : Int → Bool} {l : List Int} {k : Nat} {x : Int} (hx : l[k]? = some x) (h : p x = true) : (l.drop k).any p = true := by rw [aY hx, List.any_cons, h, Bool.true_or]
theorem mU {p : Int → Bool} {l : List Int} {k : Nat} {x : Int} (hx : l[k]? = some x) (h : p x = false) : (l.drop k).any p = (l.drop (k + 1)).any p := by rw [aY hx, List.any_cons, h, Bool.false_or]
section
variable {w : World} {p : Int → Bool} {D : Int → Prop} {v : Value} {l : List Int} {a : Option Addr} {c : Nat}
def zZ (o : Bool) (i : Int) : Prop := (o = true → 0 ≤ i) ∧ (o = false → i = -1)
end
set_option maxRecDepth 100000
set_option maxHeartbeats 3200000
structure Pf (T : Th) (F : List Int) (n : Nat) : Prop where
 ok : zM T
 ln : T.lits = (n : Int)
 n4 : n ≤ 4096
 foe : ∀ q : Nat, q < n → ∀ f ∈ row T.foes q, 0 ≤ f ∧ f < (n : Int)
 head : ∀ r ∈ T.rules, 0 ≤ r.head ∧ r.head < (n : Int)
 body : ∀ r ∈ T.rules, ∀ x ∈ r.body, 0 ≤ x ∧ x < (n : Int)
 beat : ∀ l ∈ T.beats, l.Pairwise (· < ·)
 fact : ∀ x ∈ F, 0 ≤ x ∧ x < (n : Int)
theorem bK {b : Int} : ∀ {l : List Int} {p : Int}, -1 ≤ p → cg b p l = true → (∀ x ∈ l, p < x ∧ x < b) ∧ l.Pairwise (· < ·)
 | [], _, _, _ => ⟨fun x hx => (by cases hx), List.Pairwise.nil⟩
 | y :: l, p, hp, h => by
  unfold cg at h
  split at h
  · cases h
  · rename_i hn
    obtain ⟨h1, h2⟩ := bK (p := y) (by omega) h
    refine ⟨fun x hx => ?_, List.pairwise_cons.2 ⟨fun x hx => (h1 x hx).1, h2⟩⟩
    rcases List.mem_cons.1 hx with rfl | hx
    · omega
    · have := h1 x hx; omega
theorem sH {T : Th} {F : List Int} (h : dQ T F = 0) : Pf T F T.lits.toNat := by
 unfold dQ at h
 by_cases hc : (dV T).1 ≠ 0
 · rw [if_pos hc] at h; exact absurd h hc
 · rw [if_neg hc] at h
   have Aa := ww (Classical.not_not.1 hc)
   have h0 := Aa.l0
   have h1 := Aa.l1
   have Ab := Aa.fl
   have hr : cK F T.lits = true := by
    cases e : cK F T.lits with
    | true => rfl
    | false => rw [e] at h; cases h
   obtain ⟨f1, f2⟩ := bK (by omega) hr
   refine ⟨Aa, by omega, by omega, fun q hq f hf => ?_, fun r hr => ?_, fun r hr x hx => ?_, fun l hl => ?_, fun x hx => ?_⟩
   · obtain ⟨l, hl⟩ := am (l := T.foes) (i := q) (by omega)
     rw [bS (by rw [Int.toNat_natCast]; exact hl)] at hf
     have := (bK (by omega) (Aa.foe q l hl).2.1).1 f hf
     omega
   · have := Aa.rule r hr
     exact ⟨this.2.2.1, by have := this.2.2.2.1; omega⟩
   · have := (bK (by omega) (Aa.rule r hr).2.2.2.2.2).1 x hx
     omega
   · obtain ⟨i, hi⟩ := List.mem_iff_getElem?.1 hl
     exact (bK (by omega) (Aa.beat i l hi).1).2
   · have := f1 x hx
     omega
def A3 (l : List Int) : List Value := l.map (Value.int .u8)
def zO (F : List Int) (n : Nat) : List Bool := (List.range n).map fun q : Nat => decide ((q : Int) ∈ F)
structure Ka where
 fa : Option Addr
 fc : Nat
 ra : Option Addr
 rc : Nat
 ba : Option Addr
 bc : Nat
 fb : Nat
 s0 : Nat
 s1 : Nat
 s2 : Nat
abbrev A4 (A : Ka) (T : Th) (n : Nat) (mv : Value) : List Value := [.int .i64 T.lits, .slice A.fa T.foes.length A.fc, .slice A.ra T.rules.length A.rc, .slice A.ba T.beats.length A.bc, .slice (some ⟨A.fb, 0, none⟩) n n, .slice (some ⟨A.s0, 0, none⟩) n n, .slice (some ⟨A.s1, 0, none⟩) n n, .slice (some ⟨A.s2, 0, none⟩) n n, mv]
structure Kn (K : Nat) (A : Ka) (T : Th) (F : List Int) (n : Nat) (m : List Int) (ma : Option Addr) (mc : Nat) (w : World) : Prop where
 pf : Pf T F n
 bx : Fx K 157 (A4 A T n (.slice ma n mc)) w
 ta : TA w.heap.size w T A.fa A.fc A.ra A.rc A.ba A.bc
 ff : Fx A.fb 4 (gh (zO F n)) w
 l0 : Lists w.heap.size w (yI T kS n) (.slice (some ⟨A.s0, 0, none⟩) n n)
 l1 : Lists w.heap.size w (yI T kT n) (.slice (some ⟨A.s1, 0, none⟩) n n)
 l2 : Lists w.heap.size w (yI T kA n) (.slice (some ⟨A.s2, 0, none⟩) n n)
 ml : m.length = n
 mm : At1 w ma (A3 m)
section
variable {K n : Nat} {A : Ka} {T : Th} {F m : List Int} {ma : Option Addr} {mc : Nat} {w w' : World}
def ar (t : Int) : Prop := t = 1 ∨ t = 2 ∨ t = 3 ∨ t = 4
theorem nY {t : Int} (ht : ar t) : Calls Tryz.prog 137 #[.int .i64 t] w fun e w' => e = .returned (.int .u8 (bitM t)) ∧ w' = w := by
 rcases ht with rfl | rfl | rfl | rfl
 all_goals
  go_enter Tryz.func137, Tryz.ntmps137
  go_wp2_with fail
  go_ret
  exact ⟨rfl, rfl⟩
end
def tags : List Int := [1, 2, 3, 4]
theorem jd {t : Int} (h : ar t) : t ∈ tags := by rcases h with rfl | rfl | rfl | rfl <;> simp [tags]
theorem tK : ∀ x : _root_.Fin 256, (tags.all fun t => tags.all fun u => decide (hb (cC (x.val : Int) t) u = (hb (x.val : Int) u || decide (t = u))) && decide (0 ≤ cC (x.val : Int) t) && decide (cC (x.val : Int) t < 256) && decide ((x.val : Int) < 16 → cC (x.val : Int) t < 16)) = true := by decide +kernel
theorem vz : (tags.all fun t => decide (hb 0 t = false)) = true := by decide +kernel
def aQ (x : Int) : Prop := 0 ≤ x ∧ x < 256
theorem dv {x t u : Int} (hx : aQ x) (ht : ar t) (hu : ar u) : hb (cC x t) u = (hb x u || decide (t = u)) ∧ aQ (cC x t) ∧ (x < 16 → cC x t < 16) := by
 obtain ⟨n, rfl⟩ := Int.eq_ofNat_of_zero_le hx.1
 have hn : n < 256 := by have := hx.2; omega
 have := tK ⟨n, hn⟩
 have := List.all_eq_true.1 this t (jd ht)
 have := List.all_eq_true.1 this u (jd hu)
 simp only [Bool.and_eq_true, decide_eq_true_eq] at this
 exact ⟨this.1.1.1, ⟨this.1.1.2, this.1.2⟩, this.2⟩
theorem iH {t : Int} (ht : ar t) : hb 0 t = false := by
 have := List.all_eq_true.1 vz t (jd ht)
 simpa using this
def oR (m : List Int) : Prop := ∀ q : Nat, aQ (m.getD q 0)
section
variable {T : Th} {F m m' : List Int} {n : Nat}
theorem iy {q t x u : Int} (hx : aQ x) (ht : ar t) (hu : ar u) : hb (fL T F m q t x) u = (hb x u || (decide (t = u) && (!hs m q t && aZ T F m t q))) ∧ aQ (fL T F m q t x) ∧ (x < 16 → fL T F m q t x < 16) := by
 unfold fL
 obtain ⟨h1, h2, h3⟩ := dv hx ht hu
 cases hc : (!hs m q t && aZ T F m t q)
 · simp [hx]
 · simp only [if_true]
   refine ⟨by rw [h1]; simp, h2, h3⟩
theorem aL : ar 1 := .inl rfl
theorem aM : ar 2 := .inr (.inl rfl)
theorem aX : ar 3 := .inr (.inr (.inl rfl))
theorem bH : ar 4 := .inr (.inr (.inr rfl))
theorem kB {q x u : Int} (hx : aQ x) (hu : ar u) : hb (lF T F m q 4 x) u = (hb x u || (!hs m q u && aZ T F m u q)) ∧ aQ (lF T F m q 4 x) ∧ (x < 16 → lF T F m q 4 x < 16) := by
 obtain ⟨a1, a2, a3⟩ := iy (T := T) (F := F) (m := m) (q := q) hx aL hu
 obtain ⟨b1, b2, b3⟩ := iy (T := T) (F := F) (m := m) (q := q) a2 aM hu
 obtain ⟨c1, c2, c3⟩ := iy (T := T) (F := F) (m := m) (q := q) b2 aX hu
 obtain ⟨d1, d2, d3⟩ := iy (T := T) (F := F) (m := m) (q := q) c2 bH hu
 refine ⟨?_, d2, fun h => d3 (c3 (b3 (a3 h)))⟩
 show hb (fL T F m q 4 (fL T F m q 3 (fL T F m q 2 (fL T F m q 1 x)))) u = _
 rw [d1, c1, b1, a1]
 rcases hu with rfl | rfl | rfl | rfl <;> simp
theorem mD {q : Nat} (hq : q < m.length) : (bM T F m).getD q 0 = lF T F m q 4 (m.getD q 0) := by
 unfold bM
 rw [List.getD_eq_getElem?_getD, List.getElem?_map, List.getElem?_range hq]
 rfl
theorem mM {q : Nat} (hq : m.length ≤ q) : m.getD q 0 = 0 := by rw [List.getD_eq_getElem?_getD, List.getElem?_eq_none hq]; rfl
theorem tQ (h : oR m) : oR (bM T F m) := by
 intro q
 by_cases hq : q < m.length
 · rw [mD hq]; exact (kB (h q) aL).2.1
 · rw [mM (by rw [jp]; omega)]; exact ⟨by omega, by omega⟩
theorem qT (h : oR m) (hs : ∀ q : Nat, m.getD q 0 < 16) : ∀ q : Nat, (bM T F m).getD q 0 < 16 := by
 intro q
 by_cases hq : q < m.length
 · rw [mD hq]; exact (kB (h q) aL).2.2 (hs q)
 · rw [mM (by rw [jp]; omega)]; omega
theorem iK {q t : Int} (h : oR m) (h0 : 0 ≤ q) (h1 : q < (m.length : Int)) (ht : ar t) : hs (bM T F m) q t = (hs m q t || aZ T F m t q) := by
 obtain ⟨k, rfl⟩ := Int.eq_ofNat_of_zero_le h0
 unfold hs
 rw [Int.toNat_natCast, mD (by omega), (kB (h k) ht).1]
 have : hs m (k : Int) t = hb (m.getD k 0) t := by unfold hs; rw [Int.toNat_natCast]
 rw [this]
 cases hb (m.getD k 0) t <;> simp
theorem uj {q t : Int} (h0 : 0 ≤ q) (h1 : ¬ q < (m.length : Int)) (ht : ar t) : hs m q t = false := by
 unfold hs
 rw [mM (by omega)]
 exact iH ht
def Le (m m' : List Int) : Prop := ∀ q t : Int, 0 ≤ q → ar t → hs m q t = true → hs m' q t = true
theorem Le.refl (m : List Int) : Le m m := fun _ _ _ _ h => h
theorem Le.trans {m1 m2 m3 : List Int} (h : Le m1 m2) (k : Le m2 m3) : Le m1 m3 := fun q t h0 ht hq => k q t h0 ht (h q t h0 ht hq)
theorem mu (h : oR m) : Le m (bM T F m) := by
 intro q t h0 ht hq
 by_cases h1 : q < (m.length : Int)
 · rw [iK h h0 h1 ht, hq]; rfl
 · rw [uj h0 h1 ht] at hq; cases hq
theorem gS (hp : Pf T F n) {r x : Int} (hx : x ∈ au T r) : 0 ≤ x ∧ x < (n : Int) := by
 unfold au at hx
 cases hR : T.rules[r.toNat]? with
 | none => rw [hR] at hx; cases hx
 | some R => rw [hR] at hx; exact hp.body R (List.mem_of_getElem? hR) x hx
theorem nW {r t : Int} : cO T m r t = true ↔ ∀ x ∈ au T r, hs m x t = true := by unfold cO; rw [List.all_eq_true]
theorem nU {r t : Int} : dT T m r t = true ↔ ∃ x ∈ au T r, hs m x t = true := by unfold dT; rw [List.any_eq_true]
theorem iA (hp : Pf T F n) (h : Le m m') {r t : Int} (ht : ar t) (hw : cO T m r t = true) : cO T m' r t = true := nW.2 fun x hx => h x t (gS hp hx).1 ht (nW.1 hw x hx)
theorem jn (hp : Pf T F n) (h : Le m m') {r t : Int} (ht : ar t) (hw : dT T m r t = true) : dT T m' r t = true := by
 obtain ⟨x, hx, hm⟩ := nU.1 hw
 exact nU.2 ⟨x, hx, h x t (gS hp hx).1 ht hm⟩
theorem pC (hp : Pf T F n) {q f : Int} (h0 : 0 ≤ q) (h1 : q < (n : Int)) (hf : f ∈ row T.foes q) : 0 ≤ f ∧ f < (n : Int) := by
 obtain ⟨k, rfl⟩ := Int.eq_ofNat_of_zero_le h0
 exact hp.foe k (by omega) f hf
theorem fN {q : Int} : plusS T F m q = true ↔ q ∈ F ∨ ∃ r ∈ ae T kS q, cO T m r 1 = true := by unfold plusS; simp [List.any_eq_true]
theorem gp {q : Int} : minusS T F m q = true ↔ q ∉ F ∧ ∀ r ∈ ae T kS q, dT T m r 2 = true := by unfold minusS; simp [List.all_eq_true]
theorem j6 {q s : Int} : oA T m q s = true ↔ dT T m s 4 = true ∨ ∃ t ∈ ae T kT q, bn T t s = true ∧ cO T m t 3 = true := by unfold oA; simp [List.any_eq_true]
theorem kr {q s : Int} : oC T m q s = true ↔ cO T m s 3 = true ∧ ∀ t ∈ ae T kT q, dT T m t 4 = true ∨ bn T t s = false := by unfold oC; simp [List.all_eq_true]
theorem eV {q : Int} : plusD T m q = true ↔ hs m q 1 = true ∨ ((∃ r ∈ ae T kT q, cO T m r 3 = true) ∧ (∀ f ∈ row T.foes q, hs m f 2 = true) ∧ ∀ f ∈ row T.foes q, ∀ s ∈ ae T kA f, oA T m q s = true) := by
 unfold plusD
 simp only [Bool.or_eq_true, Bool.and_eq_true, List.any_eq_true, List.all_eq_true, and_assoc]
theorem iD {q : Int} : minusD T m q = true ↔ hs m q 2 = true ∧ ((∀ r ∈ ae T kT q, dT T m r 4 = true) ∨ (∃ f ∈ row T.foes q, hs m f 1 = true) ∨ ∃ f ∈ row T.foes q, ∃ s ∈ ae T kA f, oC T m q s = true) := by
 unfold minusD
 simp only [Bool.or_eq_true, Bool.and_eq_true, List.any_eq_true, List.all_eq_true, or_assoc]
theorem cond1 {q : Int} : aZ T F m 1 q = plusS T F m q := rfl
theorem cond2 {q : Int} : aZ T F m 2 q = minusS T F m q := rfl
theorem cond3 {q : Int} : aZ T F m 3 q = plusD T m q := rfl
theorem cond4 {q : Int} : aZ T F m 4 q = minusD T m q := rfl
theorem oW (hp : Pf T F n) (h : Le m m') {q t : Int} (h0 : 0 ≤ q) (h1 : q < (n : Int)) (ht : ar t) (hc : aZ T F m t q = true) : aZ T F m' t q = true := by
 rcases ht with rfl | rfl | rfl | rfl
 · rw [cond1] at *
   rcases fN.1 hc with h2 | ⟨r, hr, hw⟩
   · exact fN.2 (.inl h2)
   · exact fN.2 (.inr ⟨r, hr, iA hp h aL hw⟩)
 · rw [cond2] at *
   obtain ⟨h2, h3⟩ := gp.1 hc
   exact gp.2 ⟨h2, fun r hr => jn hp h aM (h3 r hr)⟩
 · rw [cond3] at *
   rcases eV.1 hc with h2 | ⟨⟨r, hr, hw⟩, h3, h4⟩
   · exact eV.2 (.inl (h q 1 h0 aL h2))
   · refine eV.2 (.inr ⟨⟨r, hr, iA hp h aX hw⟩, fun f hf => h f 2 (pC hp h0 h1 hf).1 aM (h3 f hf), fun f hf s hs => ?_⟩)
     rcases j6.1 (h4 f hf s hs) with h5 | ⟨t, ht, h5, h6⟩
     · exact j6.2 (.inl (jn hp h bH h5))
     · exact j6.2 (.inr ⟨t, ht, h5, iA hp h aX h6⟩)
 · rw [cond4] at *
   obtain ⟨h2, h3⟩ := iD.1 hc
   refine iD.2 ⟨h q 2 h0 aM h2, ?_⟩
   rcases h3 with h3 | ⟨f, hf, h3⟩ | ⟨f, hf, s, hs, h3⟩
   · exact .inl fun r hr => jn hp h bH (h3 r hr)
   · exact .inr (.inl ⟨f, hf, h f 1 (pC hp h0 h1 hf).1 aL h3⟩)
   · obtain ⟨h5, h6⟩ := kr.1 h3
     exact .inr (.inr ⟨f, hf, s, hs, kr.2 ⟨iA hp h aX h5, fun t ht => (h6 t ht).imp (jn hp h bH) id⟩⟩)
end
def Mk (T : Th) (F : List Int) (k : Nat) : List Int := bF T F k (List.replicate T.lits.toNat 0)
section
variable {T : Th} {F m : List Int} {n k j : Nat}
theorem jZ {c q : Nat} : (List.replicate c (0 : Int)).getD q 0 = 0 := by
 rw [List.getD_eq_getElem?_getD, List.getElem?_replicate]
 split <;> rfl
theorem jG (hp : Pf T F n) : (Mk T F k).length = n := by
 unfold Mk
 rw [pG, List.length_replicate, hp.ln, Int.toNat_natCast]
theorem jA : Mk T F (k + 1) = bM T F (Mk T F k) := g8
theorem hG : ∀ {k : Nat}, oR (Mk T F k)
 | 0 => fun q => by show aQ ((List.replicate T.lits.toNat 0).getD q 0); rw [jZ]; exact ⟨by omega, by omega⟩
 | k + 1 => by rw [jA]; exact tQ hG
theorem pX : ∀ {k : Nat} (q : Nat), (Mk T F k).getD q 0 < 16
 | 0, q => by show (List.replicate T.lits.toNat 0).getD q 0 < 16; rw [jZ]; omega
 | k + 1, q => by rw [jA]; exact qT hG (fun q => pX q) q
theorem zy : Le (Mk T F k) (Mk T F (k + j)) := by
 induction j with
 | zero => exact Le.refl _
 | succ j ih => rw [← Nat.add_assoc, jA]; exact ih.trans (mu hG)
theorem rL (hp : Pf T F n) {q t : Int} (h0 : 0 ≤ q) (ht : ar t) : ∀ {k : Nat}, hs (Mk T F k) q t = true → ∃ i, i < k ∧ aZ T F (Mk T F i) t q = true ∧ q < (n : Int)
 | 0, h => by
  have : hs (Mk T F 0) q t = false := by
   show hb ((List.replicate T.lits.toNat 0).getD q.toNat 0) t = false
   rw [jZ]; exact iH ht
  rw [this] at h; cases h
 | k + 1, h => by
  by_cases h1 : q < (n : Int)
  · rw [jA, iK hG h0 (by rw [jG hp]; exact h1) ht] at h
    rcases Bool.or_eq_true_iff.1 h with h2 | h2
    · obtain ⟨i, hi, hc⟩ := rL hp h0 ht h2
      exact ⟨i, by omega, hc⟩
    · exact ⟨k, by omega, h2, h1⟩
  · rw [uj h0 (by rw [jG hp]; exact h1) ht] at h; cases h
theorem xp (hp : Pf T F n) (h : gA T F m k) : m.length = n := by rw [h.1]; exact jG hp
theorem rY (h : gA T F m k) : oR m := by rw [h.1]; exact hG
theorem xR (hp : Pf T F n) (h : gA T F m k) {q t : Int} (h0 : 0 ≤ q) (h1 : q < (n : Int)) (ht : ar t) : hs m q t = true ↔ aZ T F m t q = true := by
 constructor
 · intro hq
   have e := h.1
   rw [e] at hq
   obtain ⟨i, hi, hc, -⟩ := rL hp h0 ht hq
   refine oW hp ?_ h0 h1 ht hc
   rw [e]
   obtain ⟨d, rfl⟩ := Nat.exists_eq_add_of_le (Nat.le_of_lt hi)
   exact zy
 · intro hc
   have := iK (T := T) (F := F) (rY h) h0 (by rw [xp hp h]; exact h1) ht
   rw [h.2, hc] at this
   simpa using this
def A2 (T : Th) : Prop := ∃ (f : Int → Nat) (B : Nat), (∀ r, f r ≤ B) ∧ ∀ t s : Int, 0 ≤ t → s ∈ row T.beats t → f s < f t
end
def cm (s : Wk) (x : Int) : Int := s.came.getD x.toNat 0
def bk (s : Wk) (x : Int) : Int := s.back.getD x.toNat 0
def sh (s : Wk) (x : Int) : Bool := s.shut.getD x.toNat false
def nI (N : Nat) (x : Int) : Prop := 0 ≤ x ∧ x < (N : Int)
def zP (next : List (List Int)) (L : List Int) : Prop := ∀ A x B, L = A ++ x :: B → ∀ o ∈ row next x, o ∈ A
def un (s : Wk) : Nat := (s.came.filter fun z => decide (z = 0)).length
structure Iv (next : List (List Int)) (N : Nat) (s : Wk) : Prop where
 lc : s.came.length = N
 lb : s.back.length = N
 ls : s.shut.length = N
 ck : ∀ x, nI N x → 0 ≤ cm s x ∧ cm s x ≤ s.clock
 op : ∀ x ∈ s.opn, nI N x ∧ cm s x ≠ 0 ∧ sh s x = false
 vis : ∀ x, nI N x → cm s x ≠ 0 → sh s x = false → x ∈ s.opn
 srt : s.opn.Pairwise fun a b => cm s a < cm s b
 bck : ∀ x ∈ s.opn, ∃ y ∈ s.opn, bk s x = cm s y ∧ cm s y ≤ cm s x
 fl : ∀ x, nI N x → (sh s x = true ↔ x ∈ s.knots.flatten)
 kn : ∀ x ∈ s.knots.flatten, nI N x
 top : (∀ k ∈ s.knots, k.length ≤ 1) → zP next s.knots.flatten
 c0 : 0 ≤ s.clock
 sv : ∀ x, nI N x → sh s x = true → cm s x ≠ 0
structure Fm (N : Nat) (s s' : Wk) : Prop where
 same : ∀ x, nI N x → cm s x ≠ 0 → cm s' x = cm s x ∧ bk s' x = bk s x
 sh : ∀ x, nI N x → sh s x = true → sh s' x = true
 op : ∃ R, s'.opn = s.opn ++ R
 kn : ∃ K, s'.knots = s.knots ++ K
 un : un s' ≤ un s
section
variable {next : List (List Int)} {N : Nat} {s : Wk} {p : Int}
structure Lp (next : List (List Int)) (N : Nat) (p : Int) (O : List Int) (D : List Int) (s : Wk) : Prop where
 iv : Iv next N s
 at_ : ∃ R, s.opn = O ++ p :: R
 dn : ∀ o ∈ D, nI N o ∧ (sh s o = true ∨ (o ∈ s.opn ∧ bk s p ≤ cm s o))
end
section
variable {next : List (List Int)} {N : Nat}
def A1 (x : Int) : List Int → Nat
 | [] => 0
 | y :: l => if y = x then 0 else A1 x l + 1
end
end Go.Proofs.YtmlhcncagdfjfaaGreat
