import Derived.Test.YtmlhcncagdfjfaaGreatNvM
import Derived.Test.YtmlhcncagdfjfaaGreatInv9
import Derived.Test.YtmlhcncagdfjfaaGreatMem
import Derived.Test.YtmlhcncagdfjfaaGreatWk
set_option maxRecDepth 100000
set_option maxHeartbeats 3200000
namespace Go.Proofs.YtmlhcncagdfjfaaGreat.De
open Go.RowKit Fa
structure cC where
 q : Nat
 n : Nat
 fa : Option Addr
 fc : Nat
 ra : Option Addr
 rc : Nat
 ba : Option Addr
 bc : Nat
 g0 : Nat
 g1 : Nat
 g2 : Nat
 mb : Nat
abbrev ay (g n : Nat) : Value := .slice (some ⟨g, 0, none⟩) n n
abbrev cW (K : cC) (T : Th) : List Value := [.int .i64 T.lits, .slice K.fa T.foes.length K.fc, .slice K.ra T.rules.length K.rc, .slice K.ba T.beats.length K.bc, ay K.g0 K.n, ay K.g1 K.n, ay K.g2 K.n, .map (some K.mb)]
def A0 (S : Nat → Prop) (mb : Nat) (T : Th) (n : Nat) (w : World) : Prop :=
 ∀ s z : Nat, s ≤ 4096 → z < n → ∃ (a : Option Addr) (c : Nat), (∀ w' : World, w'.heap[mb]? = w.heap[mb]? → (Instr.lookup 116 (.map (some mb)) (.agg #[.int .i64 s, .int .i64 z]) false).run Tryz.prog w' = .ok (.slice a (aQ T z s).length c) w') ∧ At1 w a (aq (aQ T z s)) ∧ ∀ g o, a = some ⟨g, o, none⟩ → aQ T z s ≠ [] → S g
structure Xr (S : Nat → Prop) (N0 : Nat) (K : cC) (T : Th) (w : World) : Prop where
 sq : S K.q
 bx : Fx K.q 118 (cW K T) w
 ta : TA N0 w T K.fa K.fc K.ra K.rc K.ba K.bc
 s : LL S (ag T kS) K.n K.g0 w
 t : LL S (ag T kT) K.n K.g1 w
 a : LL S (aG T) K.n K.g2 w
 sm : S K.mb
 mp : A0 S K.mb T K.n w
 lt : ∀ g, S g → g < w.heap.size
 n0 : N0 ≤ w.heap.size
theorem vt {w w' : World} {S : Nat → Prop} {a : Option Addr} {l : List Int} (h : At1 w a (aq l)) (hs : ∀ g o, a = some ⟨g, o, none⟩ → l ≠ [] → S g) (hk : ∀ g, S g → w'.heap[g]? = w.heap[g]?) : At1 w' a (aq l) := by
 intro i v hi
 obtain ⟨g, o, e, hc⟩ := h i v hi
 have Aa : l ≠ [] := by rintro rfl; simp [aq] at hi
 exact ⟨g, o, e, (World.cell?_of_block (hk g (hs g o e Aa))).trans hc⟩
section
variable {S : Nat → Prop} {N0 : Nat} {K : cC} {T : Th} {w w' : World}
theorem Xr.keep (h : Xr S N0 K T w) (h0 : ∀ g, g < N0 → w'.heap[g]? = w.heap[g]?) (hk : ∀ g, S g → w'.heap[g]? = w.heap[g]?) (hs : w.heap.size ≤ w'.heap.size) : Xr S N0 K T w' := by
 refine ⟨h.sq, h.bx.keep (hk _ h.sq), TR.keep h0 h.ta, h.s.keep hk, h.t.keep hk, h.a.keep hk, h.sm, fun s z hs hz => ?_, fun g hg => Nat.lt_of_lt_of_le (h.lt g hg) hs, Nat.le_trans h.n0 hs⟩
 obtain ⟨a, c, h1, h2, h3⟩ := h.mp s z hs hz
 exact ⟨a, c, fun X hX => h1 X (hX.trans (hk _ h.sm)), vt h2 h3 hk, h3⟩
theorem Xr.fr {Z : Nat → Prop} (h : Xr S N0 K T w) (hf : Fr Z w w') (hz : ∀ k, Z k → ¬ S k ∧ N0 ≤ k) : Xr S N0 K T w' :=
 h.keep (fun g hg => hf.block g (Nat.lt_of_lt_of_le hg h.n0) fun e => by have := (hz g e).2; omega) (fun g hg => hf.block g (h.lt g hg) fun e => (hz g e).1 hg) hf.size
theorem Xr.go (h : Xr S N0 K T w) (hb : Below w.heap.size w w') : Xr S N0 K T w' := h.keep (fun g hg => hb.block g (Nat.lt_of_lt_of_le hg h.n0)) (fun g hg => hb.block g (h.lt g hg)) hb.size
end
section
variable {S : Nat → Prop} {N0 : Nat} {K : cC} {T : Th} {w : World}
theorem eZ (z b : Int) (w : World) : Calls Tryz.prog 63 #[.int .i64 z, .int .i64 b] w fun e w' => e = .returned (.bool (bU z b)) ∧ w' = w := by
 by_cases h0 : 0 ≤ z
 ·by_cases h1 : z < b
  ·have hm : bU z b = true := by unfold bU; simp; omega
   rw [hm]
   go_enter Tryz.func63, Tryz.ntmps63
   go_wp2_with fail
   go_ret
   exact ⟨rfl, rfl⟩
  have hm : bU z b = false := by unfold bU; simp; omega
  rw [hm]
  go_enter Tryz.func63, Tryz.ntmps63
  go_wp2_with fail
  go_ret
  exact ⟨rfl, rfl⟩
 have hm : bU z b = false := by unfold bU; simp; omega
 rw [hm]
 go_enter Tryz.func63, Tryz.ntmps63
 go_wp2_with fail
 go_ret
 exact ⟨rfl, rfl⟩
def fj (t : Int) : Bool := decide (1 ≤ t) && decide (t ≤ 4)
theorem oX (t : Int) (w : World) : Calls Tryz.prog 64 #[.int .i64 t] w fun e w' => e = .returned (.bool (fj t)) ∧ w' = w := by
 by_cases h0 : 1 ≤ t
 ·by_cases h1 : t ≤ 4
  ·have hm : fj t = true := by unfold fj; simp; omega
   rw [hm]
   go_enter Tryz.func64, Tryz.ntmps64
   go_wp2_with fail
   go_ret
   exact ⟨rfl, rfl⟩
  have hm : fj t = false := by unfold fj; simp; omega
  rw [hm]
  go_enter Tryz.func64, Tryz.ntmps64
  go_wp2_with fail
  go_ret
  exact ⟨rfl, rfl⟩
 have hm : fj t = false := by unfold fj; simp; omega
 rw [hm]
 go_enter Tryz.func64, Tryz.ntmps64
 go_wp2_with fail
 go_ret
 exact ⟨rfl, rfl⟩
theorem fJ {t : Int} (ht : aw t) : Calls Tryz.prog 65 #[.int .i64 t] w fun e w' => e = .returned (.int .u8 (bitM t)) ∧ w' = w := by
 rcases ht with rfl | rfl | rfl | rfl
 all_goals
  go_enter Tryz.func65, Tryz.ntmps65
  go_wp2_with fail
  go_ret
  exact ⟨rfl, rfl⟩
theorem eL {a : Option Addr} {l : List Int} {c : Nat} {t : Int} (h : At1 w a (aq l)) (hl : l.length ≤ 140737488351232) (hp : l.Pairwise (· < ·)) :
    Calls Tryz.prog 143 #[.slice a l.length c, .int .i64 t] w fun e w' => e = .returned (.bool (decide (t ∈ l))) ∧ w' = w := by
 have CS := hide (jS (c := c) h hl hp t)
 clear h hp
 go_enter Tryz.func143, Tryz.ntmps143
 go_wp2_with (go_at_call 140; refine CS.out.mono ?_; rintro _ w2 ⟨⟨z, rfl⟩, hw⟩; subst w2)
 go_ret
 exact ⟨rfl, rfl⟩
theorem yj {q r nr rc gr go bl bp : Nat} {bd : Option Addr} (b2 : w.cell? ⟨q, 2, none⟩ = some (.slice (some ⟨gr, go, none⟩) nr rc)) (x2 : w.cell? ⟨gr, go + r * 3 + 2, none⟩ = some (.slice bd bl bp)) (hlen : r < nr) :
    Calls Tryz.prog 169 #[aa q, .int .i64 r] w fun e w' => e = .returned (.slice bd bl bp) ∧ w' = w := by
 go_enter Tryz.func169, Tryz.ntmps169
 go_wp2_with fail
 go_ret
 exact ⟨rfl, rfl⟩
theorem jN (h : Xr S N0 K T w) {r : Nat} {x : RuleM} (hr : T.rules[r]? = some x) :
    ∃ a c, Ints N0 w (az T r) (.slice a (az T r).length c) ∧ ∀ X : World, X.heap = w.heap → Calls Tryz.prog 169 #[aa K.q, .int .i64 r] X fun e w' => e = .returned (.slice a (az T r).length c) ∧ w' = X := by
 have Ab : az T r = x.body := by unfold az; rw [Int.toNat_natCast, hr]; rfl
 rw [Ab]
 have b2 := h.bx.get (i := 2) rfl
 obtain ⟨gr, go, bd, bp, Ac, Ad, -, -, x2, -, Ae, Aa⟩ := dG h.ta.rules hr
 rw [Ac] at b2
 exact ⟨bd, bp, Aa, fun X hX => yj ((World.cell?_of_block (by rw [hX])).trans b2) ((World.cell?_of_block (by rw [hX])).trans x2) (List.getElem?_eq_some_iff.1 hr).1⟩
theorem tf {q mb nl c : Nat} {s z : Int} {a : Option Addr} (b7 : w.cell? ⟨q, 7, none⟩ = some (.map (some mb))) (h0 : (Instr.lookup 116 (.map (some mb)) (.agg #[.int .i64 s, .int .i64 z]) false).run Tryz.prog w = .ok (.slice a nl c) w) :
    Calls Tryz.prog 150 #[aa q, .int .i64 z, .int .i64 s] w fun e w' => e = .returned (.slice a nl c) ∧ w' = w := by
 go_enter Tryz.func150, Tryz.ntmps150
 go_wp2_with fail
 go_ret
 exact ⟨rfl, rfl⟩
theorem gz (h : Xr S N0 K T w) {s z : Nat} (hs : s ≤ 4096) (hz : z < K.n) :
    ∃ a c, At1 w a (aq (aQ T z s)) ∧ (∀ g o, a = some ⟨g, o, none⟩ → aQ T z s ≠ [] → S g) ∧ ∀ X : World, X.heap = w.heap → Calls Tryz.prog 150 #[aa K.q, .int .i64 z, .int .i64 s] X fun e w' => e = .returned (.slice a (aQ T z s).length c) ∧ w' = X := by
 obtain ⟨a, c, h1, h2, h3⟩ := h.mp s z hs hz
 exact ⟨a, c, h2, h3, fun X hX => tf ((World.cell?_of_block (by rw [hX])).trans (h.bx.get (i := 7) rfl)) (h1 X (by rw [hX]))⟩
end
set_option maxRecDepth 100000
set_option maxHeartbeats 3200000
abbrev dO := (Nat → Prop) → be → World → Prop
structure Pz (Inv : dO) (Z0 : Nat → Prop) (w0 : World) (Z : Nat → Prop) (l : be) (w : World) : Prop where
 inv : Inv Z l w
 fr : Fr Z0 w0 w
 zn : ∀ k, Z k → Z0 k ∨ w0.heap.size ≤ k
section
variable {Inv : dO} {Z0 Z Z2 : Nat → Prop} {w0 w w2 : World} {l l2 : be}
theorem Pz.refl (h : Inv Z l w) : Pz Inv Z w Z l w := ⟨h, Fr.refl _ _, fun _ h => .inl h⟩
theorem Pz.trans (h : Pz Inv Z0 w0 Z l w) (k : Pz Inv Z w Z2 l2 w2) : Pz Inv Z0 w0 Z2 l2 w2 := by
 have hs := h.fr.size
 refine ⟨k.inv, ⟨k.fr.os.trans h.fr.os, k.fr.tape.trans h.fr.tape, k.fr.output.trans h.fr.output, Nat.le_trans hs k.fr.size, fun i hi hz => ?_⟩, fun i hi => ?_⟩
 ·refine (k.fr.block i (Nat.lt_of_lt_of_le hi hs) fun e => ?_).trans (h.fr.block i hi hz)
  rcases h.zn i e with e | e
  ·exact hz e
  omega
 rcases k.zn i hi with e | e
 ·exact h.zn i e
 exact .inr (by omega)
end
structure Dn (n : Nat) (x t : Int) : Prop where
 lo : 0 ≤ x
 hi : x < (n : Int)
 tag : aw t
structure Nd (n : Nat) (Inv : dO) (v : Value) : Prop where
 call : ∃ (k : Nat) (caps : Array Value), v = .func (.func k) #[] caps ∧ (∀ args w', (callFunc k args).run Tryz.prog w' = .ok (.enter k args) w') ∧
  ∀ (Z : Nat → Prop) (l : be) (w : World) (x t : Int), Inv Z l w → Dn n x t → Calls Tryz.prog k (#[.int .i64 x, .int .i64 t] ++ caps) w fun e w' => e = .returned (.tuple #[]) ∧ ∃ Z2, Pz Inv Z w Z2 (l ++ [(x, t)]) w'
 st : ∀ (Z : Nat → Prop) (l : be) (w w' : World), Inv Z l w → Below w.heap.size w w' → Inv Z l w'
 zl : ∀ (Z : Nat → Prop) (l : be) (w : World), Inv Z l w → ∀ k, Z k → k < w.heap.size
def Sd (Dr : Int → Prop) (Inv : dO) (Z0 : Nat → Prop) (w0 : World) (f : Int → Int × Int → Bool × be) (v : Value) : Prop :=
 ∃ (k : Nat) (caps : Array Value), v = .func (.func k) #[] caps ∧ (∀ args w', (callFunc k args).run Tryz.prog w' = .ok (.enter k args) w') ∧
  ∀ (Z : Nat → Prop) (l : be) (w : World) (r : Int) (c : Int × Int), Pz Inv Z0 w0 Z l w → Dr r → Calls Tryz.prog k (#[.int .i64 r, .agg #[.int .i64 c.1, .int .i64 c.2]] ++ caps) w fun e w' => e = .returned (.bool (f r c).1) ∧ ∃ Z2, Pz Inv Z0 w0 Z2 (l ++ (f r c).2) w'
def Zo (S : Nat → Prop) (N0 : Nat) (Z : Nat → Prop) : Prop := ∀ k, Z k → ¬ S k ∧ N0 ≤ k
section
variable {S : Nat → Prop} {N0 : Nat} {K : cC} {T : Th} {Inv : dO} {Z0 Z Z2 : Nat → Prop} {w0 w w2 : World} {l l2 : be}
theorem Zo.next (h : Zo S N0 Z0) (hx : Xr S N0 K T w0) (k : Pz Inv Z0 w0 Z l w) : Zo S N0 Z := fun i hi => by
 rcases k.zn i hi with e | e
 ·exact h i e
 exact ⟨fun hs => by have := hx.lt i hs; omega, Nat.le_trans hx.n0 e⟩
theorem Pz.xr (h : Pz Inv Z0 w0 Z l w) (hx : Xr S N0 K T w0) (hz : Zo S N0 Z0) : Xr S N0 K T w := hx.fr h.fr hz
theorem Pz.below (hn : ∀ (Z : Nat → Prop) (l : be) (w w' : World), Inv Z l w → Below w.heap.size w w' → Inv Z l w') (h : Pz Inv Z0 w0 Z l w) (hb : Below w.heap.size w w2) : Pz Inv Z0 w0 Z l w2 := h.trans ⟨hn _ _ _ _ h.inv hb, Fr.of_below hb, fun _ h => .inl h⟩
theorem Pz.box (h : Pz Inv Z0 w0 Z l w) {g t : Nat} {vs : List Value} (hf : Fx g t vs w0) (hg : ¬ Z0 g) : Fx g t vs w := hf.keep (h.fr.block _ hf.lt hg)
end
section
variable {S : Nat → Prop} {N0 : Nat} {K : cC} {T : Th} {Inv : dO} {Z : Nat → Prop} {w : World} {l : be} {v : Value}
theorem ng {t : Int} {b : List Int} {k : Nat} {y : Int} (hy : b[k]? = some y) : (b.take (k + 1)).map (fun x => (x, t)) = (b.take k).map (fun x => (x, t)) ++ [(y, t)] := by rw [bD hy, List.map_append]; rfl
theorem fZ (hX : Xr S N0 K T w) (hI : Inv Z l w) (hz : Zo S N0 Z) (hN : Nd K.n Inv v) {r : Nat} {x : RuleM} (hr : T.rules[r]? = some x) {t : Int} (hD : ∀ y ∈ az T r, Dn K.n y t) :
    Calls Tryz.prog 144 #[aa K.q, .int .i64 r, .int .i64 t, v] w fun e w' => e = .returned (.tuple #[]) ∧ ∃ Z2, Pz Inv Z w Z2 (l ++ cS T r t) w' := by
 have Ab := hN.st
 obtain ⟨fn, Ak, rfl, hf, hc⟩ := hN.call
 have An := hide Ab
 obtain ⟨a, c, Aa, Ae⟩ := jN hX hr
 have CB : Hid (Calls Tryz.prog 169 #[aa K.q, .int .i64 r] w fun e w' => e = .returned (.slice a (az T r).length c) ∧ w' = w) := hide (Ae w rfl)
 have HI := hide Aa
 have Al := Aa.lim
 have HC := hide hc
 have HX := hide hX
 have HZ := hide hz
 have Af := hide hD
 have H0 := hide (Pz.refl hI)
 clear hX hI hz hc hD Ab Aa Ae
 unfold cS
 generalize hbd : az T r = bd at *
 clear hbd hr
 go_enter Tryz.func144, Tryz.ntmps144
 go_upto_region 1 with (go_at_call 169; refine CB.out.mono ?_; rintro _ w2 ⟨rfl, hw⟩; subst w2)
 clear CB
 go_loopw [14] (fun x wr => ∃ k : Nat, k ≤ bd.length ∧ x = .int .i64 k ∧ Hid (∃ Z2, Pz Inv Z w Z2 (l ++ (bd.take k).map fun x => (x, t)) wr)) (fun x _ => bd.length - (intOf x).toNat)
 case atStart => exact ⟨0, by omega, rfl, hide ⟨Z, by simpa using H0.out⟩⟩
 clear H0
 obtain ⟨k, hk, rfl, HP⟩ := hrel
 by_cases hlt : k < bd.length
 ·obtain ⟨Z2, hp⟩ := HP.out
  obtain ⟨y, hy⟩ := am hlt
  have Ai := hp.fr
  obtain ⟨g, o, rfl, Ah, cy⟩ := ji HI.out hy
  have Am : wr.cell? ⟨g, o + k, none⟩ = some (.int .i64 y) := (World.cell?_of_block (hp.fr.block g (Nat.lt_of_lt_of_le Ah HX.out.n0) fun e => by have := (HZ.out g e).2; omega)).trans cy
  have C := hide (HC.out Z2 _ wr y t hp.inv (Af.out y (List.mem_of_getElem? hy)))
  have Ad := hide hp
  have HY := hide (ng (t := t) hy)
  clear cy hp Ai HP hy
  go_wp2_with fail
  refine C.out.mono ?_
  rintro _ w2 ⟨rfl, Z3, Ac⟩
  have Ag := hide (Ad.out.trans Ac)
  clear Ac C Ad
  go_wp2_with fail
  go_roundw
  case rel => exact ⟨k + 1, by omega, by go_num, hide ⟨Z3, by rw [HY.out, ← List.append_assoc]; exact Ag.out⟩⟩
  case measure => simp [intOf]; omega
 have Aj : k = bd.length := by omega
 subst Aj
 go_wp2_with fail
 go_end0
 obtain ⟨Z2, hp⟩ := HP.out
 rw [List.take_length] at hp
 first | exact ⟨rfl, Z2, hp⟩ | exact ⟨rfl, ⟨Z2, hp⟩⟩
end
set_option maxRecDepth 100000
set_option maxHeartbeats 6400000
section
variable {S : Nat → Prop} {N0 : Nat} {K : cC} {T : Th} {Inv : dO} {Z : Nat → Prop} {w : World} {l : be} {v : Value}
theorem eV {z b : Int} (h : bU z b = true) : 0 ≤ z ∧ z < b := by
 unfold bU at h
 simpa using h
theorem kk (hX : Xr S N0 K T w) (hI : Inv Z l w) (hz : Zo S N0 Z) (hN : Nd K.n Inv v) {r : Nat} {x : RuleM} (hr : T.rules[r]? = some x) {t : Int} (hD : ∀ y ∈ az T r, Dn K.n y t) (c : Int × Int) :
    Calls Tryz.prog 148 #[aa K.q, .int .i64 r, .agg #[.int .i64 c.1, .int .i64 c.2], .int .i64 t, v] w fun e w' => e = .returned (.bool (refX T t r c).1) ∧ ∃ Z2, Pz Inv Z w Z2 (l ++ (refX T t r c).2) w' := by
 obtain ⟨c1, c2⟩ := c
 have Ad := hN.st
 obtain ⟨fn, Aq, rfl, hf, hc⟩ := hN.call
 have hB := ae w (.cells #[.int .i64 c1, .int .i64 c2] 100)
 have hQ : Fx w.heap.size 100 [.int .i64 c1, .int .i64 c2] (w.alloc (.cells #[.int .i64 c1, .int .i64 c2] 100)) := heap_alloc_new w _
 have Ac := hX.go hB
 have H0 := hide ((Pz.refl hI).below Ad hB)
 obtain ⟨a, bc, Ae, Aj⟩ := jN Ac hr
 have HC := hide hc
 have Ab := hide Ad
 have HX := hide Ac
 have HZ := hide hz
 have Af := hide hD
 have HQ := hide hQ
 have CB := hide Aj
 have HI := hide Ae
 have Ap := Ae.lim
 have CW := hide eZ
 have Ao : Tryz.prog.follows .mixedOrders = true := by kernel_rfl
 have HR : Hid (refX T t r (c1, c2) = if decide (c2 = -1) && bU c1 (az T r).length then (true, [((az T r).getD c1.toNat 0, t)]) else (false, [])) := hide rfl
 clear hX hI hz hc Ad hD hB hQ Ac Ae Aj hr
 generalize refX T t r (c1, c2) = o at *
 generalize hbd : az T r = bd at *
 clear hbd
 go_enter Tryz.func148, Tryz.ntmps148
 go_upto_region 1 with fail
 generalize w.alloc (.cells #[.int .i64 c1, .int .i64 c2] 100) = w1 at *
 generalize w.heap.size = q at *
 have k0 := HQ.out.get (i := 0) rfl
 have k1 := HQ.out.get (i := 1) rfl
 by_cases h2 : c2 = -1
 ·cases hin : bU c1 bd.length with
  | false =>
   have HO : Hid (o = (false, [])) := hide (by rw [HR.out, hin, Bool.and_false]; rfl)
   have Al : (c2 != -1) = false := by simp [h2]
   have Aa := hide (fun X => CW.out c1 bd.length X)
   rw [hin] at Aa
   clear hin HR CW
   subst h2
   go_quiet (first | (go_at_call 169; exact Calls.quiet_of_same (CB.out _ rfl)) | (go_at_call 63; exact Calls.quiet_of_same (Aa.out _)))
   have HD := hide (fun m => H0.out.below Ab.out (ah w1 m))
   go_wp2_with fail
   go_ret
   rw [HO.out]
   first | exact ⟨rfl, _, by rw [List.append_nil]; exact HD.out _⟩ | exact ⟨rfl, ⟨_, by rw [List.append_nil]; exact HD.out _⟩⟩
  | true =>
   obtain ⟨p0, p1⟩ := eV hin
   obtain ⟨p, rfl⟩ := Int.eq_ofNat_of_zero_le p0
   have Am : p < bd.length := by omega
   obtain ⟨y, hy⟩ := am Am
   have HO : Hid (o = (true, [(y, t)])) := hide (by rw [HR.out, hin, h2]; simp [List.getD_eq_getElem?_getD, hy])
   have HY := hide (Af.out y (List.mem_of_getElem? hy))
   obtain ⟨g, og, rfl, Ar, cy⟩ := ji HI.out hy
   have Aa := hide (fun X => CW.out p bd.length X)
   rw [hin] at Aa
   clear hin HR CW hy Af
   subst h2
   go_quiet (first | (go_at_call 169; exact Calls.quiet_of_same (CB.out _ rfl)) | (go_at_call 63; exact Calls.quiet_of_same (Aa.out _)))
   rename Nat => n1
   have HD := hide (H0.out.below Ab.out (ah w1 n1))
   have Ah : Hid (∀ X : World, X.heap = (w1.drewN n1).heap → _) := hide (fun X hX => CB.out X hX)
   have Ak : (w1.drewN n1).cell? ⟨q, 0, none⟩ = some (.int .i64 p) := k0
   have An : (w1.drewN n1).cell? ⟨g, og + p, none⟩ = some (.int .i64 y) := cy
   clear k0 k1 cy CB H0 HI HQ HX
   generalize w1.drewN n1 = w2 at *
   go_wp2_with fail
   refine aK (by assumption) (by kernel_rfl) (by kernel_rfl) (by kernel_rfl) (by kernel_rfl) ?_
   dsimp only [List.dropLast, List.getLast, List.cons_append, List.nil_append]
   repeat (go_big_quiet_step ((go_at_call 169; exact Calls.quiet_of_same (Ah.out _ rfl))))
   refine wpQuiet_nil ?_
   rintro _ ⟨nq, rfl⟩
   have HP := hide (HD.out.below Ab.out (ah w2 nq))
   have C := hide (HC.out _ _ _ y t HP.out.inv HY.out)
   clear Ah Ak An HD
   go_wp2_with fail
   refine C.out.mono ?_
   rintro _ w3 ⟨rfl, Z3, Ai⟩
   have Ag := hide (HP.out.trans Ai)
   clear Ai C
   go_wp2_with fail
   go_ret
   rw [HO.out]
   first | exact ⟨rfl, Z3, Ag.out⟩ | exact ⟨rfl, ⟨Z3, Ag.out⟩⟩
 have Al : (c2 != -1) = true := by simp [h2]
 have HO : Hid (o = (false, [])) := hide (by rw [HR.out]; simp [h2])
 clear HR CW
 go_quiet (fail)
 have HD := hide (fun m => H0.out.below Ab.out (ah w1 m))
 go_wp2_with fail
 go_ret
 rw [HO.out]
 first | exact ⟨rfl, _, by rw [List.append_nil]; exact HD.out _⟩ | exact ⟨rfl, ⟨_, by rw [List.append_nil]; exact HD.out _⟩⟩
end
set_option maxRecDepth 100000
set_option maxHeartbeats 6400000
structure Wt (T : Th) (n : Nat) : Prop where
 ln : T.lits = (n : Int)
 n4 : n ≤ 4096
 rl : T.rules.length ≤ 4096
 fl : T.foes.length = n
 bi : ∀ r ∈ T.rules, ∀ x ∈ r.body, 0 ≤ x ∧ x < (n : Int)
 hd : ∀ r ∈ T.rules, 0 ≤ r.head ∧ r.head < (n : Int)
 fo : ∀ z : Nat, z < n → ∀ x ∈ row T.foes (z : Int), 0 ≤ x ∧ x < (n : Int)
 fp : ∀ z : Nat, z < n → (row T.foes (z : Int)).Pairwise (· < ·) ∧ (row T.foes (z : Int)).length ≤ 64
theorem Wt.body {T : Th} {n : Nat} (h : Wt T n) {t : Int} (ht : aw t) (r : Int) : ∀ y ∈ az T r, Dn n y t := by
 intro y hy
 unfold az at hy
 cases e : T.rules[r.toNat]? with
 | none => rw [e] at hy; cases hy
 | some x => rw [e] at hy; have := h.bi x (List.mem_of_getElem? e) y hy; exact ⟨this.1, this.2, ht⟩
theorem pU {p : Nat → Bool} {k : Nat} : (((List.range k).filter p).map Int.ofNat).Pairwise (· < ·) := by
 rw [List.pairwise_map]
 refine (List.Pairwise.filter _ (List.pairwise_lt_range (n := k))).imp fun {a b} h => ?_
 show (a : Int) < (b : Int)
 omega
theorem oE {T : Th} {p : RuleM → Bool} {k : Nat} {z : Int} : (bh T p k z).Pairwise (· < ·) := pU
theorem yE {T : Th} {k : Nat} {z : Int} : (gd T k z).Pairwise (· < ·) := pU
theorem xX {T : Th} {k : Nat} {z s : Int} : (eX T k z s).Pairwise (· < ·) := List.Pairwise.filter _ oE
theorem ij {T : Th} {k : Nat} {z s : Int} : (eX T k z s).length ≤ k := Nat.le_trans (List.length_filter_le _ _) bg
theorem g8 {T : Th} {k : Nat} {z : Int} : (gd T k z).length ≤ k := by
 unfold gd
 rw [List.length_map]
 exact Nat.le_trans (List.length_filter_le _ _) (by simp)
section
variable {S : Nat → Prop} {N0 : Nat} {K : cC} {T : Th} {Inv : dO} {Z : Nat → Prop} {w : World} {l : be} {v : Value}
theorem qz (hT : Wt T K.n) (hX : Xr S N0 K T w) (hI : Inv Z l w) (hz : Zo S N0 Z) (hN : Nd K.n Inv v) {q r : Nat} (hr : r ≤ 4096) (hq : q < K.n) (c : Int × Int) :
    Calls Tryz.prog 149 #[aa K.q, .int .i64 q, .int .i64 r, .agg #[.int .i64 c.1, .int .i64 c.2], v] w fun e w' => e = .returned (.bool (betX T q r c).1) ∧ ∃ Z2, Pz Inv Z w Z2 (l ++ (betX T q r c).2) w' := by
 obtain ⟨c1, c2⟩ := c
 have Ab := hN.st
 have hB := ae w (.cells #[.int .i64 c1, .int .i64 c2] 100)
 have hQ : Fx w.heap.size 100 [.int .i64 c1, .int .i64 c2] (w.alloc (.cells #[.int .i64 c1, .int .i64 c2] 100)) := heap_alloc_new w _
 have Aa := hX.go hB
 have H0 := hide ((Pz.refl hI).below Ab hB)
 obtain ⟨a, bc, Af, -, Ai⟩ := gz Aa (s := r) hr hq
 have HN := hide hN
 have Ad := hide Ab
 have HX := hide Aa
 have HZ := hide hz
 have HQ := hide hQ
 have CB := hide Ai
 have Ac : (aQ T q r).length ≤ 140737488351232 := Nat.le_trans ij (Nat.le_trans hT.rl (by decide))
 have CC : Hid (∀ X : World, X.heap = (w.alloc (.cells #[.int .i64 c1, .int .i64 c2] 100)).heap → Calls Tryz.prog 143 #[.slice a (aQ T q r).length bc, .int .i64 c2] X fun e w' => e = .returned (.bool (decide (c2 ∈ aQ T q r))) ∧ w' = X) := hide fun X hX => eL (fun i v hi => by obtain ⟨g, o, e, hc⟩ := Af i v hi; exact ⟨g, o, e, (World.cell?_of_block (by rw [hX])).trans hc⟩) Ac xX
 have Al : Tryz.prog.follows .mixedOrders = true := by kernel_rfl
 have HR : Hid (betX T q r (c1, c2) = if decide (c1 = -1) && decide (c2 ∈ aQ T q r) then (true, cS T c2 3) else (false, [])) := hide rfl
 have HM : Hid (c2 ∈ aQ T q r → 0 ≤ c2 ∧ c2 < (T.rules.length : Int)) := hide lE
 have Ag := hide (hT.body (t := 3) (.inr (.inr (.inl rfl))) c2)
 clear hX hI hz Ab hB hQ Aa Ai Af hT hN Ac
 generalize betX T q r (c1, c2) = o at *
 generalize (aQ T q r).length = ol at *
 generalize hin : decide (c2 ∈ aQ T q r) = inn at *
 go_enter Tryz.func149, Tryz.ntmps149
 go_upto_region 1 with fail
 generalize w.alloc (.cells #[.int .i64 c1, .int .i64 c2] 100) = w1 at *
 generalize w.heap.size = bq at *
 have k0 := HQ.out.get (i := 0) rfl
 have k1 := HQ.out.get (i := 1) rfl
 by_cases h2 : c1 = -1
 ·cases inn with
  | false =>
   have HO : Hid (o = (false, [])) := hide (by rw [HR.out, Bool.and_false]; rfl)
   have Aj : (c1 != -1) = false := by simp [h2]
   clear hin HR HM Ag
   subst h2
   go_quiet (first | (go_at_call 150; exact Calls.quiet_of_same (CB.out _ rfl)) | (go_at_call 143; exact Calls.quiet_of_same (CC.out _ rfl)))
   have HD := hide (fun m => H0.out.below Ad.out (ah w1 m))
   go_wp2_with fail
   go_ret
   rw [HO.out]
   first | exact ⟨rfl, _, by rw [List.append_nil]; exact HD.out _⟩ | exact ⟨rfl, ⟨_, by rw [List.append_nil]; exact HD.out _⟩⟩
  | true =>
   obtain ⟨p0, p1⟩ := HM.out (of_decide_eq_true hin)
   obtain ⟨p, rfl⟩ := Int.eq_ofNat_of_zero_le p0
   obtain ⟨x, hx⟩ := am (l := T.rules) (i := p) (by omega)
   have HO : Hid (o = (true, cS T p 3)) := hide (by rw [HR.out, h2]; rfl)
   have HXr := hide hx
   clear hin HR HM hx
   subst h2
   go_quiet (first | (go_at_call 150; exact Calls.quiet_of_same (CB.out _ rfl)) | (go_at_call 143; exact Calls.quiet_of_same (CC.out _ rfl)))
   rename Nat => n1
   have HD := hide (H0.out.below Ad.out (ah w1 n1))
   have Ak := hide (HX.out.go (ah w1 n1))
   have An : (w1.drewN n1).cell? ⟨bq, 1, none⟩ = some (.int .i64 p) := k1
   clear k0 k1 CB CC H0 HQ HX
   generalize w1.drewN n1 = w2 at *
   have Am := hide (HZ.out)
   have C := hide (fZ Ak.out HD.out.inv HZ.out HN.out HXr.out Ag.out)
   go_wp2_with (go_at_call 144; refine C.out.mono ?_; rintro _ w3 ⟨rfl, Z3, Ah⟩; have Ae := hide (HD.out.trans Ah); clear Ah C)
   go_ret
   rw [HO.out]
   first | exact ⟨rfl, Z3, Ae.out⟩ | exact ⟨rfl, ⟨Z3, Ae.out⟩⟩
 have Aj : (c1 != -1) = true := by simp [h2]
 have HO : Hid (o = (false, [])) := hide (by rw [HR.out]; simp [h2])
 clear HR hin HM CB CC
 go_quiet (fail)
 have HD := hide (fun m => H0.out.below Ad.out (ah w1 m))
 go_wp2_with fail
 go_ret
 rw [HO.out]
 first | exact ⟨rfl, _, by rw [List.append_nil]; exact HD.out _⟩ | exact ⟨rfl, ⟨_, by rw [List.append_nil]; exact HD.out _⟩⟩
end
def Chs (w : World) (a : Option Addr) (l : List (Int × Int)) : Prop := ∀ (i : Nat) x, l[i]? = some x → ∃ g o, a = some ⟨g, o, none⟩ ∧ w.cell? ⟨g, o + i * 2, none⟩ = some (.int .i64 x.1) ∧ w.cell? ⟨g, o + i * 2 + 1, none⟩ = some (.int .i64 x.2)
theorem sE {f : Int → Int × Int → Bool × be} {rs : List Int} {cs : List (Int × Int)} {k : Nat} {r : Int} {c : Int × Int} (hr : rs[k]? = some r) (hc : cs[k]? = some c) : cg f (rs.drop k) (cs.drop k) = if (f r c).1 then ((cg f (rs.drop (k + 1)) (cs.drop (k + 1))).1, (f r c).2 ++ (cg f (rs.drop (k + 1)) (cs.drop (k + 1))).2) else (false, (f r c).2) := by
 rw [aM hr, aM hc]
 rfl
theorem ui {f : Int → Int × Int → Bool × be} {cs : List (Int × Int)} : cg f [] cs = (true, []) := by cases cs <;> rfl
section
variable {Inv : dO} {Z0 Z : Nat → Prop} {w0 w : World} {l : be} {v : Value}
theorem jz {Dr : Int → Prop} {f : Int → Int × Int → Bool × be} (hS : Sd Dr Inv Z0 w0 f v) (hP : Pz Inv Z0 w0 Z l w) {rs : List Int} {cs : List (Int × Int)} {ra ca : Option Addr} {rc cc : Nat}
    (hr : ∀ X Z2 l2, Pz Inv Z0 w0 Z2 l2 X → At1 X ra (aq rs)) (hc : ∀ X Z2 l2, Pz Inv Z0 w0 Z2 l2 X → Chs X ca cs) (hrl : rs.length ≤ 140737488351232) (hD : ∀ r ∈ rs, Dr r) :
    Calls Tryz.prog 146 #[.slice ra rs.length rc, .slice ca cs.length cc, v] w fun e w' => e = .returned (.bool (eachM f rs cs).1) ∧ ∃ Z2, Pz Inv Z0 w0 Z2 (l ++ (eachM f rs cs).2) w' := by
 by_cases hlen : cs.length = rs.length
 ·obtain ⟨fn, Al, rfl, hf, Ah⟩ := hS
  have Ab : eachM f rs cs = cg f rs cs := by unfold eachM; rw [if_neg (by rw [hlen]; simp)]
  rw [Ab]
  have HR := hide hr
  have HC := hide hc
  have HDr := hide hD
  have HS := hide Ah
  have HL := hide hlen
  obtain ⟨o, ho⟩ : ∃ o, cg f rs cs = o := ⟨_, rfl⟩
  rw [ho]
  have HP := hide hP
  have H0 : Hid (cg f (rs.drop 0) (cs.drop 0) = cg f (rs.drop 0) (cs.drop 0)) := hide rfl
  have HO : Hid (∃ done : be, cg f rs cs = ((cg f (rs.drop 0) (cs.drop 0)).1, done ++ (cg f (rs.drop 0) (cs.drop 0)).2) ∧ done = []) := hide ⟨[], by simp, rfl⟩
  have Aj := hide ho
  obtain ⟨nr, Ae⟩ : ∃ nr, rs.length = nr := ⟨_, rfl⟩
  have Ag := hide Ae
  rw [Ae] at hrl hlen
  rw [hlen, Ae]
  clear hr hc hD Ah hP ho Ae hlen Ab H0
  go_enter Tryz.func146, Tryz.ntmps146
  go_wp2_with fail
  go_loopw [16] (fun x wr => ∃ (k : Nat) (done : be), k ≤ nr ∧ x = .int .i64 k ∧ Hid (o = ((cg f (rs.drop k) (cs.drop k)).1, done ++ (cg f (rs.drop k) (cs.drop k)).2)) ∧ Hid (∃ Z2, Pz Inv Z0 w0 Z2 (l ++ done) wr)) (fun x _ => nr - (intOf x).toNat)
  case atStart => exact ⟨0, [], by omega, rfl, hide (by rw [← Aj.out]; simp), hide ⟨Z, by rw [List.append_nil]; exact HP.out⟩⟩
  clear HP HO
  obtain ⟨k, done, hk, rfl, HE, HP⟩ := hrel
  by_cases hlt : k < nr
  ·obtain ⟨Z2, hp⟩ := HP.out
   obtain ⟨r, hr⟩ := am (l := rs) (i := k) (by rw [Ag.out]; exact hlt)
   obtain ⟨c, hc⟩ := am (l := cs) (i := k) (by rw [HL.out, Ag.out]; exact hlt)
   obtain ⟨g1, o1, rfl, cr⟩ := (HR.out wr Z2 _ hp).get hr
   obtain ⟨g2, o2, rfl, Ak, Ai⟩ := HC.out wr Z2 _ hp k c hc
   have C := hide (HS.out Z2 _ wr r c hp (HDr.out r (List.mem_of_getElem? hr)))
   have Af := hide (sE (f := f) hr hc)
   obtain ⟨c1, c2⟩ := c
   simp only at Ak Ai
   clear hr hc hp HP
   cases hb : (f r (c1, c2)).1 with
   | true =>
    rw [hb] at C
    have Aa : Hid (o = ((cg f (rs.drop (k + 1)) (cs.drop (k + 1))).1, (done ++ (f r (c1, c2)).2) ++ (cg f (rs.drop (k + 1)) (cs.drop (k + 1))).2)) := hide (by rw [HE.out, Af.out, if_pos hb, List.append_assoc])
    clear hb HE Af
    go_wp2_with fail
    refine C.out.mono ?_
    rintro _ w2 ⟨rfl, Z3, Ac⟩
    have Ad := hide Ac
    clear Ac C
    go_wp2_with fail
    go_roundw
    case rel => exact ⟨k + 1, done ++ (f r (c1, c2)).2, by omega, by go_num, Aa, hide ⟨Z3, by rw [← List.append_assoc]; exact Ad.out⟩⟩
    case measure => simp [intOf]; omega
   | false =>
    rw [hb] at C
    have Aa : Hid (o = (false, done ++ (f r (c1, c2)).2)) := hide (by rw [HE.out, Af.out, if_neg (by rw [hb]; decide)])
    clear hb HE Af
    go_wp2_with fail
    refine C.out.mono ?_
    rintro _ w2 ⟨rfl, Z3, Ac⟩
    have Ad := hide Ac
    clear Ac C
    go_wp2_with fail
    go_ret
    rw [Aa.out]
    first | exact ⟨rfl, Z3, by rw [← List.append_assoc]; exact Ad.out⟩ | exact ⟨rfl, ⟨Z3, by rw [← List.append_assoc]; exact Ad.out⟩⟩
  have Aa : Hid (o = (true, done)) := hide (by
   rw [HE.out, List.drop_of_length_le (show rs.length ≤ k by rw [Ag.out]; omega), ui, List.append_nil])
  clear HE
  go_wp2_with fail
  go_ret
  rw [Aa.out]
  exact ⟨rfl, HP.out⟩
 have Ab : eachM f rs cs = (false, []) := by unfold eachM; rw [if_pos hlen]
 rw [Ab]
 have hb : ((cs.length : Int) != (rs.length : Int)) = true := by simp; omega
 have HP := hide hP
 clear hr hc hD hS hP Ab
 go_enter Tryz.func146, Tryz.ntmps146
 go_wp2_with fail
 go_ret
 first | exact ⟨rfl, Z, by rw [List.append_nil]; exact HP.out⟩ | exact ⟨rfl, ⟨Z, by rw [List.append_nil]; exact HP.out⟩⟩
end
set_option maxRecDepth 100000
set_option maxHeartbeats 6400000
def Rn (T : Th) (r : Int) : Prop := ∃ (a : Nat) (x : RuleM), r = (a : Int) ∧ T.rules[a]? = some x
theorem dZ {T : Th} {r : Int} (h : 0 ≤ r ∧ r < (T.rules.length : Int)) : Rn T r := by
 obtain ⟨a, rfl⟩ := Int.eq_ofNat_of_zero_le h.1
 obtain ⟨x, hx⟩ := am (l := T.rules) (i := a) (by omega)
 exact ⟨a, x, rfl, hx⟩
section
variable {S : Nat → Prop} {N0 : Nat} {K : cC} {T : Th} {Inv : dO} {Z Z0 Z2 : Nat → Prop} {w w0 X : World} {l l2 : be} {v : Value}
theorem Chs.pz {a : Option Addr} {cs : List (Int × Int)} (h : Chs w0 a cs) (hz : ∀ g o, a = some ⟨g, o, none⟩ → cs ≠ [] → ¬ Z0 g) (hp : Pz Inv Z0 w0 Z2 l2 X) : Chs X a cs := by
 intro i x hi
 have Aa : cs ≠ [] := by rintro rfl; simp at hi
 obtain ⟨g, o, e, c0, c1⟩ := h i x hi
 have hb := hp.fr.block g (World.block_lt_of_cell? w0 _ c0) (hz g o e Aa)
 exact ⟨g, o, e, (World.cell?_of_block hb).trans c0, (World.cell?_of_block hb).trans c1⟩
theorem Chs.go {a : Option Addr} {cs : List (Int × Int)} (h : Chs w a cs) (hb : Below w.heap.size w X) : Chs X a cs := by
 intro i x hi
 obtain ⟨g, o, e, c0, c1⟩ := h i x hi
 have hb := hb.block g (World.block_lt_of_cell? w _ c0)
 exact ⟨g, o, e, (World.cell?_of_block hb).trans c0, (World.cell?_of_block hb).trans c1⟩
theorem tj {a : Option Addr} {rs : List Int} (h : At1 w0 a (aq rs)) (hz : ∀ g o, a = some ⟨g, o, none⟩ → rs ≠ [] → ¬ Z0 g) (hp : Pz Inv Z0 w0 Z2 l2 X) : At1 X a (aq rs) := by
 intro i u hi
 have Aa : rs ≠ [] := by rintro rfl; simp [aq] at hi
 obtain ⟨g, o, e, c0⟩ := h i u hi
 exact ⟨g, o, e, (World.cell?_of_block (hp.fr.block g (World.block_lt_of_cell? w0 _ c0) (hz g o e Aa))).trans c0⟩
theorem ru (hT : Wt T K.n) (hX : Xr S N0 K T w0) (hz : Zo S N0 Z0) (hN : Nd K.n Inv v) {t : Int} (ht : aw t) {b5 b8 b9 : Nat} (h5 : Fx b5 81 [aa K.q] w0) (h8 : Fx b8 28 [.int .i64 t] w0) (h9 : Fx b9 125 [v] w0) (z5 : ¬ Z0 b5) (z8 : ¬ Z0 b8) (z9 : ¬ Z0 b9) :
    Sd (Rn T) Inv Z0 w0 (refX T t) (.func (.func 170) #[] #[aa b5, aa b8, aa b9]) := by
 refine ⟨_, _, rfl, fun args w' => rfl, fun Z l w r c hP hr => ?_⟩
 obtain ⟨a, x, rfl, hx⟩ := hr
 obtain ⟨c1, c2⟩ := c
 have Ac := hN.st
 have hB := ae w (.cells #[.int .i64 c1, .int .i64 c2] 100)
 have hQ : Fx w.heap.size 100 [.int .i64 c1, .int .i64 c2] (w.alloc (.cells #[.int .i64 c1, .int .i64 c2] 100)) := heap_alloc_new w _
 have Aa := hP.below Ac hB
 have C := hide (kk (Aa.xr hX hz) Aa.inv (hz.next hX Aa) hN hx (t := t) (hT.body ht (a : Int)) (c1, c2))
 have k5 := (Aa.box h5 z5).get (i := 0) rfl
 have k8 := (Aa.box h8 z8).get (i := 0) rfl
 have k9 := (Aa.box h9 z9).get (i := 0) rfl
 have k0 := hQ.get (i := 0) rfl
 have k1 := hQ.get (i := 1) rfl
 have HP := hide Aa
 obtain ⟨fn, Ae, rfl, -, -⟩ := hN.call
 clear hT hX hz hN h5 h8 h9 z5 z8 z9 hP hB hQ Aa Ac hx
 show Calls Tryz.prog 170 #[.int .i64 a, .agg #[.int .i64 c1, .int .i64 c2], aa b5, aa b8, aa b9] w _
 go_enter Tryz.func170, Tryz.ntmps170
 go_upto_region 1 with fail
 generalize w.alloc (.cells #[.int .i64 c1, .int .i64 c2] 100) = w1 at *
 generalize w.heap.size = q at *
 go_wp2_with (go_at_call 148; refine C.out.mono ?_; rintro _ w3 ⟨rfl, Z3, Ad⟩; have Ab := hide (HP.out.trans Ad); clear Ad C)
 go_ret
 first | exact ⟨rfl, Z3, Ab.out⟩ | exact ⟨rfl, ⟨Z3, Ab.out⟩⟩
theorem gv (hT : Wt T K.n) (hX : Xr S N0 K T w) (hI : Inv Z l w) (hz : Zo S N0 Z) (hN : Nd K.n Inv v) {t : Int} (ht : aw t) {rs : List Int} {cs : List (Int × Int)} {ra ca : Option Addr} {rc cc : Nat}
    (hra : At1 w ra (aq rs)) (zra : ∀ g o, ra = some ⟨g, o, none⟩ → rs ≠ [] → ¬ Z g) (hca : Chs w ca cs) (zca : ∀ g o, ca = some ⟨g, o, none⟩ → cs ≠ [] → ¬ Z g) (hrl : rs.length ≤ 140737488351232) (hrs : ∀ r ∈ rs, Rn T r) :
    Calls Tryz.prog 145 #[aa K.q, .slice ra rs.length rc, .slice ca cs.length cc, .int .i64 t, v] w fun e w' => e = .returned (.bool (eachM (refX T t) rs cs).1) ∧ ∃ Z2, Pz Inv Z w Z2 (l ++ (eachM (refX T t) rs cs).2) w' := by
 have Aj := hN.st
 have Ac := hN.zl _ _ _ hI
 have An : ∀ (fn : Fn) (first cap : Array Value) (w : World), (Instr.makeFunc fn first cap).run Tryz.prog w = .ok (.func fn first cap) w := fun _ _ _ _ => rfl
 have Ad := ae w (.cells #[aa K.q] 81)
 have Ae := ae (w.alloc (.cells #[aa K.q] 81)) (.cells #[.int .i64 t] 28)
 have Ab := ae ((w.alloc (.cells #[aa K.q] 81)).alloc (.cells #[.int .i64 t] 28)) (.cells #[v] 125)
 have Aa := Ad.trans (Ae.mono Ad.size)
 have hB := Aa.trans (Ab.mono Aa.size)
 have Af := (Pz.refl hI).below Aj hB
 have f5 : Fx w.heap.size 81 [aa K.q] (((w.alloc (.cells #[aa K.q] 81)).alloc (.cells #[.int .i64 t] 28)).alloc (.cells #[v] 125)) := (Ab.block _ (by simp; omega)).trans ((Ae.block _ (by simp)).trans (heap_alloc_new w _))
 have f8 : Fx (w.heap.size + 1) 28 [.int .i64 t] (((w.alloc (.cells #[aa K.q] 81)).alloc (.cells #[.int .i64 t] 28)).alloc (.cells #[v] 125)) := (Ab.block _ (by simp)).trans (by have := heap_alloc_new (w.alloc (.cells #[aa K.q] 81)) (.cells #[.int .i64 t] 28); simpa [Fx] using this)
 have f9 : Fx (w.heap.size + 1 + 1) 125 [v] (((w.alloc (.cells #[aa K.q] 81)).alloc (.cells #[.int .i64 t] 28)).alloc (.cells #[v] 125)) := by have := heap_alloc_new ((w.alloc (.cells #[aa K.q] 81)).alloc (.cells #[.int .i64 t] 28)) (.cells #[v] 125); simpa [Fx] using this
 have Al := ru hT (hX.go hB) hz hN ht f5 f8 f9 (fun e => by have := Ac _ e; omega) (fun e => by have := Ac _ e; omega) (fun e => by have := Ac _ e; omega)
 have Ag : At1 (((w.alloc (.cells #[aa K.q] 81)).alloc (.cells #[.int .i64 t] 28)).alloc (.cells #[v] 125)) ra (aq rs) := hra.below hB
 have Ah := hca.go hB
 have C := hide (jz (rc := rc) (cc := cc) Al (Pz.refl Af.inv) (fun X Z2 l2 hp => tj Ag zra hp) (fun X Z2 l2 hp => Ah.pz zca hp) hrl hrs)
 have HP := hide Af
 obtain ⟨fn, Am, rfl, -, -⟩ := hN.call
 clear hT hX hz hN hI hB Ad Ae Ab Aa Af Aj Ac f5 f8 f9 Al Ag Ah hra hca zra zca hrs
 go_enter Tryz.func145, Tryz.ntmps145
 go_upto_region 1 with fail
 go_wp2_with (go_at_call 146; refine C.out.mono ?_; rintro _ w3 ⟨rfl, Z3, Ak⟩; have Ai := hide (HP.out.trans Ak); clear Ak C)
 go_ret
 first | exact ⟨rfl, Z3, Ai.out⟩ | exact ⟨rfl, ⟨Z3, Ai.out⟩⟩
end
end Go.Proofs.YtmlhcncagdfjfaaGreat.De
