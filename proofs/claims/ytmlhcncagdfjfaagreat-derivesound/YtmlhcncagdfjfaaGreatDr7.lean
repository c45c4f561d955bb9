import Derived.Test.YtmlhcncagdfjfaaGreatDr2
import Derived.Deep.RegionHeld3
set_option maxRecDepth 100000
set_option maxHeartbeats 6400000
namespace Go.Proofs.YtmlhcncagdfjfaaGreat.De
open Go.RowKit Fa
abbrev E0 (s : StM) (ca : Option Addr) (cc : Nat) : List Value := [.int .i64 s.tag, .int .i64 s.lit, .int .i64 s.how, .int .i64 s.rule, .slice ca s.ch.length cc]
abbrev jo (s : StM) (ca : Option Addr) (cc : Nat) : Value := .agg #[.int .i64 s.tag, .int .i64 s.lit, .int .i64 s.how, .int .i64 s.rule, .slice ca s.ch.length cc]
theorem LL.row {S : Nat → Prop} {L : Int → List Int} {n b q : Nat} {w : World} (h : LL S L n b w) (hq : q < n) : ∃ a c, w.cell? ⟨b, q, none⟩ = some (.slice a (L q).length c) ∧ At1 w a (aq (L q)) ∧ ∀ g o, a = some ⟨g, o, none⟩ → L q ≠ [] → S g := by
 obtain ⟨_, vs, hf, _, hr⟩ := h
 obtain ⟨a, c, h1, h2, h3⟩ := hr q hq
 exact ⟨a, c, hf.get h1, h2, h3⟩
theorem uT {s : StM} : bareM s = (decide (s.rule = -1) && decide (s.ch.length = 0)) := by
 unfold bareM
 cases s.ch <;> simp
abbrev Sm (tag : Int) (q : Nat) (how rule : Int) (ch : List (Int × Int)) : StM := ⟨tag, (q : Int), how, rule, ch⟩
section
variable {S : Nat → Prop} {N0 : Nat} {K : cC} {T : Th} {Inv : dO} {Z : Nat → Prop} {w : World} {l : be} {v : Value} {ca : Option Addr} {cc q : Nat} {tag how rule : Int} {ch : List (Int × Int)}
theorem mV (w : World) (s : StM) (ca : Option Addr) (cc : Nat) (hl : s.ch.length ≤ 140737488351232) : Calls Tryz.prog 142 #[jo s ca cc] w fun e w' => e = .returned (.bool (bareM s)) ∧ Below w.heap.size w w' := by
 rw [uT]
 obtain ⟨t, q, h, r, ch⟩ := s
 simp only at hl ⊢
 obtain ⟨m, hm⟩ : ∃ m, ch.length = m := ⟨_, rfl⟩
 show Calls Tryz.prog 142 #[.agg #[.int .i64 t, .int .i64 q, .int .i64 h, .int .i64 r, .slice ca ch.length cc]] w _
 rw [hm] at hl ⊢
 clear hm
 have hB := ae w (.cells #[.int .i64 t, .int .i64 q, .int .i64 h, .int .i64 r, .slice ca m cc] 32)
 have hQ : Fx w.heap.size 32 [.int .i64 t, .int .i64 q, .int .i64 h, .int .i64 r, .slice ca m cc] (w.alloc (.cells #[.int .i64 t, .int .i64 q, .int .i64 h, .int .i64 r, .slice ca m cc] 32)) := heap_alloc_new w _
 have k3 := hQ.get (i := 3) rfl
 have k4 := hQ.get (i := 4) rfl
 have HB := hide hB
 clear hB hQ
 by_cases h1 : r = -1
 ·have Aa : (r == -1) = true := by simp [h1]
  by_cases h2 : m = 0
  ·have hO : Hid ((decide (r = -1) && decide (m = 0)) = true) := hide (by simp [h1, h2])
   rw [hO.out]
   subst h2
   subst h1
   go_enter Tryz.func142, Tryz.ntmps142
   go_wp2_with fail
   go_ret
   exact ⟨rfl, HB.out⟩
  have hO : Hid ((decide (r = -1) && decide (m = 0)) = false) := hide (by simp [h2])
  rw [hO.out]
  have Ab : ((m : Int) == 0) = false := by simp; omega
  subst h1
  go_enter Tryz.func142, Tryz.ntmps142
  go_wp2_with fail
  go_ret
  exact ⟨rfl, HB.out⟩
 have Aa : (r == -1) = false := by simp [h1]
 have hO : Hid ((decide (r = -1) && decide (m = 0)) = false) := hide (by simp [h1])
 rw [hO.out]
 go_enter Tryz.func142, Tryz.ntmps142
 go_wp2_with fail
 go_ret
 exact ⟨rfl, HB.out⟩
theorem sR (hI : Inv Z l w) (hN : Nd K.n Inv v) (hl : ch.length ≤ 140737488351232) :
    Calls Tryz.prog 109 #[aa K.q, jo (Sm tag q how rule ch) ca cc, v] w fun e w' => e = .returned (.bool (jw (Sm tag q how rule ch)).1) ∧ ∃ Z2, Pz Inv Z w Z2 (l ++ (jw (Sm tag q how rule ch)).2) w' := by
 have Aa := hN.st
 have Ac := hN.zl _ _ _ hI
 have hB := ae w (.cells #[.int .i64 tag, .int .i64 q, .int .i64 how, .int .i64 rule, .slice ca ch.length cc] 32)
 have hQ : Fx w.heap.size 32 [.int .i64 tag, .int .i64 q, .int .i64 how, .int .i64 rule, .slice ca ch.length cc] (w.alloc (.cells #[.int .i64 tag, .int .i64 q, .int .i64 how, .int .i64 rule, .slice ca ch.length cc] 32)) := heap_alloc_new w _
 have HP := hide ((Pz.refl hI).below Aa hB)
 have Af : Hid (¬ Z w.heap.size) := hide fun e => by have := Ac _ e; omega
 have Ad := hide Aa
 have C := hide (fun X => mV X (Sm tag q how rule ch) ca cc hl)
 have k0 := hQ.get (i := 0) rfl
 have k1 := hQ.get (i := 1) rfl
 have k2 := hQ.get (i := 2) rfl
 have k3 := hQ.get (i := 3) rfl
 have k4 := hQ.get (i := 4) rfl
 unfold jw
 obtain ⟨fn, Ae, rfl, -, -⟩ := hN.call
 clear hI hN hB hQ hl Aa Ac
 generalize bareM (Sm tag q how rule ch) = o at *
 go_enter Tryz.func109, Tryz.ntmps109
 go_upto_region 1 with fail
 generalize w.alloc (.cells #[.int .i64 tag, .int .i64 q, .int .i64 how, .int .i64 rule, .slice ca ch.length cc] 32) = w1 at *
 generalize w.heap.size = b at *
 go_wp2_with (go_at_call 142; refine (C.out _).mono ?_; rintro _ w3 ⟨rfl, hw⟩; have Ab := hide (HP.out.below Ad.out hw); clear hw)
 go_ret
 first | exact ⟨rfl, Z, by rw [List.append_nil]; exact Ab.out⟩ | exact ⟨rfl, ⟨Z, by rw [List.append_nil]; exact Ab.out⟩⟩
theorem ss (hI : Inv Z l w) (hN : Nd K.n Inv v) (hl : ch.length ≤ 140737488351232) (hqn : q < K.n) :
    Calls Tryz.prog 112 #[aa K.q, jo (Sm tag q how rule ch) ca cc, v] w fun e w' => e = .returned (.bool (gu (Sm tag q how rule ch)).1) ∧ ∃ Z2, Pz Inv Z w Z2 (l ++ (gu (Sm tag q how rule ch)).2) w' := by
 have Ac := hN.st
 have Ae := hN.zl _ _ _ hI
 have hB := ae w (.cells #[.int .i64 tag, .int .i64 q, .int .i64 how, .int .i64 rule, .slice ca ch.length cc] 32)
 have hQ : Fx w.heap.size 32 [.int .i64 tag, .int .i64 q, .int .i64 how, .int .i64 rule, .slice ca ch.length cc] (w.alloc (.cells #[.int .i64 tag, .int .i64 q, .int .i64 how, .int .i64 rule, .slice ca ch.length cc] 32)) := heap_alloc_new w _
 have HP := hide ((Pz.refl hI).below Ac hB)
 have Ah : Hid (¬ Z w.heap.size) := hide fun e => by have := Ae _ e; omega
 have Ag := hide Ac
 have CB := hide (fun X => mV X (Sm tag q how rule ch) ca cc hl)
 have HQ := hide hQ
 obtain ⟨fn, Ai, rfl, hf, hc⟩ := hN.call
 have C := hide (hc Z l _ (q : Int) 1 HP.out.inv ⟨by omega, by omega, .inl rfl⟩)
 have k1 := hQ.get (i := 1) rfl
 unfold gu
 clear hI hN hB hQ hl Ae hc hqn Ac
 generalize bareM (Sm tag q how rule ch) = o at *
 go_enter Tryz.func112, Tryz.ntmps112
 go_upto_region 1 with fail
 generalize w.alloc (.cells #[.int .i64 tag, .int .i64 q, .int .i64 how, .int .i64 rule, .slice ca ch.length cc] 32) = w1 at *
 generalize w.heap.size = b at *
 go_wp2_with fail
 refine C.out.mono ?_
 rintro _ w2 ⟨rfl, Z2, Ab⟩
 have Af := hide (HP.out.trans Ab)
 have Aa := Ab.box HQ.out Ah.out
 have k0 := Aa.get (i := 0) rfl
 have j1 := Aa.get (i := 1) rfl
 have k2 := Aa.get (i := 2) rfl
 have k3 := Aa.get (i := 3) rfl
 have k4 := Aa.get (i := 4) rfl
 clear Ab C k1 HQ Aa
 go_wp2_with (go_at_call 142; refine (CB.out _).mono ?_; rintro _ w3 ⟨rfl, hw⟩; have Ad := hide (Af.out.below Ag.out hw); clear hw)
 go_ret
 first | exact ⟨rfl, Z2, Ad.out⟩ | exact ⟨rfl, ⟨Z2, Ad.out⟩⟩
theorem mJ (hT : Wt T K.n) (hX : Xr S N0 K T w) (hI : Inv Z l w) (hz : Zo S N0 Z) (hN : Nd K.n Inv v) (hl : ch.length ≤ 140737488351232) (hqn : q < K.n) :
    Calls Tryz.prog 110 #[aa K.q, jo (Sm tag q how rule ch) ca cc, v] w fun e w' => e = .returned (.bool (rowStrict T (Sm tag q how rule ch)).1) ∧ ∃ Z2, Pz Inv Z w Z2 (l ++ (rowStrict T (Sm tag q how rule ch)).2) w' := by
 have Ac := hN.st
 have Ai := hN.zl _ _ _ hI
 have hB := ae w (.cells #[.int .i64 tag, .int .i64 q, .int .i64 how, .int .i64 rule, .slice ca ch.length cc] 32)
 have hQ : Fx w.heap.size 32 [.int .i64 tag, .int .i64 q, .int .i64 how, .int .i64 rule, .slice ca ch.length cc] (w.alloc (.cells #[.int .i64 tag, .int .i64 q, .int .i64 how, .int .i64 rule, .slice ca ch.length cc] 32)) := heap_alloc_new w _
 have HP := hide ((Pz.refl hI).below Ac hB)
 have Aq : Hid (¬ Z w.heap.size) := hide fun e => by have := Ai _ e; omega
 have Ad := hide Ac
 have Ab := hX.go hB
 obtain ⟨a, c, r0, Ah, -⟩ := LL.row Ab.s hqn
 have b4 := Ab.bx.get (i := 4) rfl
 have Ag : (ag T kS q).length ≤ 140737488351232 := Nat.le_trans bg (Nat.le_trans hT.rl (by decide))
 have CC : Hid (∀ X : World, X.heap = (w.alloc (.cells #[.int .i64 tag, .int .i64 q, .int .i64 how, .int .i64 rule, .slice ca ch.length cc] 32)).heap → Calls Tryz.prog 143 #[.slice a (ag T kS q).length c, .int .i64 rule] X fun e w' => e = .returned (.bool (decide (rule ∈ ag T kS q))) ∧ w' = X) := hide fun X hX => eL (fun i v hi => by obtain ⟨g, o, e, hc⟩ := Ah i v hi; exact ⟨g, o, e, (World.cell?_of_block (by rw [hX])).trans hc⟩) Ag oE
 have HM : Hid (rule ∈ ag T kS q → Rn T rule) := hide fun h => dZ (bN h)
 have Al := hide (hT.body (t := 1) (.inl rfl) rule)
 have HX := hide Ab
 have HZ := hide hz
 have HN := hide hN
 have k1 := hQ.get (i := 1) rfl
 have k3 := hQ.get (i := 3) rfl
 have k4 := hQ.get (i := 4) rfl
 have Af : Hid (∀ m, ((w.alloc (.cells #[.int .i64 tag, .int .i64 q, .int .i64 how, .int .i64 rule, .slice ca ch.length cc] 32)).drewN m).cell? ⟨w.heap.size, 3, none⟩ = some (.int .i64 rule)) := hide fun m => k3
 have HR : Hid (rowStrict T (Sm tag q how rule ch) = if rule ∈ ag T kS q ∧ ch = [] then (true, cS T rule 1) else (false, [])) := hide rfl
 generalize rowStrict T (Sm tag q how rule ch) = o at *
 obtain ⟨fn, Am, rfl, -, -⟩ := hN.call
 clear hI hN hB hQ Ai Ac hX Ab Ah Ag hT hz
 generalize (ag T kS q).length = sl at *
 generalize hin : decide (rule ∈ ag T kS q) = inn at *
 go_enter Tryz.func110, Tryz.ntmps110
 go_upto_region 1 with fail
 generalize w.alloc (.cells #[.int .i64 tag, .int .i64 q, .int .i64 how, .int .i64 rule, .slice ca ch.length cc] 32) = w1 at *
 generalize w.heap.size = b at *
 cases inn with
 | false =>
  have HO : Hid (o = (false, [])) := hide (by rw [HR.out, if_neg (fun h => of_decide_eq_false hin h.1)])
  clear hin HR HM
  go_quiet ((go_at_call 143; exact Calls.quiet_of_same (CC.out _ rfl)))
  have HD := hide (fun m => HP.out.below Ad.out (ah w1 m))
  go_wp2_with fail
  go_ret
  rw [HO.out]
  first | exact ⟨rfl, _, by rw [List.append_nil]; exact HD.out _⟩ | exact ⟨rfl, ⟨_, by rw [List.append_nil]; exact HD.out _⟩⟩
 | true =>
  have Aa := of_decide_eq_true hin
  cases ch with
  | cons c0 cs =>
   have HO : Hid (o = (false, [])) := hide (by rw [HR.out, if_neg (fun h => by cases h.2)])
   have Ap : decide ((0 : Int) < ((c0 :: cs).length : Int)) = true := by simp
   have An : decide (0 < (c0 :: cs).length) = true := by simp
   clear hin HR HM
   generalize (c0 :: cs).length = mm at *
   go_quiet ((go_at_call 143; exact Calls.quiet_of_same (CC.out _ rfl)))
   have HD := hide (fun m => HP.out.below Ad.out (ah w1 m))
   go_wp2_with fail
   go_ret
   rw [HO.out]
   first | exact ⟨rfl, _, by rw [List.append_nil]; exact HD.out _⟩ | exact ⟨rfl, ⟨_, by rw [List.append_nil]; exact HD.out _⟩⟩
  | nil =>
   obtain ⟨p, x, rfl, hx⟩ := HM.out Aa
   have HO : Hid (o = (true, cS T p 1)) := hide (by rw [HR.out, if_pos ⟨Aa, rfl⟩])
   have HXr := hide hx
   clear hin HR HM Aa hx
   go_quiet ((go_at_call 143; exact Calls.quiet_of_same (CC.out _ rfl)))
   rename Nat => n1
   have HD := hide (HP.out.below Ad.out (ah w1 n1))
   have Ak := hide (HX.out.go (ah w1 n1))
   have Ao := Af.out n1
   clear k1 k3 k4 CC HP HX Af r0 b4
   generalize w1.drewN n1 = w2 at *
   have C := hide (fZ Ak.out HD.out.inv HZ.out HN.out HXr.out Al.out)
   go_wp2_with (go_at_call 144; refine C.out.mono ?_; rintro _ w3 ⟨rfl, Z3, Aj⟩; have Ae := hide (HD.out.trans Aj); clear Aj C)
   go_ret
   rw [HO.out]
   first | exact ⟨rfl, Z3, Ae.out⟩ | exact ⟨rfl, ⟨Z3, Ae.out⟩⟩
end
set_option maxRecDepth 100000
set_option maxHeartbeats 6400000
abbrev S5 (p0 p1 p2 p3 p4 : Addr) (u0 u1 u2 u3 u4 : Value) (X : World) : Prop := X.cell? p0 = some u0 ∧ X.cell? p1 = some u1 ∧ X.cell? p2 = some u2 ∧ X.cell? p3 = some u3 ∧ X.cell? p4 = some u4
theorem S5.drew {p0 p1 p2 p3 p4 : Addr} {u0 u1 u2 u3 u4 : Value} {X : World} (h : S5 p0 p1 p2 p3 p4 u0 u1 u2 u3 u4 X) : S5 p0 p1 p2 p3 p4 u0 u1 u2 u3 u4 X.drew := h
section
variable {Inv : dO} {Z0 Z2 : Nat → Prop} {w0 X : World} {l2 : be} {S : Nat → Prop} {N0 : Nat}
theorem dz {p : Addr} {u : Value} (hp : Pz Inv Z0 w0 Z2 l2 X) (h : w0.cell? p = some u) (hz : ¬ Z0 p.block) : X.cell? p = some u := (World.cell?_of_block (hp.fr.block p.block (World.block_lt_of_cell? w0 _ h) hz)).trans h
theorem Zo.no (h : Zo S N0 Z0) {g : Nat} (hg : S g) : ¬ Z0 g := fun e => (h g e).1 hg
theorem S5.pz {p0 p1 p2 p3 p4 : Addr} {u0 u1 u2 u3 u4 : Value} (h : S5 p0 p1 p2 p3 p4 u0 u1 u2 u3 u4 w0) (hp : Pz Inv Z0 w0 Z2 l2 X) (z0 : ¬ Z0 p0.block) (z1 : ¬ Z0 p1.block) (z2 : ¬ Z0 p2.block) (z3 : ¬ Z0 p3.block) (z4 : ¬ Z0 p4.block) : S5 p0 p1 p2 p3 p4 u0 u1 u2 u3 u4 X :=
 ⟨dz hp h.1 z0, dz hp h.2.1 z1, dz hp h.2.2.1 z2, dz hp h.2.2.2.1 z3, dz hp h.2.2.2.2 z4⟩
end
theorem LL.blk {S : Nat → Prop} {L : Int → List Int} {n b : Nat} {w : World} (h : LL S L n b w) : S b := h.1
section
variable {S : Nat → Prop} {N0 : Nat} {K : cC} {T : Th} {Inv : dO} {Z : Nat → Prop} {w : World} {l : be} {v : Value} {ca : Option Addr} {cc q : Nat} {tag how rule : Int} {ch : List (Int × Int)}
theorem oD (hT : Wt T K.n) (hX : Xr S N0 K T w) (hI : Inv Z l w) (hz : Zo S N0 Z) (hN : Nd K.n Inv v) (hqn : q < K.n) (hca : Chs w ca ch) (zca : ∀ g o, ca = some ⟨g, o, none⟩ → ch ≠ [] → ¬ Z g) :
    Calls Tryz.prog 111 #[aa K.q, jo (Sm tag q how rule ch) ca cc, v] w fun e w' => e = .returned (.bool (rowNoStrict T (Sm tag q how rule ch)).1) ∧ ∃ Z2, Pz Inv Z w Z2 (l ++ (rowNoStrict T (Sm tag q how rule ch)).2) w' := by
 have Ad := hN.st
 have Ak := hN.zl _ _ _ hI
 have hB := ae w (.cells #[.int .i64 tag, .int .i64 q, .int .i64 how, .int .i64 rule, .slice ca ch.length cc] 32)
 have hQ : Fx w.heap.size 32 [.int .i64 tag, .int .i64 q, .int .i64 how, .int .i64 rule, .slice ca ch.length cc] (w.alloc (.cells #[.int .i64 tag, .int .i64 q, .int .i64 how, .int .i64 rule, .slice ca ch.length cc] 32)) := heap_alloc_new w _
 have HP := hide ((Pz.refl hI).below Ad hB)
 have Ac : Hid (¬ Z w.heap.size) := hide fun e => by have := Ak _ e; omega
 have Ab := hide Ad
 have HX := hide (hX.go hB)
 have HQ := hide hQ
 have HT := hide hT
 have HZ := hide hz
 have HN := hide hN
 have Ai := hide hqn
 have Ao := hide (hca.go hB)
 have Am := hide zca
 have As : (ag T kS q).length ≤ 140737488351232 := Nat.le_trans bg (Nat.le_trans hT.rl (by decide))
 have An : Hid (∀ r ∈ ag T kS q, Rn T r) := hide fun r hr => dZ (bN hr)
 have Af : Hid (rule = -1 → rowNoStrict T (Sm tag q how rule ch) = eachM (refX T 2) (ag T kS q) ch) := hide fun h => by unfold rowNoStrict; rw [if_pos h]
 have Ae : Hid (rule ≠ -1 → rowNoStrict T (Sm tag q how rule ch) = (false, [])) := hide fun h => by unfold rowNoStrict; rw [if_neg h]
 generalize rowNoStrict T (Sm tag q how rule ch) = o at *
 obtain ⟨Av, At, rfl, -, -⟩ := hN.call
 clear hI hN hB hQ Ak Ad hX hT hz hqn hca zca 
 go_enter Tryz.func111, Tryz.ntmps111
 go_upto_region 1 with fail
 generalize w.alloc (.cells #[.int .i64 tag, .int .i64 q, .int .i64 how, .int .i64 rule, .slice ca ch.length cc] 32) = w1 at *
 generalize w.heap.size = b at *
 have k3 := HQ.out.get (i := 3) rfl
 by_cases h1 : rule = -1
 ·subst h1
  have Aa : Below w1.heap.size w1 w1.drew := (Below.refl _ _).drew
  obtain ⟨a, c, r0, Aj, Ah⟩ := LL.row HX.out.s Ai.out
  have Al := gv (rc := c) (cc := cc) HT.out (HX.out.go Aa) (HP.out.below Ab.out Aa).inv HZ.out HN.out (t := 2) (.inr (.inl rfl)) (Aj.below Aa) (fun g o e hne => HZ.out.no (Ah g o e hne)) (Ao.out.go Aa) Am.out As An.out
  have C := hide Al
  have Aq := hide (HP.out.below Ab.out Aa)
  have h5 : S5 ⟨b, 1, none⟩ ⟨b, 3, none⟩ ⟨b, 4, none⟩ ⟨K.q, 4, none⟩ ⟨K.g0, q, none⟩ (.int .i64 q) (.int .i64 (-1)) (.slice ca ch.length cc) (ay K.g0 K.n) (.slice a (ag T kS q).length c) w1 := ⟨HQ.out.get (i := 1) rfl, HQ.out.get (i := 3) rfl, HQ.out.get (i := 4) rfl, HX.out.bx.get (i := 4) rfl, r0⟩
  have Ap : Hid (∀ X Z2 l2, Pz Inv Z w1.drew Z2 l2 X → S5 ⟨b, 1, none⟩ ⟨b, 3, none⟩ ⟨b, 4, none⟩ ⟨K.q, 4, none⟩ ⟨K.g0, q, none⟩ (.int .i64 q) (.int .i64 (-1)) (.slice ca ch.length cc) (ay K.g0 K.n) (.slice a (ag T kS q).length c) X) := hide fun X Z2 l2 hp => S5.pz (w0 := w1.drew) h5 hp Ac.out Ac.out Ac.out (HZ.out.no HX.out.sq) (HZ.out.no (LL.blk HX.out.s))
  have hqn := Ai.out
  clear k3 Aj Ah r0 Al Aa
  have HR : Hid (o = eachM (refX T 2) (ag T kS q) ch) := hide (Af.out rfl)
  clear Af Ae
  generalize eachM (refX T 2) (ag T kS q) ch = er at *
  generalize (ag T kS q).length = sl at *
  go_region_held3 (fun X : World => S5 ⟨b, 1, none⟩ ⟨b, 3, none⟩ ⟨b, 4, none⟩ ⟨K.q, 4, none⟩ ⟨K.g0, q, none⟩ (.int .i64 q) (.int .i64 (-1)) (.slice ca ch.length cc) (ay K.g0 K.n) (.slice a sl c) X) (first | exact S5.drew ‹_› | assumption) (first | (go_at_call 145; refine C.out.mono ?_; rintro e w' ⟨rfl, Z3, Ar⟩; have Aw := Ap.out _ _ _ Ar))
  all_goals
   go_wp2_with fail
   go_ret
   rw [HR.out]
   have Ag := Aq.out.trans (by assumption)
   first | exact ⟨rfl, _, by simpa using Ag⟩ | exact ⟨rfl, ⟨_, by simpa using Ag⟩⟩
 have Au : (rule == -1) = false := by simp [h1]
 have HR : Hid (o = (false, [])) := hide (Ae.out h1)
 clear Af Ae
 go_quiet (fail)
 have HD := hide (fun m => HP.out.below Ab.out (ah w1 m))
 go_wp2_with fail
 go_ret
 rw [HR.out]
 first | exact ⟨rfl, _, by simpa using HD.out _⟩ | exact ⟨rfl, ⟨_, by simpa using HD.out _⟩⟩
theorem pQ (hT : Wt T K.n) (hX : Xr S N0 K T w) (hI : Inv Z l w) (hz : Zo S N0 Z) (hN : Nd K.n Inv v) (hqn : q < K.n) (hca : Chs w ca ch) (zca : ∀ g o, ca = some ⟨g, o, none⟩ → ch ≠ [] → ¬ Z g) :
    Calls Tryz.prog 114 #[aa K.q, jo (Sm tag q how rule ch) ca cc, v] w fun e w' => e = .returned (.bool (rowNoRule T (Sm tag q how rule ch)).1) ∧ ∃ Z2, Pz Inv Z w Z2 (l ++ (rowNoRule T (Sm tag q how rule ch)).2) w' := by
 have Al := hN.st
 have As := hN.zl _ _ _ hI
 have hB := ae w (.cells #[.int .i64 tag, .int .i64 q, .int .i64 how, .int .i64 rule, .slice ca ch.length cc] 32)
 have hQ : Fx w.heap.size 32 [.int .i64 tag, .int .i64 q, .int .i64 how, .int .i64 rule, .slice ca ch.length cc] (w.alloc (.cells #[.int .i64 tag, .int .i64 q, .int .i64 how, .int .i64 rule, .slice ca ch.length cc] 32)) := heap_alloc_new w _
 have HP := hide ((Pz.refl hI).below Al hB)
 have Ak : Hid (¬ Z w.heap.size) := hide fun e => by have := As _ e; omega
 have Aj := hide Al
 obtain ⟨AE, AC, hv, hf, hc⟩ := hN.call
 have CA := hide (hc Z l _ (q : Int) 2 HP.out.inv ⟨by omega, by omega, .inr (.inl rfl)⟩)
 have k1 := hQ.get (i := 1) rfl
 have HX := hide (hX.go hB)
 have HQ := hide hQ
 have HT := hide hT
 have HZ := hide hz
 have HN := hide hN
 have Aq := hide hqn
 have Ai := hide (hca.go hB)
 have Ag := hide zca
 have AB : (ag T kT q).length ≤ 140737488351232 := Nat.le_trans bg (Nat.le_trans hT.rl (by decide))
 have Aw : Hid (∀ r ∈ ag T kT q, Rn T r) := hide fun r hr => dZ (bN hr)
 have An : Hid (rule = -1 → rowNoRule T (Sm tag q how rule ch) = ((eachM (refX T 4) (ag T kT q) ch).1, ((q : Int), 2) :: (eachM (refX T 4) (ag T kT q) ch).2)) := hide fun h => by unfold rowNoRule; rw [if_pos h]
 have Am : Hid (rule ≠ -1 → rowNoRule T (Sm tag q how rule ch) = (false, [((q : Int), 2)])) := hide fun h => by unfold rowNoRule; rw [if_neg h]
 generalize rowNoRule T (Sm tag q how rule ch) = o at *
 subst hv
 clear hI hN hB hQ As Al hX hT hz hqn hca zca hc
 go_enter Tryz.func114, Tryz.ntmps114
 go_upto_region 1 with fail
 generalize w.alloc (.cells #[.int .i64 tag, .int .i64 q, .int .i64 how, .int .i64 rule, .slice ca ch.length cc] 32) = w1 at *
 generalize w.heap.size = b at *
 go_upto_region 2 with fail
 refine CA.out.mono ?_
 rintro _ w2 ⟨rfl, ZA, Aa⟩
 have Ah := hide (HP.out.trans Aa)
 have Ac := hide (Aa.xr HX.out HZ.out)
 have Ae := hide (HZ.out.next HX.out Aa)
 have Af := hide (Aa.box HQ.out Ak.out)
 have Ad : Hid (¬ ZA b) := hide fun e => by
  rcases Aa.zn _ e with e | e
  ·exact Ak.out e
  have := HQ.out.lt; omega
 have Av := hide (Ai.out.pz Ag.out Aa)
 have Au : Hid (∀ g o, ca = some ⟨g, o, none⟩ → ch ≠ [] → ¬ ZA g) := hide fun g o e hne ez => by
  rcases Aa.zn _ ez with e2 | e2
  ·exact Ag.out g o e hne e2
  obtain ⟨c0, AA⟩ := am (l := ch) (i := 0) (by cases ch with | nil => exact absurd rfl hne | cons => simp)
  obtain ⟨g', o', e', k, -⟩ := Ai.out 0 c0 AA
  rw [e] at e'
  cases e'
  have := World.block_lt_of_cell? _ _ k
  simp only at this
  omega
 clear Aa CA k1 HX HZ HQ Ak Ai Ag HP
 go_wp2_with fail
 have k3 := Af.out.get (i := 3) rfl
 by_cases h1 : rule = -1
 ·subst h1
  have Ab : Below w2.heap.size w2 w2.drew := (Below.refl _ _).drew
  obtain ⟨a, c, r0, Ar, Ap⟩ := LL.row Ac.out.t Aq.out
  have At := gv (rc := c) (cc := cc) HT.out (Ac.out.go Ab) (Ah.out.below Aj.out Ab).inv Ae.out HN.out (t := 4) (.inr (.inr (.inr rfl))) (Ar.below Ab) (fun g o e hne => Ae.out.no (Ap g o e hne)) (Av.out.go Ab) Au.out AB Aw.out
  have C := hide At
  have Ay := hide (Ah.out.below Aj.out Ab)
  have h5 : S5 ⟨b, 1, none⟩ ⟨b, 3, none⟩ ⟨b, 4, none⟩ ⟨K.q, 5, none⟩ ⟨K.g1, q, none⟩ (.int .i64 q) (.int .i64 (-1)) (.slice ca ch.length cc) (ay K.g1 K.n) (.slice a (ag T kT q).length c) w2 := ⟨Af.out.get (i := 1) rfl, Af.out.get (i := 3) rfl, Af.out.get (i := 4) rfl, Ac.out.bx.get (i := 5) rfl, r0⟩
  have Ax : Hid (∀ X Z2 l2, Pz Inv ZA w2.drew Z2 l2 X → S5 ⟨b, 1, none⟩ ⟨b, 3, none⟩ ⟨b, 4, none⟩ ⟨K.q, 5, none⟩ ⟨K.g1, q, none⟩ (.int .i64 q) (.int .i64 (-1)) (.slice ca ch.length cc) (ay K.g1 K.n) (.slice a (ag T kT q).length c) X) := hide fun X Z2 l2 hp => S5.pz (w0 := w2.drew) h5 hp Ad.out Ad.out Ad.out (Ae.out.no Ac.out.sq) (Ae.out.no (LL.blk Ac.out.t))
  have hqn := Aq.out
  clear k3 Ar Ap r0 At Ab
  have HR : Hid (o = ((eachM (refX T 4) (ag T kT q) ch).1, ((q : Int), 2) :: (eachM (refX T 4) (ag T kT q) ch).2)) := hide (An.out rfl)
  clear An Am
  generalize eachM (refX T 4) (ag T kT q) ch = er at *
  generalize (ag T kT q).length = sl at *
  go_region_held3 (fun X : World => S5 ⟨b, 1, none⟩ ⟨b, 3, none⟩ ⟨b, 4, none⟩ ⟨K.q, 5, none⟩ ⟨K.g1, q, none⟩ (.int .i64 q) (.int .i64 (-1)) (.slice ca ch.length cc) (ay K.g1 K.n) (.slice a sl c) X) (first | exact S5.drew ‹_› | assumption) (first | (go_at_call 145; refine C.out.mono ?_; rintro e w' ⟨rfl, Z3, Az⟩; have AF := Ax.out _ _ _ Az))
  all_goals
   go_wp2_with fail
   go_ret
   rw [HR.out]
   have Ao := Ay.out.trans (by assumption)
   first | exact ⟨rfl, _, by simpa using Ao⟩ | exact ⟨rfl, ⟨_, by simpa using Ao⟩⟩
 have AD : (rule == -1) = false := by simp [h1]
 have HR : Hid (o = (false, [((q : Int), 2)])) := hide (Am.out h1)
 clear An Am
 go_quiet (fail)
 have HD := hide (fun m => Ah.out.below Aj.out (ah w2 m))
 go_wp2_with fail
 go_ret
 rw [HR.out]
 first | exact ⟨rfl, _, by simpa using HD.out _⟩ | exact ⟨rfl, ⟨_, by simpa using HD.out _⟩⟩
end
set_option maxRecDepth 100000
set_option maxHeartbeats 6400000
section
variable {S : Nat → Prop} {N0 : Nat} {K : cC} {T : Th} {Inv : dO} {Z : Nat → Prop} {w : World} {l : be} {v : Value} {ca : Option Addr} {cc q : Nat} {tag how rule : Int} {ch : List (Int × Int)}
theorem bn {l2 : List Int} (h : T.foes[q]? = some l2) : row T.foes (q : Int) = l2 := by unfold row; rw [Int.toNat_natCast, List.getD_eq_getElem?_getD, h]; rfl
theorem nO (hT : Wt T K.n) (hX : Xr S N0 K T w) (hI : Inv Z l w) (hz : Zo S N0 Z) (hN : Nd K.n Inv v) (hl : ch.length ≤ 140737488351232) (hqn : q < K.n) :
    Calls Tryz.prog 115 #[aa K.q, jo (Sm tag q how rule ch) ca cc, v] w fun e w' => e = .returned (.bool (rowFoe T (Sm tag q how rule ch)).1) ∧ ∃ Z2, Pz Inv Z w Z2 (l ++ (rowFoe T (Sm tag q how rule ch)).2) w' := by
 have Ag := hN.st
 have Ar := hN.zl _ _ _ hI
 have hB := ae w (.cells #[.int .i64 tag, .int .i64 q, .int .i64 how, .int .i64 rule, .slice ca ch.length cc] 32)
 have hQ : Fx w.heap.size 32 [.int .i64 tag, .int .i64 q, .int .i64 how, .int .i64 rule, .slice ca ch.length cc] (w.alloc (.cells #[.int .i64 tag, .int .i64 q, .int .i64 how, .int .i64 rule, .slice ca ch.length cc] 32)) := heap_alloc_new w _
 have HP := hide ((Pz.refl hI).below Ag hB)
 have At : Hid (¬ Z w.heap.size) := hide fun e => by have := Ar _ e; omega
 have Af := hide Ag
 have Ae := hX.go hB
 obtain ⟨fl, Aa⟩ := am (l := T.foes) (i := q) (by rw [hT.fl]; exact hqn)
 have Ab := bn Aa
 obtain ⟨gf, of, a, c, Ao, AA, r0, -, Av, Al⟩ := bH Ae.ta.foes Aa
 have b1 := Ae.bx.get (i := 1) rfl
 rw [Ao] at b1
 have Aw : q < T.foes.length := (List.getElem?_eq_some_iff.1 Aa).1
 have Ax := Ae.ta.foes.lim
 have Ak := (hT.fp q hqn).1
 have Ad := hT.fo q hqn
 rw [Ab] at Ak Ad
 have Ap := Al.at1
 have CC : Hid (∀ X : World, X.heap = (w.alloc (.cells #[.int .i64 tag, .int .i64 q, .int .i64 how, .int .i64 rule, .slice ca ch.length cc] 32)).heap → Calls Tryz.prog 143 #[.slice a fl.length c, .int .i64 rule] X fun e w' => e = .returned (.bool (decide (rule ∈ fl))) ∧ w' = X) := hide fun X hX => eL (fun i v hi => by obtain ⟨g, o, e, hc⟩ := Ap i v hi; exact ⟨g, o, e, (World.cell?_of_block (by rw [hX])).trans hc⟩) Av Ak
 have HM := hide Ad
 have HQ := hide hQ
 have HZ := hide hz
 have k1 := hQ.get (i := 1) rfl
 have k3 := hQ.get (i := 3) rfl
 have k4 := hQ.get (i := 4) rfl
 have HR : Hid (rowFoe T (Sm tag q how rule ch) = if rule ∈ fl ∧ ch = [] then (true, [((q : Int), 2), (rule, 1)]) else (false, [])) := hide (by unfold rowFoe; rw [Ab])
 have Au := hide hqn
 generalize rowFoe T (Sm tag q how rule ch) = o at *
 obtain ⟨fn, Ay, rfl, hf, hc⟩ := hN.call
 have HC := hide hc
 clear hI hN hB hQ Ar Ag hX Ae Ap hT hz Al Ak Ad Ao Aa Ab hc hqn
 generalize fl.length = sl at *
 generalize hin : decide (rule ∈ fl) = inn at *
 go_enter Tryz.func115, Tryz.ntmps115
 go_upto_region 1 with fail
 generalize w.alloc (.cells #[.int .i64 tag, .int .i64 q, .int .i64 how, .int .i64 rule, .slice ca ch.length cc] 32) = w1 at *
 generalize w.heap.size = b at *
 cases inn with
 | false =>
  have HO : Hid (o = (false, [])) := hide (by rw [HR.out, if_neg (fun h => of_decide_eq_false hin h.1)])
  clear hin HR HM
  go_quiet ((go_at_call 143; exact Calls.quiet_of_same (CC.out _ rfl)))
  have HD := hide (fun m => HP.out.below Af.out (ah w1 m))
  go_wp2_with fail
  go_ret
  rw [HO.out]
  first | exact ⟨rfl, _, by rw [List.append_nil]; exact HD.out _⟩ | exact ⟨rfl, ⟨_, by rw [List.append_nil]; exact HD.out _⟩⟩
 | true =>
  have Ac := of_decide_eq_true hin
  cases ch with
  | cons c0 cs =>
   have HO : Hid (o = (false, [])) := hide (by rw [HR.out, if_neg (fun h => by cases h.2)])
   have Az : decide ((0 : Int) < ((c0 :: cs).length : Int)) = true := by simp
   have AB : decide (0 < (c0 :: cs).length) = true := by simp
   clear hin HR HM
   generalize (c0 :: cs).length = mm at *
   go_quiet ((go_at_call 143; exact Calls.quiet_of_same (CC.out _ rfl)))
   have HD := hide (fun m => HP.out.below Af.out (ah w1 m))
   go_wp2_with fail
   go_ret
   rw [HO.out]
   first | exact ⟨rfl, _, by rw [List.append_nil]; exact HD.out _⟩ | exact ⟨rfl, ⟨_, by rw [List.append_nil]; exact HD.out _⟩⟩
  | nil =>
   have Aq := hide (HM.out rule Ac)
   have HO : Hid (o = (true, [((q : Int), 2), (rule, 1)])) := hide (by rw [HR.out, if_pos ⟨Ac, rfl⟩])
   clear hin HR HM Ac
   go_quiet ((go_at_call 143; exact Calls.quiet_of_same (CC.out _ rfl)))
   rename Nat => n1
   have HD := hide (HP.out.below Af.out (ah w1 n1))
   have Aj := hide (HQ.out.keep (w' := w1.drewN n1) rfl)
   clear k1 k3 k4 CC HP r0 b1 HQ
   generalize w1.drewN n1 = w2 at *
   have k1 := Aj.out.get (i := 1) rfl
   have C := hide (HC.out Z l w2 (q : Int) 2 HD.out.inv ⟨by omega, by have := Au.out; omega, .inr (.inl rfl)⟩)
   go_wp2_with fail
   refine C.out.mono ?_
   rintro _ w3 ⟨rfl, Z3, Ai⟩
   have Ah := hide (HD.out.trans Ai)
   have As := hide (Ai.box Aj.out At.out)
   clear Ai C k1 Aj HD
   have k3 := As.out.get (i := 3) rfl
   have C := hide (HC.out Z3 _ w3 rule 1 Ah.out.inv ⟨Aq.out.1, Aq.out.2, .inl rfl⟩)
   go_wp2_with fail
   refine C.out.mono ?_
   rintro _ w4 ⟨rfl, Z4, Am⟩
   have An := hide (Ah.out.trans Am)
   clear Am C k3 As Ah
   go_wp2_with fail
   go_ret
   rw [HO.out]
   first | exact ⟨rfl, Z4, by simpa using An.out⟩ | exact ⟨rfl, ⟨Z4, by simpa using An.out⟩⟩
theorem oS (hT : Wt T K.n) (hX : Xr S N0 K T w) (hI : Inv Z l w) (hz : Zo S N0 Z) (hN : Nd K.n Inv v) (hqn : q < K.n) (hca : Chs w ca ch) (zca : ∀ g o, ca = some ⟨g, o, none⟩ → ch ≠ [] → ¬ Z g) :
    Calls Tryz.prog 116 #[aa K.q, jo (Sm tag q how rule ch) ca cc, v] w fun e w' => e = .returned (.bool (rowBeaten T (Sm tag q how rule ch)).1) ∧ ∃ Z2, Pz Inv Z w Z2 (l ++ (rowBeaten T (Sm tag q how rule ch)).2) w' := by
 have An := hN.st
 have Aw := hN.zl _ _ _ hI
 have hB := ae w (.cells #[.int .i64 tag, .int .i64 q, .int .i64 how, .int .i64 rule, .slice ca ch.length cc] 32)
 have hQ : Fx w.heap.size 32 [.int .i64 tag, .int .i64 q, .int .i64 how, .int .i64 rule, .slice ca ch.length cc] (w.alloc (.cells #[.int .i64 tag, .int .i64 q, .int .i64 how, .int .i64 rule, .slice ca ch.length cc] 32)) := heap_alloc_new w _
 have HP := hide ((Pz.refl hI).below An hB)
 have Al : Hid (¬ Z w.heap.size) := hide fun e => by have := Aw _ e; omega
 have Ah := hide An
 have Ak := hX.go hB
 obtain ⟨a, c, r0, Av, -⟩ := LL.row Ak.a hqn
 have b6 := Ak.bx.get (i := 6) rfl
 have Af : (aG T q).length ≤ 140737488351232 := Nat.le_trans g8 (Nat.le_trans hT.rl (by decide))
 have CC : Hid (∀ X : World, X.heap = (w.alloc (.cells #[.int .i64 tag, .int .i64 q, .int .i64 how, .int .i64 rule, .slice ca ch.length cc] 32)).heap → Calls Tryz.prog 143 #[.slice a (aG T q).length c, .int .i64 rule] X fun e w' => e = .returned (.bool (decide (rule ∈ aG T q))) ∧ w' = X) := hide fun X hX => eL (fun i v hi => by obtain ⟨g, o, e, hc⟩ := Av i v hi; exact ⟨g, o, e, (World.cell?_of_block (by rw [hX])).trans hc⟩) Af yE
 have HM : Hid (rule ∈ aG T q → Rn T rule) := hide fun h => dZ (m5 h)
 have AF := hide (hT.body (t := 3) (.inr (.inr (.inl rfl))) rule)
 have HX := hide Ak
 have HZ := hide hz
 have HN := hide hN
 have HT := hide hT
 have HQ := hide hQ
 have As := hide (hca.go hB)
 have Aq := hide zca
 have k1 := hQ.get (i := 1) rfl
 have k3 := hQ.get (i := 3) rfl
 have HR : Hid (rowBeaten T (Sm tag q how rule ch) = if rule ∈ aG T q then ((eachM (refX T 4) (aQ T q rule) ch).1, ((q : Int), 2) :: cS T rule 3 ++ (eachM (refX T 4) (aQ T q rule) ch).2) else (false, [])) := hide rfl
 have Au := hide hqn
 generalize rowBeaten T (Sm tag q how rule ch) = o at *
 obtain ⟨fn, AM, rfl, hf, hc⟩ := hN.call
 have HC := hide hc
 clear hI hN hB hQ Aw An hX Ak Av Af hT hz hc hca zca
 generalize (aG T q).length = sl at *
 generalize hin : decide (rule ∈ aG T q) = inn at *
 go_enter Tryz.func116, Tryz.ntmps116
 go_upto_region 1 with fail
 generalize w.alloc (.cells #[.int .i64 tag, .int .i64 q, .int .i64 how, .int .i64 rule, .slice ca ch.length cc] 32) = w1 at *
 generalize w.heap.size = b at *
 cases inn with
 | false =>
  have HO : Hid (o = (false, [])) := hide (by rw [HR.out, if_neg (of_decide_eq_false hin)])
  clear hin HR HM
  go_quiet ((go_at_call 143; exact Calls.quiet_of_same (CC.out _ rfl)))
  have HD := hide (fun m => HP.out.below Ah.out (ah w1 m))
  go_wp2_with fail
  go_ret
  rw [HO.out]
  first | exact ⟨rfl, _, by rw [List.append_nil]; exact HD.out _⟩ | exact ⟨rfl, ⟨_, by rw [List.append_nil]; exact HD.out _⟩⟩
 | true =>
  have Ag := of_decide_eq_true hin
  obtain ⟨p, x, rfl, hx⟩ := HM.out Ag
  have HO : Hid (o = ((eachM (refX T 4) (aQ T q p) ch).1, ((q : Int), 2) :: cS T p 3 ++ (eachM (refX T 4) (aQ T q p) ch).2)) := hide (by rw [HR.out, if_pos Ag])
  have HXr := hide hx
  clear hin HR HM Ag hx
  go_quiet ((go_at_call 143; exact Calls.quiet_of_same (CC.out _ rfl)))
  rename Nat => n1
  have HD := hide (HP.out.below Ah.out (ah w1 n1))
  have Aj := hide (HX.out.go (ah w1 n1))
  have Ai := hide (HQ.out.keep (w' := w1.drewN n1) rfl)
  have Ao := hide (As.out.go (ah w1 n1))
  clear k1 k3 CC HP HX r0 b6 HQ As hqn
  generalize w1.drewN n1 = w2 at *
  have k1 := Ai.out.get (i := 1) rfl
  have C := hide (HC.out Z l w2 (q : Int) 2 HD.out.inv ⟨by omega, by have := Au.out; omega, .inr (.inl rfl)⟩)
  go_wp2_with fail
  refine C.out.mono ?_
  rintro _ w3 ⟨rfl, Z3, Ae⟩
  have Az := hide Ae
  have AK := hide (Ae.box Ai.out Al.out)
  have AI := hide (Ae.xr Aj.out HZ.out)
  have AE := hide (HZ.out.next Aj.out Ae)
  clear Ae C k1
  have k3 := AK.out.get (i := 3) rfl
  have C := hide (fZ AI.out Az.out.inv AE.out HN.out HXr.out AF.out)
  go_upto_region 5 with (go_at_call 144; refine C.out.mono ?_; rintro _ w4 ⟨rfl, Z4, Ar⟩; have Aa := hide (Az.out.trans Ar); clear Ar C)
  have Ad := hide (Aa.out.box Ai.out Al.out)
  have AA := hide (Aa.out.xr Aj.out HZ.out)
  have Ax := hide (HZ.out.next Aj.out Aa.out)
  have AC := hide (Ao.out.pz Aq.out Aa.out)
  have Ab : Hid (¬ Z4 b) := hide fun e => by
   rcases Aa.out.zn _ e with e | e
   ·exact Al.out e
   have := Ai.out.lt; omega
  have AD : Hid (∀ g o, ca = some ⟨g, o, none⟩ → ch ≠ [] → ¬ Z4 g) := hide fun g o e hne ez => by
   rcases Aa.out.zn _ ez with e2 | e2
   ·exact Aq.out g o e hne e2
   obtain ⟨c0, AL⟩ := am (l := ch) (i := 0) (by cases ch with | nil => exact absurd rfl hne | cons => simp)
   obtain ⟨g', o', e', k, -⟩ := Ao.out 0 c0 AL
   rw [e] at e'
   cases e'
   have := World.block_lt_of_cell? _ _ k
   simp only at this
   omega
  have Ac : Below w4.heap.size w4 w4.drew := (Below.refl _ _).drew
  obtain ⟨a2, c2, Am, At, AB⟩ := gz (AA.out.go Ac) (s := p) (by have := (List.getElem?_eq_some_iff.1 HXr.out).1; have := HT.out.rl; omega) Au.out
  have CB := hide AB
  have Af : (aQ T q p).length ≤ 140737488351232 := Nat.le_trans ij (Nat.le_trans HT.out.rl (by decide))
  have Ay := gv (rc := c2) (cc := cc) HT.out (AA.out.go Ac) ((Pz.refl Aa.out.inv).below Ah.out Ac).inv Ax.out HN.out (t := 4) (.inr (.inr (.inr rfl))) Am (fun g o e hne => Ax.out.no (At g o e hne)) (AC.out.go Ac) AD.out Af (fun r hr => dZ (lE hr))
  have C := hide Ay
  have AJ := hide (HD.out.trans (Aa.out.below Ah.out Ac))
  have h5 : S5 ⟨b, 1, none⟩ ⟨b, 3, none⟩ ⟨b, 4, none⟩ ⟨b, 0, none⟩ ⟨b, 2, none⟩ (.int .i64 q) (.int .i64 p) (.slice ca ch.length cc) (.int .i64 tag) (.int .i64 how) w4 := ⟨Ad.out.get (i := 1) rfl, Ad.out.get (i := 3) rfl, Ad.out.get (i := 4) rfl, Ad.out.get (i := 0) rfl, Ad.out.get (i := 2) rfl⟩
  have AH : Hid (∀ X Z2 l2, Pz Inv Z4 w4.drew Z2 l2 X → S5 ⟨b, 1, none⟩ ⟨b, 3, none⟩ ⟨b, 4, none⟩ ⟨b, 0, none⟩ ⟨b, 2, none⟩ (.int .i64 q) (.int .i64 p) (.slice ca ch.length cc) (.int .i64 tag) (.int .i64 how) X) := hide fun X Z2 l2 hp => S5.pz (w0 := w4.drew) h5 hp Ab.out Ab.out Ab.out Ab.out Ab.out
  clear k3 Am At Ay Ac AB Af
  generalize eachM (refX T 4) (aQ T q p) ch = er at *
  generalize (aQ T q p).length = ol at *
  go_region_held3 (fun X : World => S5 ⟨b, 1, none⟩ ⟨b, 3, none⟩ ⟨b, 4, none⟩ ⟨b, 0, none⟩ ⟨b, 2, none⟩ (.int .i64 q) (.int .i64 p) (.slice ca ch.length cc) (.int .i64 tag) (.int .i64 how) X) (first | exact S5.drew ‹_› | assumption) (first | (go_at_call 150; refine (CB.out _ rfl).mono ?_; rintro e w' ⟨rfl, rfl⟩) | (go_at_call 145; refine C.out.mono ?_; rintro e w' ⟨rfl, Z5, AG⟩; have AN := AH.out _ _ _ AG))
  all_goals
   go_wp2_with fail
   go_ret
   rw [HO.out]
   have Ap := AJ.out.trans (by assumption)
   first | exact ⟨rfl, _, by simpa using Ap⟩ | exact ⟨rfl, ⟨_, by simpa using Ap⟩⟩
end
end Go.Proofs.YtmlhcncagdfjfaaGreat.De
