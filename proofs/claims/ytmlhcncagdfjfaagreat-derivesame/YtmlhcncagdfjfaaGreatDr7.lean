import Derived.Test.YtmlhcncagdfjfaaGreatDr2
import Derived.Deep.RegionHeld3
set_option maxRecDepth 100000
set_option maxHeartbeats 6400000
namespace Go.Proofs.YtmlhcncagdfjfaaGreat.De
open Go.RowKit Fa
abbrev B7 (s : StM) (ca : Option Addr) (cc : Nat) : List Value := [.int .i64 s.tag, .int .i64 s.lit, .int .i64 s.how, .int .i64 s.rule, .slice ca s.ch.length cc]
abbrev fR (s : StM) (ca : Option Addr) (cc : Nat) : Value := .agg #[.int .i64 s.tag, .int .i64 s.lit, .int .i64 s.how, .int .i64 s.rule, .slice ca s.ch.length cc]
theorem LL.row {S : Nat → Prop} {L : Int → List Int} {n b q : Nat} {w : World} (h : LL S L n b w) (hq : q < n) : ∃ a c, w.cell? ⟨b, q, none⟩ = some (.slice a (L q).length c) ∧ At1 w a (aw (L q)) ∧ ∀ g o, a = some ⟨g, o, none⟩ → L q ≠ [] → S g := by
 obtain ⟨_, vs, hf, _, hr⟩ := h
 obtain ⟨a, c, h1, h2, h3⟩ := hr q hq
 exact ⟨a, c, hf.get h1, h2, h3⟩
theorem wn {s : StM} : bareM s = (decide (s.rule = -1) && decide (s.ch.length = 0)) := by
 unfold bareM
 cases s.ch <;> simp
abbrev Sm (tag : Int) (q : Nat) (how rule : Int) (ch : List (Int × Int)) : StM := ⟨tag, (q : Int), how, rule, ch⟩
section
variable {S : Nat → Prop} {N0 : Nat} {K : cG} {T : Th} {Inv : eh} {Z : Nat → Prop} {w : World} {l : bA} {v : Value} {ca : Option Addr} {cc q : Nat} {tag how rule : Int} {ch : List (Int × Int)}
theorem mR (w : World) (s : StM) (ca : Option Addr) (cc : Nat) (hl : s.ch.length ≤ 140737488351232) : Calls Tryz.prog 142 #[fR s ca cc] w fun e w' => e = .returned (.bool (bareM s)) ∧ Below w.heap.size w w' := by
 rw [wn]
 obtain ⟨t, q, h, r, ch⟩ := s
 simp only at hl ⊢
 obtain ⟨m, hm⟩ : ∃ m, ch.length = m := ⟨_, rfl⟩
 show Calls Tryz.prog 142 #[.agg #[.int .i64 t, .int .i64 q, .int .i64 h, .int .i64 r, .slice ca ch.length cc]] w _
 rw [hm] at hl ⊢
 clear hm
 have hB := ac w (.cells #[.int .i64 t, .int .i64 q, .int .i64 h, .int .i64 r, .slice ca m cc] 32)
 have hQ : Fx w.heap.size 32 [.int .i64 t, .int .i64 q, .int .i64 h, .int .i64 r, .slice ca m cc] (w.alloc (.cells #[.int .i64 t, .int .i64 q, .int .i64 h, .int .i64 r, .slice ca m cc] 32)) := heap_alloc_new w _
 have k3 := hQ.get (i := 3) rfl
 have k4 := hQ.get (i := 4) rfl
 have HB := hide hB
 clear hB hQ
 by_cases h1 : r = -1
 · have Aa : (r == -1) = true := by simp [h1]
   by_cases h2 : m = 0
   · have hO : Hid ((decide (r = -1) && decide (m = 0)) = true) := hide (by simp [h1, h2])
     rw [hO.out]
     subst h2
     subst h1
     go_enter Tryz.func142, Tryz.ntmps142
     go_wp2_with fail
     go_ret
     exact ⟨rfl, HB.out⟩
   · have hO : Hid ((decide (r = -1) && decide (m = 0)) = false) := hide (by simp [h2])
     rw [hO.out]
     have Ab : ((m : Int) == 0) = false := by simp; omega
     subst h1
     go_enter Tryz.func142, Tryz.ntmps142
     go_wp2_with fail
     go_ret
     exact ⟨rfl, HB.out⟩
 · have Aa : (r == -1) = false := by simp [h1]
   have hO : Hid ((decide (r = -1) && decide (m = 0)) = false) := hide (by simp [h1])
   rw [hO.out]
   go_enter Tryz.func142, Tryz.ntmps142
   go_wp2_with fail
   go_ret
   exact ⟨rfl, HB.out⟩
theorem sF (hI : Inv Z l w) (hN : Nd K.n Inv v) (hl : ch.length ≤ 140737488351232) :
    Calls Tryz.prog 109 #[ab K.q, fR (Sm tag q how rule ch) ca cc, v] w fun e w' => e = .returned (.bool (jR (Sm tag q how rule ch)).1) ∧ ∃ Z2, Pz Inv Z w Z2 (l ++ (jR (Sm tag q how rule ch)).2) w' := by
 have Aa := hN.st
 have Ab := hN.zl _ _ _ hI
 have hB := ac w (.cells #[.int .i64 tag, .int .i64 q, .int .i64 how, .int .i64 rule, .slice ca ch.length cc] 32)
 have hQ : Fx w.heap.size 32 [.int .i64 tag, .int .i64 q, .int .i64 how, .int .i64 rule, .slice ca ch.length cc] (w.alloc (.cells #[.int .i64 tag, .int .i64 q, .int .i64 how, .int .i64 rule, .slice ca ch.length cc] 32)) := heap_alloc_new w _
 have HP := hide ((Pz.refl hI).below Aa hB)
 have Af : Hid (¬ Z w.heap.size) := hide fun e => by have := Ab _ e; omega
 have Ad := hide Aa
 have C := hide (fun X => mR X (Sm tag q how rule ch) ca cc hl)
 have k0 := hQ.get (i := 0) rfl
 have k1 := hQ.get (i := 1) rfl
 have k2 := hQ.get (i := 2) rfl
 have k3 := hQ.get (i := 3) rfl
 have k4 := hQ.get (i := 4) rfl
 unfold jR
 obtain ⟨fn, Ae, rfl, -, -⟩ := hN.call
 clear hI hN hB hQ hl Aa Ab
 generalize bareM (Sm tag q how rule ch) = o at *
 go_enter Tryz.func109, Tryz.ntmps109
 go_upto_region 1 with fail
 generalize w.alloc (.cells #[.int .i64 tag, .int .i64 q, .int .i64 how, .int .i64 rule, .slice ca ch.length cc] 32) = w1 at *
 generalize w.heap.size = b at *
 go_wp2_with (go_at_call 142; refine (C.out _).mono ?_; rintro _ w3 ⟨rfl, hw⟩; have Ac := hide (HP.out.below Ad.out hw); clear hw)
 go_ret
 first | exact ⟨rfl, Z, by rw [List.append_nil]; exact Ac.out⟩ | exact ⟨rfl, ⟨Z, by rw [List.append_nil]; exact Ac.out⟩⟩
theorem sT (hI : Inv Z l w) (hN : Nd K.n Inv v) (hl : ch.length ≤ 140737488351232) (hqn : q < K.n) :
    Calls Tryz.prog 112 #[ab K.q, fR (Sm tag q how rule ch) ca cc, v] w fun e w' => e = .returned (.bool (jM (Sm tag q how rule ch)).1) ∧ ∃ Z2, Pz Inv Z w Z2 (l ++ (jM (Sm tag q how rule ch)).2) w' := by
 have Ab := hN.st
 have Ad := hN.zl _ _ _ hI
 have hB := ac w (.cells #[.int .i64 tag, .int .i64 q, .int .i64 how, .int .i64 rule, .slice ca ch.length cc] 32)
 have hQ : Fx w.heap.size 32 [.int .i64 tag, .int .i64 q, .int .i64 how, .int .i64 rule, .slice ca ch.length cc] (w.alloc (.cells #[.int .i64 tag, .int .i64 q, .int .i64 how, .int .i64 rule, .slice ca ch.length cc] 32)) := heap_alloc_new w _
 have HP := hide ((Pz.refl hI).below Ab hB)
 have Ah : Hid (¬ Z w.heap.size) := hide fun e => by have := Ad _ e; omega
 have Af := hide Ab
 have CB := hide (fun X => mR X (Sm tag q how rule ch) ca cc hl)
 have HQ := hide hQ
 obtain ⟨fn, Ai, rfl, hf, hc⟩ := hN.call
 have C := hide (hc Z l _ (q : Int) 1 HP.out.inv ⟨by omega, by omega, .inl rfl⟩)
 have k1 := hQ.get (i := 1) rfl
 unfold jM
 clear hI hN hB hQ hl Ad hc hqn Ab
 generalize bareM (Sm tag q how rule ch) = o at *
 go_enter Tryz.func112, Tryz.ntmps112
 go_upto_region 1 with fail
 generalize w.alloc (.cells #[.int .i64 tag, .int .i64 q, .int .i64 how, .int .i64 rule, .slice ca ch.length cc] 32) = w1 at *
 generalize w.heap.size = b at *
 go_wp2_with fail
 refine C.out.mono ?_
 rintro _ w2 ⟨rfl, Z2, Ac⟩
 have Ag := hide (HP.out.trans Ac)
 have Aa := Ac.box HQ.out Ah.out
 have k0 := Aa.get (i := 0) rfl
 have j1 := Aa.get (i := 1) rfl
 have k2 := Aa.get (i := 2) rfl
 have k3 := Aa.get (i := 3) rfl
 have k4 := Aa.get (i := 4) rfl
 clear Ac C k1 HQ Aa
 go_wp2_with (go_at_call 142; refine (CB.out _).mono ?_; rintro _ w3 ⟨rfl, hw⟩; have Ae := hide (Ag.out.below Af.out hw); clear hw)
 go_ret
 first | exact ⟨rfl, Z2, Ae.out⟩ | exact ⟨rfl, ⟨Z2, Ae.out⟩⟩
theorem mO (hT : Wt T K.n) (hX : Xr S N0 K T w) (hI : Inv Z l w) (hz : Zo S N0 Z) (hN : Nd K.n Inv v) (hl : ch.length ≤ 140737488351232) (hqn : q < K.n) :
    Calls Tryz.prog 110 #[ab K.q, fR (Sm tag q how rule ch) ca cc, v] w fun e w' => e = .returned (.bool (rowStrict T (Sm tag q how rule ch)).1) ∧ ∃ Z2, Pz Inv Z w Z2 (l ++ (rowStrict T (Sm tag q how rule ch)).2) w' := by
 have Ad := hN.st
 have Ae := hN.zl _ _ _ hI
 have hB := ac w (.cells #[.int .i64 tag, .int .i64 q, .int .i64 how, .int .i64 rule, .slice ca ch.length cc] 32)
 have hQ : Fx w.heap.size 32 [.int .i64 tag, .int .i64 q, .int .i64 how, .int .i64 rule, .slice ca ch.length cc] (w.alloc (.cells #[.int .i64 tag, .int .i64 q, .int .i64 how, .int .i64 rule, .slice ca ch.length cc] 32)) := heap_alloc_new w _
 have HP := hide ((Pz.refl hI).below Ad hB)
 have Ap : Hid (¬ Z w.heap.size) := hide fun e => by have := Ae _ e; omega
 have Ac := hide Ad
 have Ab := hX.go hB
 obtain ⟨a, c, r0, Ah, -⟩ := LL.row Ab.s hqn
 have b4 := Ab.bx.get (i := 4) rfl
 have Af : (ae T kS q).length ≤ 140737488351232 := Nat.le_trans bC (Nat.le_trans hT.rl (by decide))
 have CC : Hid (∀ X : World, X.heap = (w.alloc (.cells #[.int .i64 tag, .int .i64 q, .int .i64 how, .int .i64 rule, .slice ca ch.length cc] 32)).heap → Calls Tryz.prog 143 #[.slice a (ae T kS q).length c, .int .i64 rule] X fun e w' => e = .returned (.bool (decide (rule ∈ ae T kS q))) ∧ w' = X) := hide fun X hX => fg (fun i v hi => by obtain ⟨g, o, e, hc⟩ := Ah i v hi; exact ⟨g, o, e, (World.cell?_of_block (by rw [hX])).trans hc⟩) Af oq
 have HM : Hid (rule ∈ ae T kS q → Rn T rule) := hide fun h => eq (eI h)
 have Al := hide (hT.body (t := 1) (.inl rfl) rule)
 have HX := hide Ab
 have HZ := hide hz
 have HN := hide hN
 have k1 := hQ.get (i := 1) rfl
 have k3 := hQ.get (i := 3) rfl
 have k4 := hQ.get (i := 4) rfl
 have Aj : Hid (∀ m, ((w.alloc (.cells #[.int .i64 tag, .int .i64 q, .int .i64 how, .int .i64 rule, .slice ca ch.length cc] 32)).drewN m).cell? ⟨w.heap.size, 3, none⟩ = some (.int .i64 rule)) := hide fun m => k3
 have HR : Hid (rowStrict T (Sm tag q how rule ch) = if rule ∈ ae T kS q ∧ ch = [] then (true, ew T rule 1) else (false, [])) := hide rfl
 generalize rowStrict T (Sm tag q how rule ch) = o at *
 obtain ⟨fn, Am, rfl, -, -⟩ := hN.call
 clear hI hN hB hQ Ae Ad hX Ab Ah Af hT hz
 generalize (ae T kS q).length = sl at *
 generalize hin : decide (rule ∈ ae T kS q) = inn at *
 go_enter Tryz.func110, Tryz.ntmps110
 go_upto_region 1 with fail
 generalize w.alloc (.cells #[.int .i64 tag, .int .i64 q, .int .i64 how, .int .i64 rule, .slice ca ch.length cc] 32) = w1 at *
 generalize w.heap.size = b at *
 cases inn with
 | false =>
  have HO : Hid (o = (false, [])) := hide (by rw [HR.out, if_neg (fun h => of_decide_eq_false hin h.1)])
  clear hin HR HM
  go_quiet ((go_at_call 143; exact Calls.quiet_of_same (CC.out _ rfl)))
  have HD := hide (fun m => HP.out.below Ac.out (ah w1 m))
  go_wp2_with fail
  go_ret
  rw [HO.out]
  first | exact ⟨rfl, _, by rw [List.append_nil]; exact HD.out _⟩ | exact ⟨rfl, ⟨_, by rw [List.append_nil]; exact HD.out _⟩⟩
 | true =>
  have Aa := of_decide_eq_true hin
  cases ch with
  | cons c0 cs =>
   have HO : Hid (o = (false, [])) := hide (by rw [HR.out, if_neg (fun h => by cases h.2)])
   have Ao : decide ((0 : Int) < ((c0 :: cs).length : Int)) = true := by simp
   have Aq : decide (0 < (c0 :: cs).length) = true := by simp
   clear hin HR HM
   generalize (c0 :: cs).length = mm at *
   go_quiet ((go_at_call 143; exact Calls.quiet_of_same (CC.out _ rfl)))
   have HD := hide (fun m => HP.out.below Ac.out (ah w1 m))
   go_wp2_with fail
   go_ret
   rw [HO.out]
   first | exact ⟨rfl, _, by rw [List.append_nil]; exact HD.out _⟩ | exact ⟨rfl, ⟨_, by rw [List.append_nil]; exact HD.out _⟩⟩
  | nil =>
   obtain ⟨p, x, rfl, hx⟩ := HM.out Aa
   have HO : Hid (o = (true, ew T p 1)) := hide (by rw [HR.out, if_pos ⟨Aa, rfl⟩])
   have HXr := hide hx
   clear hin HR HM Aa hx
   go_quiet ((go_at_call 143; exact Calls.quiet_of_same (CC.out _ rfl)))
   rename Nat => n1
   have HD := hide (HP.out.below Ac.out (ah w1 n1))
   have Ak := hide (HX.out.go (ah w1 n1))
   have An := Aj.out n1
   clear k1 k3 k4 CC HP HX Aj r0 b4
   generalize w1.drewN n1 = w2 at *
   have C := hide (fZ Ak.out HD.out.inv HZ.out HN.out HXr.out Al.out)
   go_wp2_with (go_at_call 144; refine C.out.mono ?_; rintro _ w3 ⟨rfl, Z3, Ai⟩; have Ag := hide (HD.out.trans Ai); clear Ai C)
   go_ret
   rw [HO.out]
   first | exact ⟨rfl, Z3, Ag.out⟩ | exact ⟨rfl, ⟨Z3, Ag.out⟩⟩
end
set_option maxRecDepth 100000
set_option maxHeartbeats 6400000
abbrev S5 (p0 p1 p2 p3 p4 : Addr) (u0 u1 u2 u3 u4 : Value) (X : World) : Prop := X.cell? p0 = some u0 ∧ X.cell? p1 = some u1 ∧ X.cell? p2 = some u2 ∧ X.cell? p3 = some u3 ∧ X.cell? p4 = some u4
theorem S5.drew {p0 p1 p2 p3 p4 : Addr} {u0 u1 u2 u3 u4 : Value} {X : World} (h : S5 p0 p1 p2 p3 p4 u0 u1 u2 u3 u4 X) : S5 p0 p1 p2 p3 p4 u0 u1 u2 u3 u4 X.drew := h
section
variable {Inv : eh} {Z0 Z2 : Nat → Prop} {w0 X : World} {l2 : bA} {S : Nat → Prop} {N0 : Nat}
theorem dL {p : Addr} {u : Value} (hp : Pz Inv Z0 w0 Z2 l2 X) (h : w0.cell? p = some u) (hz : ¬ Z0 p.block) : X.cell? p = some u := (World.cell?_of_block (hp.fr.block p.block (World.block_lt_of_cell? w0 _ h) hz)).trans h
theorem Zo.no (h : Zo S N0 Z0) {g : Nat} (hg : S g) : ¬ Z0 g := fun e => (h g e).1 hg
theorem S5.pz {p0 p1 p2 p3 p4 : Addr} {u0 u1 u2 u3 u4 : Value} (h : S5 p0 p1 p2 p3 p4 u0 u1 u2 u3 u4 w0) (hp : Pz Inv Z0 w0 Z2 l2 X) (z0 : ¬ Z0 p0.block) (z1 : ¬ Z0 p1.block) (z2 : ¬ Z0 p2.block) (z3 : ¬ Z0 p3.block) (z4 : ¬ Z0 p4.block) : S5 p0 p1 p2 p3 p4 u0 u1 u2 u3 u4 X :=
 ⟨dL hp h.1 z0, dL hp h.2.1 z1, dL hp h.2.2.1 z2, dL hp h.2.2.2.1 z3, dL hp h.2.2.2.2 z4⟩
end
theorem LL.blk {S : Nat → Prop} {L : Int → List Int} {n b : Nat} {w : World} (h : LL S L n b w) : S b := h.1
section
variable {S : Nat → Prop} {N0 : Nat} {K : cG} {T : Th} {Inv : eh} {Z : Nat → Prop} {w : World} {l : bA} {v : Value} {ca : Option Addr} {cc q : Nat} {tag how rule : Int} {ch : List (Int × Int)}
theorem nT (hT : Wt T K.n) (hX : Xr S N0 K T w) (hI : Inv Z l w) (hz : Zo S N0 Z) (hN : Nd K.n Inv v) (hqn : q < K.n) (hca : Chs w ca ch) (zca : ∀ g o, ca = some ⟨g, o, none⟩ → ch ≠ [] → ¬ Z g) :
    Calls Tryz.prog 111 #[ab K.q, fR (Sm tag q how rule ch) ca cc, v] w fun e w' => e = .returned (.bool (rowNoStrict T (Sm tag q how rule ch)).1) ∧ ∃ Z2, Pz Inv Z w Z2 (l ++ (rowNoStrict T (Sm tag q how rule ch)).2) w' := by
 have Ac := hN.st
 have Ai := hN.zl _ _ _ hI
 have hB := ac w (.cells #[.int .i64 tag, .int .i64 q, .int .i64 how, .int .i64 rule, .slice ca ch.length cc] 32)
 have hQ : Fx w.heap.size 32 [.int .i64 tag, .int .i64 q, .int .i64 how, .int .i64 rule, .slice ca ch.length cc] (w.alloc (.cells #[.int .i64 tag, .int .i64 q, .int .i64 how, .int .i64 rule, .slice ca ch.length cc] 32)) := heap_alloc_new w _
 have HP := hide ((Pz.refl hI).below Ac hB)
 have Ag : Hid (¬ Z w.heap.size) := hide fun e => by have := Ai _ e; omega
 have Ab := hide Ac
 have HX := hide (hX.go hB)
 have HQ := hide hQ
 have HT := hide hT
 have HZ := hide hz
 have HN := hide hN
 have Ah := hide hqn
 have Ar := hide (hca.go hB)
 have Am := hide zca
 have Ap : (ae T kS q).length ≤ 140737488351232 := Nat.le_trans bC (Nat.le_trans hT.rl (by decide))
 have An : Hid (∀ r ∈ ae T kS q, Rn T r) := hide fun r hr => eq (eI hr)
 have Ad : Hid (rule = -1 → rowNoStrict T (Sm tag q how rule ch) = eachM (refX T 2) (ae T kS q) ch) := hide fun h => by unfold rowNoStrict; rw [if_pos h]
 have Ae : Hid (rule ≠ -1 → rowNoStrict T (Sm tag q how rule ch) = (false, [])) := hide fun h => by unfold rowNoStrict; rw [if_neg h]
 generalize rowNoStrict T (Sm tag q how rule ch) = o at *
 obtain ⟨Au, At, rfl, -, -⟩ := hN.call
 clear hI hN hB hQ Ai Ac hX hT hz hqn hca zca 
 go_enter Tryz.func111, Tryz.ntmps111
 go_upto_region 1 with fail
 generalize w.alloc (.cells #[.int .i64 tag, .int .i64 q, .int .i64 how, .int .i64 rule, .slice ca ch.length cc] 32) = w1 at *
 generalize w.heap.size = b at *
 have k3 := HQ.out.get (i := 3) rfl
 by_cases h1 : rule = -1
 · subst h1
   have Aa : Below w1.heap.size w1 w1.drew := (Below.refl _ _).drew
   obtain ⟨a, c, r0, Ak, Aj⟩ := LL.row HX.out.s Ah.out
   have Al := gP (rc := c) (cc := cc) HT.out (HX.out.go Aa) (HP.out.below Ab.out Aa).inv HZ.out HN.out (t := 2) (.inr (.inl rfl)) (Ak.below Aa) (fun g o e hne => HZ.out.no (Aj g o e hne)) (Ar.out.go Aa) Am.out Ap An.out
   have C := hide Al
   have Ao := hide (HP.out.below Ab.out Aa)
   have h5 : S5 ⟨b, 1, none⟩ ⟨b, 3, none⟩ ⟨b, 4, none⟩ ⟨K.q, 4, none⟩ ⟨K.g0, q, none⟩ (.int .i64 q) (.int .i64 (-1)) (.slice ca ch.length cc) (az K.g0 K.n) (.slice a (ae T kS q).length c) w1 := ⟨HQ.out.get (i := 1) rfl, HQ.out.get (i := 3) rfl, HQ.out.get (i := 4) rfl, HX.out.bx.get (i := 4) rfl, r0⟩
   have As : Hid (∀ X Z2 l2, Pz Inv Z w1.drew Z2 l2 X → S5 ⟨b, 1, none⟩ ⟨b, 3, none⟩ ⟨b, 4, none⟩ ⟨K.q, 4, none⟩ ⟨K.g0, q, none⟩ (.int .i64 q) (.int .i64 (-1)) (.slice ca ch.length cc) (az K.g0 K.n) (.slice a (ae T kS q).length c) X) := hide fun X Z2 l2 hp => S5.pz (w0 := w1.drew) h5 hp Ag.out Ag.out Ag.out (HZ.out.no HX.out.sq) (HZ.out.no (LL.blk HX.out.s))
   have hqn := Ah.out
   clear k3 Ak Aj r0 Al Aa
   have HR : Hid (o = eachM (refX T 2) (ae T kS q) ch) := hide (Ad.out rfl)
   clear Ad Ae
   generalize eachM (refX T 2) (ae T kS q) ch = er at *
   generalize (ae T kS q).length = sl at *
   go_region_held3 (fun X : World => S5 ⟨b, 1, none⟩ ⟨b, 3, none⟩ ⟨b, 4, none⟩ ⟨K.q, 4, none⟩ ⟨K.g0, q, none⟩ (.int .i64 q) (.int .i64 (-1)) (.slice ca ch.length cc) (az K.g0 K.n) (.slice a sl c) X) (first | exact S5.drew ‹_› | assumption) (first | (go_at_call 145; refine C.out.mono ?_; rintro e w' ⟨rfl, Z3, Aq⟩; have Av := As.out _ _ _ Aq))
   all_goals
    go_wp2_with fail
    go_ret
    rw [HR.out]
    have Af := Ao.out.trans (by assumption)
    first | exact ⟨rfl, _, by simpa using Af⟩ | exact ⟨rfl, ⟨_, by simpa using Af⟩⟩
 · have Aw : (rule == -1) = false := by simp [h1]
   have HR : Hid (o = (false, [])) := hide (Ae.out h1)
   clear Ad Ae
   go_quiet (fail)
   have HD := hide (fun m => HP.out.below Ab.out (ah w1 m))
   go_wp2_with fail
   go_ret
   rw [HR.out]
   first | exact ⟨rfl, _, by simpa using HD.out _⟩ | exact ⟨rfl, ⟨_, by simpa using HD.out _⟩⟩
theorem qt (hT : Wt T K.n) (hX : Xr S N0 K T w) (hI : Inv Z l w) (hz : Zo S N0 Z) (hN : Nd K.n Inv v) (hqn : q < K.n) (hca : Chs w ca ch) (zca : ∀ g o, ca = some ⟨g, o, none⟩ → ch ≠ [] → ¬ Z g) :
    Calls Tryz.prog 114 #[ab K.q, fR (Sm tag q how rule ch) ca cc, v] w fun e w' => e = .returned (.bool (rowNoRule T (Sm tag q how rule ch)).1) ∧ ∃ Z2, Pz Inv Z w Z2 (l ++ (rowNoRule T (Sm tag q how rule ch)).2) w' := by
 have Ai := hN.st
 have Aq := hN.zl _ _ _ hI
 have hB := ac w (.cells #[.int .i64 tag, .int .i64 q, .int .i64 how, .int .i64 rule, .slice ca ch.length cc] 32)
 have hQ : Fx w.heap.size 32 [.int .i64 tag, .int .i64 q, .int .i64 how, .int .i64 rule, .slice ca ch.length cc] (w.alloc (.cells #[.int .i64 tag, .int .i64 q, .int .i64 how, .int .i64 rule, .slice ca ch.length cc] 32)) := heap_alloc_new w _
 have HP := hide ((Pz.refl hI).below Ai hB)
 have An : Hid (¬ Z w.heap.size) := hide fun e => by have := Aq _ e; omega
 have Ag := hide Ai
 obtain ⟨AD, AC, hv, hf, hc⟩ := hN.call
 have CA := hide (hc Z l _ (q : Int) 2 HP.out.inv ⟨by omega, by omega, .inr (.inl rfl)⟩)
 have k1 := hQ.get (i := 1) rfl
 have HX := hide (hX.go hB)
 have HQ := hide hQ
 have HT := hide hT
 have HZ := hide hz
 have HN := hide hN
 have Ap := hide hqn
 have Ao := hide (hca.go hB)
 have Ah := hide zca
 have Az : (ae T kT q).length ≤ 140737488351232 := Nat.le_trans bC (Nat.le_trans hT.rl (by decide))
 have Ax : Hid (∀ r ∈ ae T kT q, Rn T r) := hide fun r hr => eq (eI hr)
 have Ak : Hid (rule = -1 → rowNoRule T (Sm tag q how rule ch) = ((eachM (refX T 4) (ae T kT q) ch).1, ((q : Int), 2) :: (eachM (refX T 4) (ae T kT q) ch).2)) := hide fun h => by unfold rowNoRule; rw [if_pos h]
 have Al : Hid (rule ≠ -1 → rowNoRule T (Sm tag q how rule ch) = (false, [((q : Int), 2)])) := hide fun h => by unfold rowNoRule; rw [if_neg h]
 generalize rowNoRule T (Sm tag q how rule ch) = o at *
 subst hv
 clear hI hN hB hQ Aq Ai hX hT hz hqn hca zca hc
 go_enter Tryz.func114, Tryz.ntmps114
 go_upto_region 1 with fail
 generalize w.alloc (.cells #[.int .i64 tag, .int .i64 q, .int .i64 how, .int .i64 rule, .slice ca ch.length cc] 32) = w1 at *
 generalize w.heap.size = b at *
 go_upto_region 2 with fail
 refine CA.out.mono ?_
 rintro _ w2 ⟨rfl, ZA, Aa⟩
 have Aj := hide (HP.out.trans Aa)
 have Ac := hide (Aa.xr HX.out HZ.out)
 have Af := hide (HZ.out.next HX.out Aa)
 have Ae := hide (Aa.box HQ.out An.out)
 have Ad : Hid (¬ ZA b) := hide fun e => by
  rcases Aa.zn _ e with e | e
  · exact An.out e
  · have := HQ.out.lt; omega
 have Av := hide (Ao.out.pz Ah.out Aa)
 have Au : Hid (∀ g o, ca = some ⟨g, o, none⟩ → ch ≠ [] → ¬ ZA g) := hide fun g o e hne ez => by
  rcases Aa.zn _ ez with e2 | e2
  · exact Ah.out g o e hne e2
  · obtain ⟨c0, Aw⟩ := am (l := ch) (i := 0) (by cases ch with | nil => exact absurd rfl hne | cons => simp)
    obtain ⟨g', o', e', k, -⟩ := Ao.out 0 c0 Aw
    rw [e] at e'
    cases e'
    have := World.block_lt_of_cell? _ _ k
    simp only at this
    omega
 clear Aa CA k1 HX HZ HQ An Ao Ah HP
 go_wp2_with fail
 have k3 := Ae.out.get (i := 3) rfl
 by_cases h1 : rule = -1
 · subst h1
   have Ab : Below w2.heap.size w2 w2.drew := (Below.refl _ _).drew
   obtain ⟨a, c, r0, As, Ar⟩ := LL.row Ac.out.t Ap.out
   have At := gP (rc := c) (cc := cc) HT.out (Ac.out.go Ab) (Aj.out.below Ag.out Ab).inv Af.out HN.out (t := 4) (.inr (.inr (.inr rfl))) (As.below Ab) (fun g o e hne => Af.out.no (Ar g o e hne)) (Av.out.go Ab) Au.out Az Ax.out
   have C := hide At
   have Ay := hide (Aj.out.below Ag.out Ab)
   have h5 : S5 ⟨b, 1, none⟩ ⟨b, 3, none⟩ ⟨b, 4, none⟩ ⟨K.q, 5, none⟩ ⟨K.g1, q, none⟩ (.int .i64 q) (.int .i64 (-1)) (.slice ca ch.length cc) (az K.g1 K.n) (.slice a (ae T kT q).length c) w2 := ⟨Ae.out.get (i := 1) rfl, Ae.out.get (i := 3) rfl, Ae.out.get (i := 4) rfl, Ac.out.bx.get (i := 5) rfl, r0⟩
   have AB : Hid (∀ X Z2 l2, Pz Inv ZA w2.drew Z2 l2 X → S5 ⟨b, 1, none⟩ ⟨b, 3, none⟩ ⟨b, 4, none⟩ ⟨K.q, 5, none⟩ ⟨K.g1, q, none⟩ (.int .i64 q) (.int .i64 (-1)) (.slice ca ch.length cc) (az K.g1 K.n) (.slice a (ae T kT q).length c) X) := hide fun X Z2 l2 hp => S5.pz (w0 := w2.drew) h5 hp Ad.out Ad.out Ad.out (Af.out.no Ac.out.sq) (Af.out.no (LL.blk Ac.out.t))
   have hqn := Ap.out
   clear k3 As Ar r0 At Ab
   have HR : Hid (o = ((eachM (refX T 4) (ae T kT q) ch).1, ((q : Int), 2) :: (eachM (refX T 4) (ae T kT q) ch).2)) := hide (Ak.out rfl)
   clear Ak Al
   generalize eachM (refX T 4) (ae T kT q) ch = er at *
   generalize (ae T kT q).length = sl at *
   go_region_held3 (fun X : World => S5 ⟨b, 1, none⟩ ⟨b, 3, none⟩ ⟨b, 4, none⟩ ⟨K.q, 5, none⟩ ⟨K.g1, q, none⟩ (.int .i64 q) (.int .i64 (-1)) (.slice ca ch.length cc) (az K.g1 K.n) (.slice a sl c) X) (first | exact S5.drew ‹_› | assumption) (first | (go_at_call 145; refine C.out.mono ?_; rintro e w' ⟨rfl, Z3, AA⟩; have AE := AB.out _ _ _ AA))
   all_goals
    go_wp2_with fail
    go_ret
    rw [HR.out]
    have Am := Ay.out.trans (by assumption)
    first | exact ⟨rfl, _, by simpa using Am⟩ | exact ⟨rfl, ⟨_, by simpa using Am⟩⟩
 · have AF : (rule == -1) = false := by simp [h1]
   have HR : Hid (o = (false, [((q : Int), 2)])) := hide (Al.out h1)
   clear Ak Al
   go_quiet (fail)
   have HD := hide (fun m => Aj.out.below Ag.out (ah w2 m))
   go_wp2_with fail
   go_ret
   rw [HR.out]
   first | exact ⟨rfl, _, by simpa using HD.out _⟩ | exact ⟨rfl, ⟨_, by simpa using HD.out _⟩⟩
end
set_option maxRecDepth 100000
set_option maxHeartbeats 6400000
section
variable {S : Nat → Prop} {N0 : Nat} {K : cG} {T : Th} {Inv : eh} {Z : Nat → Prop} {w : World} {l : bA} {v : Value} {ca : Option Addr} {cc q : Nat} {tag how rule : Int} {ch : List (Int × Int)}
theorem bS {l2 : List Int} (h : T.foes[q]? = some l2) : row T.foes (q : Int) = l2 := by unfold row; rw [Int.toNat_natCast, List.getD_eq_getElem?_getD, h]; rfl
theorem mT (hT : Wt T K.n) (hX : Xr S N0 K T w) (hI : Inv Z l w) (hz : Zo S N0 Z) (hN : Nd K.n Inv v) (hl : ch.length ≤ 140737488351232) (hqn : q < K.n) :
    Calls Tryz.prog 115 #[ab K.q, fR (Sm tag q how rule ch) ca cc, v] w fun e w' => e = .returned (.bool (rowFoe T (Sm tag q how rule ch)).1) ∧ ∃ Z2, Pz Inv Z w Z2 (l ++ (rowFoe T (Sm tag q how rule ch)).2) w' := by
 have Ag := hN.st
 have Aq := hN.zl _ _ _ hI
 have hB := ac w (.cells #[.int .i64 tag, .int .i64 q, .int .i64 how, .int .i64 rule, .slice ca ch.length cc] 32)
 have hQ : Fx w.heap.size 32 [.int .i64 tag, .int .i64 q, .int .i64 how, .int .i64 rule, .slice ca ch.length cc] (w.alloc (.cells #[.int .i64 tag, .int .i64 q, .int .i64 how, .int .i64 rule, .slice ca ch.length cc] 32)) := heap_alloc_new w _
 have HP := hide ((Pz.refl hI).below Ag hB)
 have Av : Hid (¬ Z w.heap.size) := hide fun e => by have := Aq _ e; omega
 have Af := hide Ag
 have Ae := hX.go hB
 obtain ⟨fl, Aa⟩ := am (l := T.foes) (i := q) (by rw [hT.fl]; exact hqn)
 have Ab := bS Aa
 obtain ⟨gf, of, a, c, Ar, AA, r0, -, At, Ap⟩ := d8 Ae.ta.foes Aa
 have b1 := Ae.bx.get (i := 1) rfl
 rw [Ar] at b1
 have Aw : q < T.foes.length := (List.getElem?_eq_some_iff.1 Aa).1
 have Ay := Ae.ta.foes.lim
 have Ak := (hT.fp q hqn).1
 have Ac := hT.fo q hqn
 rw [Ab] at Ak Ac
 have As := Ap.at1
 have CC : Hid (∀ X : World, X.heap = (w.alloc (.cells #[.int .i64 tag, .int .i64 q, .int .i64 how, .int .i64 rule, .slice ca ch.length cc] 32)).heap → Calls Tryz.prog 143 #[.slice a fl.length c, .int .i64 rule] X fun e w' => e = .returned (.bool (decide (rule ∈ fl))) ∧ w' = X) := hide fun X hX => fg (fun i v hi => by obtain ⟨g, o, e, hc⟩ := As i v hi; exact ⟨g, o, e, (World.cell?_of_block (by rw [hX])).trans hc⟩) At Ak
 have HM := hide Ac
 have HQ := hide hQ
 have HZ := hide hz
 have k1 := hQ.get (i := 1) rfl
 have k3 := hQ.get (i := 3) rfl
 have k4 := hQ.get (i := 4) rfl
 have HR : Hid (rowFoe T (Sm tag q how rule ch) = if rule ∈ fl ∧ ch = [] then (true, [((q : Int), 2), (rule, 1)]) else (false, [])) := hide (by unfold rowFoe; rw [Ab])
 have Au := hide hqn
 generalize rowFoe T (Sm tag q how rule ch) = o at *
 obtain ⟨fn, Ax, rfl, hf, hc⟩ := hN.call
 have HC := hide hc
 clear hI hN hB hQ Aq Ag hX Ae As hT hz Ap Ak Ac Ar Aa Ab hc hqn
 generalize fl.length = sl at *
 generalize hin : decide (rule ∈ fl) = inn at *
 go_enter Tryz.func115, Tryz.ntmps115
 go_upto_region 1 with fail
 generalize w.alloc (.cells #[.int .i64 tag, .int .i64 q, .int .i64 how, .int .i64 rule, .slice ca ch.length cc] 32) = w1 at *
 generalize w.heap.size = b at *
 cases inn with
 | false =>
  have HO : Hid (o = (false, [])) := hide (by rw [HR.out, if_neg (fun h => of_decide_eq_false hin h.1)])
  clear hin HR HM
  go_quiet ((go_at_call 143; exact Calls.quiet_of_same (CC.out _ rfl)))
  have HD := hide (fun m => HP.out.below Af.out (ah w1 m))
  go_wp2_with fail
  go_ret
  rw [HO.out]
  first | exact ⟨rfl, _, by rw [List.append_nil]; exact HD.out _⟩ | exact ⟨rfl, ⟨_, by rw [List.append_nil]; exact HD.out _⟩⟩
 | true =>
  have Ad := of_decide_eq_true hin
  cases ch with
  | cons c0 cs =>
   have HO : Hid (o = (false, [])) := hide (by rw [HR.out, if_neg (fun h => by cases h.2)])
   have AB : decide ((0 : Int) < ((c0 :: cs).length : Int)) = true := by simp
   have Az : decide (0 < (c0 :: cs).length) = true := by simp
   clear hin HR HM
   generalize (c0 :: cs).length = mm at *
   go_quiet ((go_at_call 143; exact Calls.quiet_of_same (CC.out _ rfl)))
   have HD := hide (fun m => HP.out.below Af.out (ah w1 m))
   go_wp2_with fail
   go_ret
   rw [HO.out]
   first | exact ⟨rfl, _, by rw [List.append_nil]; exact HD.out _⟩ | exact ⟨rfl, ⟨_, by rw [List.append_nil]; exact HD.out _⟩⟩
  | nil =>
   have Ao := hide (HM.out rule Ad)
   have HO : Hid (o = (true, [((q : Int), 2), (rule, 1)])) := hide (by rw [HR.out, if_pos ⟨Ad, rfl⟩])
   clear hin HR HM Ad
   go_quiet ((go_at_call 143; exact Calls.quiet_of_same (CC.out _ rfl)))
   rename Nat => n1
   have HD := hide (HP.out.below Af.out (ah w1 n1))
   have Ah := hide (HQ.out.keep (w' := w1.drewN n1) rfl)
   clear k1 k3 k4 CC HP r0 b1 HQ
   generalize w1.drewN n1 = w2 at *
   have k1 := Ah.out.get (i := 1) rfl
   have C := hide (HC.out Z l w2 (q : Int) 2 HD.out.inv ⟨by omega, by have := Au.out; omega, .inr (.inl rfl)⟩)
   go_wp2_with fail
   refine C.out.mono ?_
   rintro _ w3 ⟨rfl, Z3, Aj⟩
   have Ai := hide (HD.out.trans Aj)
   have Am := hide (Aj.box Ah.out Av.out)
   clear Aj C k1 Ah HD
   have k3 := Am.out.get (i := 3) rfl
   have C := hide (HC.out Z3 _ w3 rule 1 Ai.out.inv ⟨Ao.out.1, Ao.out.2, .inl rfl⟩)
   go_wp2_with fail
   refine C.out.mono ?_
   rintro _ w4 ⟨rfl, Z4, An⟩
   have Al := hide (Ai.out.trans An)
   clear An C k3 Am Ai
   go_wp2_with fail
   go_ret
   rw [HO.out]
   first | exact ⟨rfl, Z4, by simpa using Al.out⟩ | exact ⟨rfl, ⟨Z4, by simpa using Al.out⟩⟩
theorem ow (hT : Wt T K.n) (hX : Xr S N0 K T w) (hI : Inv Z l w) (hz : Zo S N0 Z) (hN : Nd K.n Inv v) (hqn : q < K.n) (hca : Chs w ca ch) (zca : ∀ g o, ca = some ⟨g, o, none⟩ → ch ≠ [] → ¬ Z g) :
    Calls Tryz.prog 116 #[ab K.q, fR (Sm tag q how rule ch) ca cc, v] w fun e w' => e = .returned (.bool (rowBeaten T (Sm tag q how rule ch)).1) ∧ ∃ Z2, Pz Inv Z w Z2 (l ++ (rowBeaten T (Sm tag q how rule ch)).2) w' := by
 have Al := hN.st
 have Au := hN.zl _ _ _ hI
 have hB := ac w (.cells #[.int .i64 tag, .int .i64 q, .int .i64 how, .int .i64 rule, .slice ca ch.length cc] 32)
 have hQ : Fx w.heap.size 32 [.int .i64 tag, .int .i64 q, .int .i64 how, .int .i64 rule, .slice ca ch.length cc] (w.alloc (.cells #[.int .i64 tag, .int .i64 q, .int .i64 how, .int .i64 rule, .slice ca ch.length cc] 32)) := heap_alloc_new w _
 have HP := hide ((Pz.refl hI).below Al hB)
 have Ap : Hid (¬ Z w.heap.size) := hide fun e => by have := Au _ e; omega
 have Ah := hide Al
 have Ak := hX.go hB
 obtain ⟨a, c, r0, Aw, -⟩ := LL.row Ak.a hqn
 have b6 := Ak.bx.get (i := 6) rfl
 have Ae : (aS T q).length ≤ 140737488351232 := Nat.le_trans iJ (Nat.le_trans hT.rl (by decide))
 have CC : Hid (∀ X : World, X.heap = (w.alloc (.cells #[.int .i64 tag, .int .i64 q, .int .i64 how, .int .i64 rule, .slice ca ch.length cc] 32)).heap → Calls Tryz.prog 143 #[.slice a (aS T q).length c, .int .i64 rule] X fun e w' => e = .returned (.bool (decide (rule ∈ aS T q))) ∧ w' = X) := hide fun X hX => fg (fun i v hi => by obtain ⟨g, o, e, hc⟩ := Aw i v hi; exact ⟨g, o, e, (World.cell?_of_block (by rw [hX])).trans hc⟩) Ae yT
 have HM : Hid (rule ∈ aS T q → Rn T rule) := hide fun h => eq (ny h)
 have AE := hide (hT.body (t := 3) (.inr (.inr (.inl rfl))) rule)
 have HX := hide Ak
 have HZ := hide hz
 have HN := hide hN
 have HT := hide hT
 have HQ := hide hQ
 have Az := hide (hca.go hB)
 have Aq := hide zca
 have k1 := hQ.get (i := 1) rfl
 have k3 := hQ.get (i := 3) rfl
 have HR : Hid (rowBeaten T (Sm tag q how rule ch) = if rule ∈ aS T q then ((eachM (refX T 4) (bg T q rule) ch).1, ((q : Int), 2) :: ew T rule 3 ++ (eachM (refX T 4) (bg T q rule) ch).2) else (false, [])) := hide rfl
 have As := hide hqn
 generalize rowBeaten T (Sm tag q how rule ch) = o at *
 obtain ⟨fn, AM, rfl, hf, hc⟩ := hN.call
 have HC := hide hc
 clear hI hN hB hQ Au Al hX Ak Aw Ae hT hz hc hca zca
 generalize (aS T q).length = sl at *
 generalize hin : decide (rule ∈ aS T q) = inn at *
 go_enter Tryz.func116, Tryz.ntmps116
 go_upto_region 1 with fail
 generalize w.alloc (.cells #[.int .i64 tag, .int .i64 q, .int .i64 how, .int .i64 rule, .slice ca ch.length cc] 32) = w1 at *
 generalize w.heap.size = b at *
 cases inn with
 | false =>
  have HO : Hid (o = (false, [])) := hide (by rw [HR.out, if_neg (of_decide_eq_false hin)])
  clear hin HR HM
  go_quiet ((go_at_call 143; exact Calls.quiet_of_same (CC.out _ rfl)))
  have HD := hide (fun m => HP.out.below Ah.out (ah w1 m))
  go_wp2_with fail
  go_ret
  rw [HO.out]
  first | exact ⟨rfl, _, by rw [List.append_nil]; exact HD.out _⟩ | exact ⟨rfl, ⟨_, by rw [List.append_nil]; exact HD.out _⟩⟩
 | true =>
  have Ag := of_decide_eq_true hin
  obtain ⟨p, x, rfl, hx⟩ := HM.out Ag
  have HO : Hid (o = ((eachM (refX T 4) (bg T q p) ch).1, ((q : Int), 2) :: ew T p 3 ++ (eachM (refX T 4) (bg T q p) ch).2)) := hide (by rw [HR.out, if_pos Ag])
  have HXr := hide hx
  clear hin HR HM Ag hx
  go_quiet ((go_at_call 143; exact Calls.quiet_of_same (CC.out _ rfl)))
  rename Nat => n1
  have HD := hide (HP.out.below Ah.out (ah w1 n1))
  have Ai := hide (HX.out.go (ah w1 n1))
  have Aj := hide (HQ.out.keep (w' := w1.drewN n1) rfl)
  have Am := hide (Az.out.go (ah w1 n1))
  clear k1 k3 CC HP HX r0 b6 HQ Az hqn
  generalize w1.drewN n1 = w2 at *
  have k1 := Aj.out.get (i := 1) rfl
  have C := hide (HC.out Z l w2 (q : Int) 2 HD.out.inv ⟨by omega, by have := As.out; omega, .inr (.inl rfl)⟩)
  go_wp2_with fail
  refine C.out.mono ?_
  rintro _ w3 ⟨rfl, Z3, Af⟩
  have AA := hide Af
  have AG := hide (Af.box Aj.out Ap.out)
  have AH := hide (Af.xr Ai.out HZ.out)
  have AJ := hide (HZ.out.next Ai.out Af)
  clear Af C k1
  have k3 := AG.out.get (i := 3) rfl
  have C := hide (fZ AH.out AA.out.inv AJ.out HN.out HXr.out AE.out)
  go_upto_region 5 with (go_at_call 144; refine C.out.mono ?_; rintro _ w4 ⟨rfl, Z4, Ar⟩; have Aa := hide (AA.out.trans Ar); clear Ar C)
  have Ad := hide (Aa.out.box Aj.out Ap.out)
  have At := hide (Aa.out.xr Ai.out HZ.out)
  have AB := hide (HZ.out.next Ai.out Aa.out)
  have AC := hide (Am.out.pz Aq.out Aa.out)
  have Ab : Hid (¬ Z4 b) := hide fun e => by
   rcases Aa.out.zn _ e with e | e
   · exact Ap.out e
   · have := Aj.out.lt; omega
  have AD : Hid (∀ g o, ca = some ⟨g, o, none⟩ → ch ≠ [] → ¬ Z4 g) := hide fun g o e hne ez => by
   rcases Aa.out.zn _ ez with e2 | e2
   · exact Aq.out g o e hne e2
   · obtain ⟨c0, AF⟩ := am (l := ch) (i := 0) (by cases ch with | nil => exact absurd rfl hne | cons => simp)
     obtain ⟨g', o', e', k, -⟩ := Am.out 0 c0 AF
     rw [e] at e'
     cases e'
     have := World.block_lt_of_cell? _ _ k
     simp only at this
     omega
  have Ac : Below w4.heap.size w4 w4.drew := (Below.refl _ _).drew
  obtain ⟨a2, c2, An, Av, Ay⟩ := gY (At.out.go Ac) (s := p) (by have := (List.getElem?_eq_some_iff.1 HXr.out).1; have := HT.out.rl; omega) As.out
  have CB := hide Ay
  have Ae : (bg T q p).length ≤ 140737488351232 := Nat.le_trans iO (Nat.le_trans HT.out.rl (by decide))
  have Ax := gP (rc := c2) (cc := cc) HT.out (At.out.go Ac) ((Pz.refl Aa.out.inv).below Ah.out Ac).inv AB.out HN.out (t := 4) (.inr (.inr (.inr rfl))) An (fun g o e hne => AB.out.no (Av g o e hne)) (AC.out.go Ac) AD.out Ae (fun r hr => eq (lC hr))
  have C := hide Ax
  have AI := hide (HD.out.trans (Aa.out.below Ah.out Ac))
  have h5 : S5 ⟨b, 1, none⟩ ⟨b, 3, none⟩ ⟨b, 4, none⟩ ⟨b, 0, none⟩ ⟨b, 2, none⟩ (.int .i64 q) (.int .i64 p) (.slice ca ch.length cc) (.int .i64 tag) (.int .i64 how) w4 := ⟨Ad.out.get (i := 1) rfl, Ad.out.get (i := 3) rfl, Ad.out.get (i := 4) rfl, Ad.out.get (i := 0) rfl, Ad.out.get (i := 2) rfl⟩
  have AL : Hid (∀ X Z2 l2, Pz Inv Z4 w4.drew Z2 l2 X → S5 ⟨b, 1, none⟩ ⟨b, 3, none⟩ ⟨b, 4, none⟩ ⟨b, 0, none⟩ ⟨b, 2, none⟩ (.int .i64 q) (.int .i64 p) (.slice ca ch.length cc) (.int .i64 tag) (.int .i64 how) X) := hide fun X Z2 l2 hp => S5.pz (w0 := w4.drew) h5 hp Ab.out Ab.out Ab.out Ab.out Ab.out
  clear k3 An Av Ax Ac Ay Ae
  generalize eachM (refX T 4) (bg T q p) ch = er at *
  generalize (bg T q p).length = ol at *
  go_region_held3 (fun X : World => S5 ⟨b, 1, none⟩ ⟨b, 3, none⟩ ⟨b, 4, none⟩ ⟨b, 0, none⟩ ⟨b, 2, none⟩ (.int .i64 q) (.int .i64 p) (.slice ca ch.length cc) (.int .i64 tag) (.int .i64 how) X) (first | exact S5.drew ‹_› | assumption) (first | (go_at_call 150; refine (CB.out _ rfl).mono ?_; rintro e w' ⟨rfl, rfl⟩) | (go_at_call 145; refine C.out.mono ?_; rintro e w' ⟨rfl, Z5, AK⟩; have AN := AL.out _ _ _ AK))
  all_goals
   go_wp2_with fail
   go_ret
   rw [HO.out]
   have Ao := AI.out.trans (by assumption)
   first | exact ⟨rfl, _, by simpa using Ao⟩ | exact ⟨rfl, ⟨_, by simpa using Ao⟩⟩
end
end Go.Proofs.YtmlhcncagdfjfaaGreat.De
