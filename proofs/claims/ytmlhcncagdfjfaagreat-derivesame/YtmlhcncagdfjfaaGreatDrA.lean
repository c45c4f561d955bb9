import Derived.Test.YtmlhcncagdfjfaaGreatDr7
import Derived.Laws.Tables
import Derived.Laws.BitsLemmas
set_option maxRecDepth 100000
set_option maxHeartbeats 6400000
namespace Go.Proofs.YtmlhcncagdfjfaaGreat.De
open Go.RowKit Fa
theorem three (w : World) (a b c : Obj) : Below w.heap.size w (((w.alloc a).alloc b).alloc c) ∧ (((w.alloc a).alloc b).alloc c).heap[w.heap.size]? = some a ∧ (((w.alloc a).alloc b).alloc c).heap[w.heap.size + 1]? = some b ∧ (((w.alloc a).alloc b).alloc c).heap[w.heap.size + 1 + 1]? = some c := by
 have Ad := ac w a
 have Ac := ac (w.alloc a) b
 have Ab := ac ((w.alloc a).alloc b) c
 have Aa := Ad.trans (Ac.mono Ad.size)
 refine ⟨Aa.trans (Ab.mono Aa.size), (Ab.block _ (by simp; omega)).trans ((Ac.block _ (by simp)).trans (heap_alloc_new w _)), (Ab.block _ (by simp)).trans ?_, ?_⟩
 · have := heap_alloc_new (w.alloc a) b
   simpa using this
 · have := heap_alloc_new ((w.alloc a).alloc b) c
   simpa using this
section
variable {S : Nat → Prop} {N0 : Nat} {K : cH} {T : Th} {Inv : eq} {Z Z0 Z2 : Nat → Prop} {w w0 X : World} {l l2 : bB} {v : Value} {ca : Option Addr} {cc q : Nat} {tag how rule : Int} {ch : List (Int × Int)}
theorem rg (hT : Wt T K.n) (hX : Xr S N0 K T w0) (hz : Zo S N0 Z0) (hN : Nd K.n Inv v) (hq : q < K.n) {b5 b8 b9 : Nat} {u0 u2 u3 u4 : Value} (h5 : Fx b5 81 [ab K.q] w0) (h8 : Fx b8 125 [v] w0) (h9 : Fx b9 32 [u0, .int .i64 q, u2, u3, u4] w0) (z5 : ¬ Z0 b5) (z8 : ¬ Z0 b8) (z9 : ¬ Z0 b9) :
    Sd (Rn T) Inv Z0 w0 (ansX T q) (.func (.func 147) #[] #[ab b5, ab b8, ab b9]) := by
 refine ⟨_, _, rfl, fun args w' => rfl, fun Z l w r c hP hr => ?_⟩
 obtain ⟨a, x, rfl, hx⟩ := hr
 have Am : a ≤ 4096 := by have := (List.getElem?_eq_some_iff.1 hx).1; have := hT.rl; omega
 obtain ⟨c1, c2⟩ := c
 have Aj := hN.st
 have hB := ac w (.cells #[.int .i64 c1, .int .i64 c2] 100)
 have hQ : Fx w.heap.size 100 [.int .i64 c1, .int .i64 c2] (w.alloc (.cells #[.int .i64 c1, .int .i64 c2] 100)) := heap_alloc_new w _
 have Ac := hP.below Aj hB
 have Af := hN.zl _ _ _ hP.inv
 have Ap : Hid (¬ Z w.heap.size) := hide fun e => by have := Af _ e; omega
 have Ag := Ac.xr hX hz
 have Al := hz.next hX Ac
 have C := hide (kP Ag Ac.inv Al hN hx (t := 4) (hT.body (.inr (.inr (.inr rfl))) (a : Int)) (c1, c2))
 have k5 := (Ac.box h5 z5).get (i := 0) rfl
 have k8 := (Ac.box h8 z8).get (i := 0) rfl
 have k0 := hQ.get (i := 0) rfl
 have k1 := hQ.get (i := 1) rfl
 have HP := hide Ac
 have HX := hide hX
 have HZ := hide hz
 have HN := hide hN
 have HT := hide hT
 have HQ := hide hQ
 have H5 := hide h5
 have H8 := hide h8
 have H9 := hide h9
 have Z5 := hide z5
 have Z8 := hide z8
 have Z9 := hide z9
 have Ao := hide hq
 have HR : Hid (ansX T q (a : Int) (c1, c2) = if om T (a : Int) (c1, c2) then refX T 4 (a : Int) (c1, c2) else betX T q (a : Int) (c1, c2)) := hide rfl
 have Ad : Hid (om T (a : Int) (c1, c2) = (refX T 4 (a : Int) (c1, c2)).1) := hide (by unfold refX; cases om T (a : Int) (c1, c2) <;> rfl)
 have Ai : Hid ((refX T 4 (a : Int) (c1, c2)).1 = false → (refX T 4 (a : Int) (c1, c2)).2 = []) := hide (by unfold refX; cases om T (a : Int) (c1, c2) <;> simp)
 generalize ansX T q (a : Int) (c1, c2) = o at *
 generalize refX T 4 (a : Int) (c1, c2) = rx at *
 obtain ⟨fn, Aq, rfl, -, -⟩ := hN.call
 clear hT hX hz hN h5 h8 h9 z5 z8 z9 hP hB hQ Ac Aj hx Af Ag Al hq
 show Calls Tryz.prog 147 #[.int .i64 a, .agg #[.int .i64 c1, .int .i64 c2], ab b5, ab b8, ab b9] w _
 obtain ⟨rb, rl⟩ := rx
 simp only at C HR Ad Ai
 go_enter Tryz.func147, Tryz.ntmps147
 go_upto_region 1 with fail
 generalize w.alloc (.cells #[.int .i64 c1, .int .i64 c2] 100) = w1 at *
 generalize w.heap.size = bq at *
 cases rb with
 | true =>
  have HO : Hid (o = (true, rl)) := hide (by rw [HR.out, Ad.out]; rfl)
  go_wp2_with (go_at_call 148; refine C.out.mono ?_; rintro _ w3 ⟨rfl, Z3, Ab⟩; have Aa := hide (HP.out.trans Ab); clear Ab C)
  go_ret
  rw [HO.out]
  first | exact ⟨rfl, Z3, Aa.out⟩ | exact ⟨rfl, ⟨Z3, Aa.out⟩⟩
 | false =>
  have HO : Hid (o = betX T q (a : Int) (c1, c2)) := hide (by rw [HR.out, Ad.out]; rfl)
  have An : Hid (rl = []) := hide (Ai.out rfl)
  go_wp2_with (go_at_call 148; refine C.out.mono ?_; rintro _ w3 ⟨rfl, Z3, Ab⟩; rw [An.out, List.append_nil] at Ab; have Ar := hide Ab; have Aa := hide (HP.out.trans Ab); have Ae := Ab.box HQ.out Ap.out; have j0 := Ae.get (i := 0) rfl; have j1 := Ae.get (i := 1) rfl; have j5 := (Aa.out.box H5.out Z5.out).get (i := 0) rfl; have j8 := (Aa.out.box H8.out Z8.out).get (i := 0) rfl; have j9 := (Aa.out.box H9.out Z9.out).get (i := 1) rfl; have CB := hide (qg HT.out (Aa.out.xr HX.out HZ.out) Aa.out.inv (HZ.out.next HX.out Aa.out) HN.out (r := a) Am Ao.out (c1, c2)); clear Ab C Ae k0 k1 k5 k8)
  go_wp2_with (go_at_call 149; refine CB.out.mono ?_; rintro _ w4 ⟨rfl, Z4, Ah⟩; have Ak := hide (Aa.out.trans Ah); clear Ah CB)
  go_ret
  rw [HO.out]
  first | exact ⟨rfl, Z4, Ak.out⟩ | exact ⟨rfl, ⟨Z4, Ak.out⟩⟩
end
set_option maxRecDepth 100000
set_option maxHeartbeats 12800000
section
variable {S : Nat → Prop} {N0 : Nat} {K : cH} {T : Th} {Inv : eq} {Z : Nat → Prop} {w : World} {l : bB} {v : Value} {ca : Option Addr} {cc q : Nat} {tag how rule : Int} {ch : List (Int × Int)}
theorem sC (hT : Wt T K.n) (hX : Xr S N0 K T w) (hI : Inv Z l w) (hz : Zo S N0 Z) (hN : Nd K.n Inv v) (hqn : q < K.n) (hca : Chs w ca ch) (zca : ∀ g o, ca = some ⟨g, o, none⟩ → ch ≠ [] → ¬ Z g) :
    Calls Tryz.prog 113 #[ab K.q, fZ (Sm tag q how rule ch) ca cc, v] w fun e w' => e = .returned (.bool (rowRule T (Sm tag q how rule ch)).1) ∧ ∃ Z2, Pz Inv Z w Z2 (l ++ (rowRule T (Sm tag q how rule ch)).2) w' := by
 have Ax := hN.st
 have Ap := hN.zl _ _ _ hI
 have Bn : ∀ (fn : Fn) (first cap : Array Value) (w : World), (Instr.makeFunc fn first cap).run Tryz.prog w = .ok (.func fn first cap) w := fun _ _ _ _ => rfl
 obtain ⟨hB, q5, q8, q9⟩ := three w (.cells #[ab K.q] 81) (.cells #[.int .i64 tag, .int .i64 q, .int .i64 how, .int .i64 rule, .slice ca ch.length cc] 32) (.cells #[v] 125)
 have HP := hide ((Pz.refl hI).below Ax hB)
 have Z5 : Hid (¬ Z w.heap.size) := hide fun e => by have := Ap _ e; omega
 have Z8 : Hid (¬ Z (w.heap.size + 1)) := hide fun e => by have := Ap _ e; omega
 have Z9 : Hid (¬ Z (w.heap.size + 1 + 1)) := hide fun e => by have := Ap _ e; omega
 have Af := hide Ax
 have An := hX.go hB
 have H5 : Hid (Fx w.heap.size 81 [ab K.q] _) := hide q5
 have H8 : Hid (Fx (w.heap.size + 1) 32 [.int .i64 tag, .int .i64 q, .int .i64 how, .int .i64 rule, .slice ca ch.length cc] _) := hide q8
 have H9 : Hid (Fx (w.heap.size + 1 + 1) 125 [v] _) := hide q9
 obtain ⟨a, c, r0, AC, -⟩ := LL.row An.t hqn
 have b5 := An.bx.get (i := 5) rfl
 have AF : (ae T kT q).length ≤ 140737488351232 := Nat.le_trans bE (Nat.le_trans hT.rl (by decide))
 have CC : Hid (∀ X : World, X.heap = (((w.alloc (.cells #[ab K.q] 81)).alloc (.cells #[.int .i64 tag, .int .i64 q, .int .i64 how, .int .i64 rule, .slice ca ch.length cc] 32)).alloc (.cells #[v] 125)).heap → Calls Tryz.prog 143 #[.slice a (ae T kT q).length c, .int .i64 rule] X fun e w' => e = .returned (.bool (decide (rule ∈ ae T kT q))) ∧ w' = X) := hide fun X hX => fB (fun i v hi => by obtain ⟨g, o, e, hc⟩ := AC i v hi; exact ⟨g, o, e, (World.cell?_of_block (by rw [hX])).trans hc⟩) AF nQ
 have HM : Hid (rule ∈ ae T kT q → Rn T rule) := hide fun h => eJ (eU h)
 have AX := hide (hT.body (t := 3) (.inr (.inr (.inl rfl))) rule)
 have HX := hide An
 have HZ := hide hz
 have HN := hide hN
 have HT := hide hT
 have AQ := hide (hca.go hB)
 have AH := hide zca
 have k0 := H5.out.get (i := 0) rfl
 have k1 := H8.out.get (i := 1) rfl
 have k3 := H8.out.get (i := 3) rfl
 have AA : Hid (rule ∈ ae T kT q → rowRule T (Sm tag q how rule ch) = ((eachM (ansX T q) (aT T q) ch).1, eK T rule 3 ++ ((row T.foes q).map fun x => (x, 2)) ++ (eachM (ansX T q) (aT T q) ch).2)) := hide fun h => by unfold rowRule; rw [if_pos h]
 have Av : Hid (rule ∉ ae T kT q → rowRule T (Sm tag q how rule ch) = (false, [])) := hide fun h => by unfold rowRule; rw [if_neg h]
 have Ak := hide hqn
 generalize rowRule T (Sm tag q how rule ch) = o at *
 obtain ⟨fn, AU, rfl, hf, hc⟩ := hN.call
 have HC := hide hc
 clear hI hN hB Ap Ax hX An AC AF hT hz hc hca zca q5 q8 q9
 generalize (ae T kT q).length = sl at *
 generalize hin : decide (rule ∈ ae T kT q) = inn at *
 go_enter Tryz.func113, Tryz.ntmps113
 go_upto_region 1 with fail
 generalize ((w.alloc (.cells #[ab K.q] 81)).alloc (.cells #[.int .i64 tag, .int .i64 q, .int .i64 how, .int .i64 rule, .slice ca ch.length cc] 32)).alloc (.cells #[.func (.func fn) #[] AU] 125) = w1 at *
 generalize w.heap.size = b at *
 cases inn with
 | false =>
  have HO : Hid (o = (false, [])) := hide (Av.out (of_decide_eq_false hin))
  clear hin AA Av HM
  go_quiet ((go_at_call 143; exact Calls.quiet_of_same (CC.out _ rfl)))
  have HD := hide (fun m => HP.out.below Af.out (ak w1 m))
  go_wp2_with fail
  go_ret
  rw [HO.out]
  first | exact ⟨rfl, _, by rw [List.append_nil]; exact HD.out _⟩ | exact ⟨rfl, ⟨_, by rw [List.append_nil]; exact HD.out _⟩⟩
 | true =>
  have Ah := of_decide_eq_true hin
  obtain ⟨p, x, rfl, hx⟩ := HM.out Ah
  have HO := hide (AA.out Ah)
  have HXr := hide hx
  clear hin AA Av HM Ah hx
  go_quiet ((go_at_call 143; exact Calls.quiet_of_same (CC.out _ rfl)))
  rename Nat => n1
  have HD := hide (HP.out.below Af.out (ak w1 n1))
  have Ab := hide (HX.out.go (ak w1 n1))
  have Al := hide (H5.out.keep (w' := w1.drewN n1) rfl)
  have Aj := hide (H8.out.keep (w' := w1.drewN n1) rfl)
  have Am := hide (H9.out.keep (w' := w1.drewN n1) rfl)
  have As := hide (AQ.out.go (ak w1 n1))
  clear k0 k1 k3 CC HP HX r0 b5 H5 H8 H9 AQ hqn
  generalize w1.drewN n1 = w2 at *
  have k0 := Al.out.get (i := 0) rfl
  have k3 := Aj.out.get (i := 3) rfl
  have k9 := Am.out.get (i := 0) rfl
  have C := hide (gk Ab.out HD.out.inv HZ.out HN.out HXr.out AX.out)
  go_upto_region 4 with (go_at_call 144; refine C.out.mono ?_; rintro _ w3 ⟨rfl, Z3, AE⟩; have Ag := hide AE; clear AE C)
  clear k0 k3 k9
  have Ao := hide (Ag.out.xr Ab.out HZ.out)
  have AR := hide (Ag.out.box Al.out Z5.out)
  have AO := hide (Ag.out.box Aj.out Z8.out)
  have At := Ak.out
  obtain ⟨fl, Ad⟩ := am (l := T.foes) (i := q) (by rw [HT.out.fl]; exact At)
  have Ai := bW Ad
  obtain ⟨gf, of, a, c, AP, Bl, r0, -, Bk, AL⟩ := ew Ao.out.ta.foes Ad
  have b1 := Ao.out.bx.get (i := 1) rfl
  rw [AP] at b1
  have Bg : q < T.foes.length := (List.getElem?_eq_some_iff.1 Ad).1
  have Bh := Ao.out.ta.foes.lim
  have AD := hide (HT.out.fo q At)
  rw [Ai] at AD
  have AW : Hid (o = ((eachM (ansX T q) (aT T q) ch).1, eK T p 3 ++ (fl.map fun x => (x, 2)) ++ (eachM (ansX T q) (aT T q) ch).2)) := hide (by rw [HO.out, Ai])
  have AM := hide AL
  have k0 := AR.out.get (i := 0) rfl
  have k1 := AO.out.get (i := 1) rfl
  clear Ad Ai AL HO AP At
  go_quiet (fail)
  rename Nat => n3
  have AB := hide (Ag.out.below Af.out (ak w3 n3))
  have AT : Hid (Ints N0 (w3.drewN n3) fl (.slice a fl.length c)) := hide (AM.out.keep (w' := w3.drewN n3) fun _ _ => rfl)
  clear k0 k1 r0 b1 AM Ag Ao AR AO
  generalize w3.drewN n3 = w4 at *
  have Bd := hide (AB.out.xr Ab.out HZ.out)
  have Bi := Bd.out.n0
  go_wp2_with fail
  go_loopw [36] (fun x wr => ∃ k : Nat, k ≤ fl.length ∧ x = .int .i64 k ∧ Hid (∃ Zk, Pz Inv Z w2 Zk (l ++ eK T p 3 ++ (fl.take k).map fun x => (x, 2)) wr)) (fun x _ => fl.length - (intOf x).toNat)
  case atStart => exact ⟨0, by omega, rfl, hide ⟨Z3, by simpa using AB.out⟩⟩
  case round =>
   obtain ⟨k, hk, rfl, HPk⟩ := hrel
   by_cases hlt : k < fl.length
   · obtain ⟨Zk, hp⟩ := HPk.out
     obtain ⟨y, hy⟩ := am hlt
     obtain ⟨g, og, rfl, Aw, cy⟩ := jB AT.out hy
     have Bm : wr.cell? ⟨g, og + k, none⟩ = some (.int .i64 y) := by
      have e1 : wr.heap[g]? = w2.heap[g]? := hp.fr.block g (Nat.lt_of_lt_of_le Aw Ab.out.n0) fun e => by have := (HZ.out g e).2; omega
      have e2 : w4.heap[g]? = w2.heap[g]? := AB.out.fr.block g (Nat.lt_of_lt_of_le Aw Ab.out.n0) fun e => by have := (HZ.out g e).2; omega
      exact (World.cell?_of_block (e1.trans e2.symm)).trans cy
     have k9 := (hp.box Am.out Z9.out).get (i := 0) rfl
     have Au := AD.out y (List.mem_of_getElem? hy)
     have C := hide (HC.out Zk _ wr y 2 hp.inv ⟨Au.1, Au.2, .inr (.inl rfl)⟩)
     have AS := hide hp
     have HY := hide (mY (t := 2) hy)
     clear cy hp HPk hy Au
     go_wp2_with fail
     refine C.out.mono ?_
     rintro _ w5 ⟨rfl, Z6, AI⟩
     have AY := hide (AS.out.trans AI)
     clear AI C AS
     go_wp2_with fail
     go_roundw
     case rel => exact ⟨k + 1, by omega, by go_num, hide ⟨Z6, by rw [HY.out, ← List.append_assoc]; exact AY.out⟩⟩
     case measure => simp [intOf]; omega
   · have Bc : k = fl.length := by omega
     subst Bc
     obtain ⟨Zk, hp⟩ := HPk.out
     rw [List.take_length] at hp
     have Aa := hide hp
     clear hp HPk
     go_upto_region 9 with fail
     have Aq := hide (Aa.out.box Aj.out Z8.out)
     have AG := hide (Aa.out.box Al.out Z5.out)
     have AV := hide (Aa.out.box Am.out Z9.out)
     have HXk := hide (Aa.out.xr Ab.out HZ.out)
     have HZk := hide (HZ.out.next Ab.out Aa.out)
     have HCHk := hide (As.out.pz AH.out Aa.out)
     have Ae : ∀ {g : Nat}, ¬ Z g → g < w2.heap.size → ¬ Zk g := fun {g} hg hlt e => by
      rcases Aa.out.zn _ e with e | e
      · exact hg e
      · omega
     have Z5k := hide (Ae Z5.out Al.out.lt)
     have Z8k := hide (Ae Z8.out Aj.out.lt)
     have Z9k := hide (Ae Z9.out Am.out.lt)
     have HZCk : Hid (∀ g o, ca = some ⟨g, o, none⟩ → ch ≠ [] → ¬ Zk g) := hide fun g o e hne ez => by
      rcases Aa.out.zn _ ez with e2 | e2
      · exact AH.out g o e hne e2
      · obtain ⟨c0, Be⟩ := am (l := ch) (i := 0) (by cases ch with | nil => exact absurd rfl hne | cons => simp)
        obtain ⟨g', o', e', k, -⟩ := As.out 0 c0 Be
        rw [e] at e'
        cases e'
        have := World.block_lt_of_cell? _ _ k
        simp only at this
        omega
     have Ac : Below wr.heap.size wr wr.drew := (Below.refl _ _).drew
     obtain ⟨a2, c2, r2, Ar, AJ⟩ := LL.row HXk.out.a Ak.out
     have AK := rg HT.out (HXk.out.go Ac) HZk.out HN.out Ak.out (AG.out.keep (w' := wr.drew) rfl) (AV.out.keep (w' := wr.drew) rfl) (Aq.out.keep (w' := wr.drew) rfl) Z5k.out Z9k.out Z8k.out
     have AN := HCHk.out.go Ac
     have Ay : (aT T q).length ≤ 140737488351232 := Nat.le_trans iJ (Nat.le_trans HT.out.rl (by decide))
     have C := hide (jJ (rc := c2) (cc := cc) AK (Pz.refl (Aa.out.below Af.out Ac).inv) (fun X Z2 l2 hp => ug (Ar.below Ac) (fun g o e hne => HZk.out.no (AJ g o e hne)) hp) (fun X Z2 l2 hp => AN.pz HZCk.out hp) Ay (fun r hr => eJ (ny hr)))
     have Bb := hide (HD.out.trans (Aa.out.below Af.out Ac))
     have h5 : S5 ⟨b, 0, none⟩ ⟨b + 1, 1, none⟩ ⟨b + 1, 4, none⟩ ⟨K.q, 6, none⟩ ⟨K.g2, q, none⟩ (ab K.q) (.int .i64 q) (.slice ca ch.length cc) (az K.g2 K.n) (.slice a2 (aT T q).length c2) wr := ⟨AG.out.get (i := 0) rfl, Aq.out.get (i := 1) rfl, Aq.out.get (i := 4) rfl, HXk.out.bx.get (i := 6) rfl, r2⟩
     have Ba : Hid (∀ X Z2 l2, Pz Inv Zk wr.drew Z2 l2 X → S5 ⟨b, 0, none⟩ ⟨b + 1, 1, none⟩ ⟨b + 1, 4, none⟩ ⟨K.q, 6, none⟩ ⟨K.g2, q, none⟩ (ab K.q) (.int .i64 q) (.slice ca ch.length cc) (az K.g2 K.n) (.slice a2 (aT T q).length c2) X) := hide fun X Z2 l2 hp => S5.pz (w0 := wr.drew) h5 hp Z5k.out Z8k.out Z8k.out (HZk.out.no HXk.out.sq) (HZk.out.no (LL.blk HXk.out.a))
     have Bf := Ak.out
     clear Ar AJ r2 AK AN Ay Ac Ae
     generalize eachM (ansX T q) (aT T q) ch = er at *
     generalize (aT T q).length = ol at *
     go_region_held3 (fun X : World => S5 ⟨b, 0, none⟩ ⟨b + 1, 1, none⟩ ⟨b + 1, 4, none⟩ ⟨K.q, 6, none⟩ ⟨K.g2, q, none⟩ (ab K.q) (.int .i64 q) (.slice ca ch.length cc) (az K.g2 K.n) (.slice a2 ol c2) X) (first | exact S5.drew ‹_› | assumption) (first | (go_at_call 146; refine C.out.mono ?_; rintro e w' ⟨rfl, Z5, AZ⟩; have Bj := Ba.out _ _ _ AZ))
     all_goals
      go_wp2_with fail
      go_ret
      rw [AW.out]
      have Az := Bb.out.trans (by assumption)
      first | exact ⟨rfl, _, by simpa using Az⟩ | exact ⟨rfl, ⟨_, by simpa using Az⟩⟩
end
set_option maxRecDepth 100000
set_option maxHeartbeats 3200000
abbrev fv (k : Nat) : Value := .func (.func k) #[] #[]
abbrev tblA : Array Value := #[fv 109, fv 110, .nilFunc, .nilFunc, .nilFunc, .nilFunc, .nilFunc, fv 111, .nilFunc, .nilFunc, .nilFunc, fv 113, .nilFunc, fv 112, .nilFunc, .nilFunc, .nilFunc, fv 114, fv 115, fv 116]
abbrev li : Array Value := #[.nilFunc, .nilFunc, .nilFunc, .nilFunc, .nilFunc, .nilFunc, .nilFunc, .nilFunc, .nilFunc, .nilFunc, .nilFunc, .nilFunc, .nilFunc, .nilFunc, .nilFunc, .nilFunc, .nilFunc, .nilFunc, .nilFunc, .nilFunc]
theorem kR {a w : World} {B b : Nat} (h : Below B a w) (hB : B ≤ b) (cs : Array Value) : Below B a (w.setRow b cs) := h.trans ⟨rfl, rfl, rfl, by simp, fun k hk => setRow_other _ _ _ _ (by omega)⟩
theorem wi (w : World) : Calls Tryz.prog 77 #[] w fun e w' => e = .returned (.agg tblA) ∧ Below w.heap.size w w' := by
 have hB := hide (ac w (.cells li 129))
 have hQ : (w.alloc (.cells li 129)).heap[w.heap.size]? = some (.cells li 129 (0, 0)) := heap_alloc_new w _
 have HQ := hide hQ
 go_enter Tryz.func77, Tryz.ntmps77
 go_upto_region 1 with fail
 clear hQ
 generalize hW : w.alloc (.cells li 129) = W at *
 clear hW
 refine wp_region_lit ?_
 iterate 5
  refine wpList_plain rfl fun K hK => ?_
  go_simp
  refine hK _ _ ?_
  clear hK
 refine wpList_plain rfl fun K hK => ?_
 refine wp_store_row 129 _ _ rfl w.heap.size tblA rfl rfl _ _ HQ.out (by kernel_rfl) rfl (by simp [Value.oneCell']) ?_
 refine hK _ _ ?_
 clear hK
 have HF := hide (setRow_heap W w.heap.size _ tblA _ _ HQ.out)
 have HB := hide (kR hB.out (Nat.le_refl _) tblA)
 generalize W.setRow w.heap.size tblA = Y at *
 go_wp2_with fail
 (try simp only [Exit.inBlock, Exit.then])
 refine bodyPost_ret (results_cell_row rfl _ _ w.heap.size 129 tblA _ _ rfl HF.out Tryz.underlying129 rfl (by kernel_rfl)) rfl ?_
 exact ⟨rfl, HB.out⟩
set_option maxRecDepth 100000
set_option maxHeartbeats 25600000
def eC (z : Int) : Prop := -9223372036854775808 ≤ z ∧ z < 9223372036854775808
theorem rm {t k : Int} (h : eC t) (hk : 0 ≤ k ∧ k ≤ 5) : cJ (IntKind.i64.wrap (t - 1)) k = (decide (1 ≤ t) && decide (t ≤ k)) := by
 unfold eC at h
 by_cases h0 : t = -9223372036854775808
 · subst h0
   have : IntKind.i64.wrap (-9223372036854775808 - 1) = 9223372036854775807 := by decide
   rw [this]
   unfold cJ
   have h2 : ¬ (9223372036854775807 < k) := by omega
   simp [h2]
 · have : IntKind.i64.wrap (t - 1) = t - 1 := by rw [IntKind.wrap_i64]; omega
   rw [this]
   unfold cJ
   by_cases a : 1 ≤ t <;> by_cases b : t ≤ k <;> simp [a, b] <;> omega
theorem yv (W : World) : (binOp .neq 127 .nilFunc .nilFunc).run Tryz.prog W = .ok (.bool false) W := by kernel_rfl
theorem yg (k : Nat) (W : World) : (binOp .neq 127 (.func (.func k) #[] #[]) .nilFunc).run Tryz.prog W = .ok (.bool true) W := by kernel_rfl
section
variable {S : Nat → Prop} {N0 : Nat} {K : cH} {T : Th} {Inv : eq} {Z : Nat → Prop} {w : World} {l : bB} {v : Value} {ca : Option Addr} {cc : Nat} {tag lit how rule : Int} {ch : List (Int × Int)}
theorem vb {s : StM} (h : cJ s.lit T.lits = false) : formM T s = (false, []) := by unfold formM; rw [h]; rfl
theorem wM {s : StM} (h : cJ s.lit T.lits = true) : formM T s = lY T s := by unfold formM; rw [h]; rfl
theorem xJ {s : StM} (h : ¬ (1 ≤ s.tag ∧ s.tag ≤ 4)) : lY T s = (false, []) := by
 unfold lY
 repeat (rw [if_neg (by omega)])
theorem xO {s : StM} (h : ¬ (1 ≤ s.how ∧ s.how ≤ 5)) : lY T s = (false, []) := by
 unfold lY
 repeat (rw [if_neg (by omega)])
theorem lN (hT : Wt T K.n) (hX : Xr S N0 K T w) (hI : Inv Z l w) (hz : Zo S N0 Z) (hN : Nd K.n Inv v) (ht : eC tag) (hh : eC how) (hl : ch.length ≤ 140737488351232) (hca : Chs w ca ch) (zca : ∀ g o, ca = some ⟨g, o, none⟩ → ch ≠ [] → ¬ Z g) :
    Calls Tryz.prog 40 #[ab K.q, fZ ⟨tag, lit, how, rule, ch⟩ ca cc, v] w fun e w' => e = .returned (.bool (formM T ⟨tag, lit, how, rule, ch⟩).1) ∧ ∃ Z2, Pz Inv Z w Z2 (l ++ (formM T ⟨tag, lit, how, rule, ch⟩).2) w' := by
 have Ay := hN.st
 have hB := ac w (.cells #[.int .i64 tag, .int .i64 lit, .int .i64 how, .int .i64 rule, .slice ca ch.length cc] 32)
 have hQ : Fx w.heap.size 32 [.int .i64 tag, .int .i64 lit, .int .i64 how, .int .i64 rule, .slice ca ch.length cc] (w.alloc (.cells #[.int .i64 tag, .int .i64 lit, .int .i64 how, .int .i64 rule, .slice ca ch.length cc] 32)) := heap_alloc_new w _
 have HP := hide ((Pz.refl hI).below Ay hB)
 have HX := hide (hX.go hB)
 have HQ := hide hQ
 have Ax := hide Ay
 have HT := hide hT
 have HZ := hide hz
 have HN := hide hN
 have AH := hide (hca.go hB)
 have Aq := hide zca
 have AP := hide hT.ln
 have AI := hide ht
 have AG := hide hh
 obtain ⟨o, ho⟩ : ∃ o, formM T ⟨tag, lit, how, rule, ch⟩ = o := ⟨_, rfl⟩
 have HO := hide ho
 rw [ho]
 obtain ⟨fn, AS, rfl, -, -⟩ := hN.call
 clear hT hX hI hz hN hB hQ Ay hca zca ho ht hh
 go_enter Tryz.func40, Tryz.ntmps40
 go_upto_region 1 with fail
 generalize w.alloc (.cells #[.int .i64 tag, .int .i64 lit, .int .i64 how, .int .i64 rule, .slice ca ch.length cc] 32) = w1 at *
 generalize w.heap.size = b at *
 refine wp_region_lit ?_
 refine wpList_plain rfl fun K1 hK => ?_
 go_simp
 go_at_call 77
 refine (wi w1).mono ?_
 rintro _ w2 ⟨rfl, AK⟩
 refine hK _ _ ?_
 clear hK
 have At := hide AK
 clear AK
 refine wpList_plain rfl fun K1 hK => ?_
 go_simp
 refine hK _ _ ?_
 clear hK
 have AA : Hid ((w2.alloc (.cells li 129)).heap[w2.heap.size]? = some (.cells li 129 (0, 0))) := hide (heap_alloc_new w2 _)
 have HA := hide (At.out.trans ((ac w2 (.cells li 129)).mono At.out.size))
 generalize w2.alloc (.cells li 129) = w3 at *
 refine wpList_plain rfl fun K1 hK => ?_
 refine wp_store_row 129 _ _ rfl w2.heap.size tblA rfl rfl _ _ AA.out (by kernel_rfl) rfl (by simp [Value.oneCell']) ?_
 refine hK _ _ ?_
 clear hK
 have HF := hide (setRow_heap w3 w2.heap.size _ tblA _ _ AA.out)
 have Ao := hide (kR HA.out At.out.size tblA)
 clear AA HA At
 generalize w3.setRow w2.heap.size tblA = w4 at *
 generalize w2.heap.size = tb at *
 have AN := hide (HP.out.below Ax.out Ao.out)
 have AL := hide (HX.out.go Ao.out)
 have Ap := hide (HQ.out.keep (Ao.out.block _ HQ.out.lt))
 have Aw := hide (AH.out.go Ao.out)
 clear HP HX HQ AH Ao
 have k0 := Ap.out.get (i := 0) rfl
 have k2 := Ap.out.get (i := 2) rfl
 have Au := hide (rm (k := 4) AI.out (by omega))
 have Am := hide (rm (k := 5) AG.out (by omega))
 obtain ⟨tw, AD⟩ : ∃ z, IntKind.i64.wrap (tag - 1) = z := ⟨_, rfl⟩
 obtain ⟨hw, Av⟩ : ∃ z, IntKind.i64.wrap (how - 1) = z := ⟨_, rfl⟩
 rw [AD] at Au
 rw [Av] at Am
 go_wp2_with fail
 go_quiet (fail)
 rename Nat => n1
 have AM := hide (AN.out.below Ax.out (ak w4 n1))
 have Az := hide (AL.out.go (ak w4 n1))
 have AB := hide (Ap.out.keep (w' := w4.drewN n1) rfl)
 have AC := hide (Aw.out.go (ak w4 n1))
 have AJ : Hid ((w4.drewN n1).heap[tb]? = some (.cells tblA 129 (0, 0))) := hide HF.out
 have As := hide AD
 have Ah := hide Av
 clear k0 k2 AN AL Ap Aw HF AD Av AI AG
 generalize w4.drewN n1 = w5 at *
 have k1 := AB.out.get (i := 1) rfl
 have b0 := Az.out.bx.get (i := 0) rfl
 have CW := hide fE
 go_wp2_with fail
 have Ai := hide (fun m => AM.out.below Ax.out (ak w5 m))
 cases hlit : cJ lit T.lits with
 | false =>
  have An : Hid (o = (false, [])) := hide (by rw [← HO.out]; exact vb hlit)
  go_quiet ((go_at_call 63; exact Calls.quiet_of_same (CW.out _ _ _)))
  go_wp2_with fail
  go_ret
  rw [An.out]
  first | exact ⟨rfl, _, by rw [List.append_nil]; exact Ai.out _⟩ | exact ⟨rfl, ⟨_, by rw [List.append_nil]; exact Ai.out _⟩⟩
 | true =>
  have Af : Hid (lY T ⟨tag, lit, how, rule, ch⟩ = o) := hide (by rw [← HO.out]; exact (wM hlit).symm)
  clear HO
  cases htg : cJ tw 4 with
  | false =>
   have An : Hid (o = (false, [])) := hide (by
    rw [← Af.out]
    refine xJ fun h => ?_
    have := Au.out
    rw [htg] at this
    simp [h.1, h.2] at this)
   go_quiet ((go_at_call 63; exact Calls.quiet_of_same (CW.out _ _ _)))
   go_wp2_with fail
   go_ret
   rw [An.out]
   first | exact ⟨rfl, _, by rw [List.append_nil]; exact Ai.out _⟩ | exact ⟨rfl, ⟨_, by rw [List.append_nil]; exact Ai.out _⟩⟩
  | true =>
   cases hhg : cJ hw 5 with
   | false =>
    have An : Hid (o = (false, [])) := hide (by
     rw [← Af.out]
     refine xO fun h => ?_
     have := Am.out
     rw [hhg] at this
     simp [h.1, h.2] at this)
    go_quiet ((go_at_call 63; exact Calls.quiet_of_same (CW.out _ _ _)))
    go_wp2_with fail
    go_ret
    rw [An.out]
    first | exact ⟨rfl, _, by rw [List.append_nil]; exact Ai.out _⟩ | exact ⟨rfl, ⟨_, by rw [List.append_nil]; exact Ai.out _⟩⟩
   | true =>
    have AO : 1 ≤ tag ∧ tag ≤ 4 := by
     have := Au.out
     rw [htg] at this
     simpa using this.symm
    have AQ : 1 ≤ how ∧ how ≤ 5 := by
     have := Am.out
     rw [hhg] at this
     simpa using this.symm
    have AF := hide (kr hlit)
    go_quiet ((go_at_call 63; exact Calls.quiet_of_same (CW.out _ _ _)))
    rename Nat => n2
    have Ab := hide (Ai.out n2)
    have Ak := hide (Az.out.go (ak w5 n2))
    have Aa := hide (AB.out.keep (w' := w5.drewN n2) rfl)
    have Al := hide (AC.out.go (ak w5 n2))
    have Ag : Hid (Fx tb 129 tblA.toList (w5.drewN n2)) := hide AJ.out
    clear k1 b0 AM Az AB AC AJ Ai CW htg hhg hlit
    generalize w5.drewN n2 = w6 at *
    have AE : (tag = 1 ∨ tag = 2 ∨ tag = 3 ∨ tag = 4) ∧ (how = 1 ∨ how = 2 ∨ how = 3 ∨ how = 4 ∨ how = 5) := by omega
    clear AO AQ Au Am
    obtain ⟨AR, Ar⟩ := AE
    obtain ⟨q, rfl⟩ := Int.eq_ofNat_of_zero_le AF.out.1
    have Aj : Hid (q < K.n) := hide (by have := AP.out; have := AF.out; omega)
    have AU : ∀ W, (binOp .neq 127 .nilFunc .nilFunc).run Tryz.prog W = .ok (.bool false) W := yv
    have AT : ∀ k W, (binOp .neq 127 (.func (.func k) #[] #[]) .nilFunc).run Tryz.prog W = .ok (.bool true) W := yg
    rcases AR with rfl | rfl | rfl | rfl
    · obtain rfl : tw = 0 := by rw [← As.out]; decide
      rcases Ar with rfl | rfl | rfl | rfl | rfl
      · obtain rfl : hw = 0 := by rw [← Ah.out]; decide
        have kf := Ag.out.get (i := 0) rfl
        have k0 := Aa.out.get (i := 0) rfl
        have k1 := Aa.out.get (i := 1) rfl
        have k2 := Aa.out.get (i := 2) rfl
        have k3 := Aa.out.get (i := 3) rfl
        have k4 := Aa.out.get (i := 4) rfl
        have Ac : Hid (o = jS (Sm 1 q 1 rule ch)) := hide (by rw [← Af.out]; rfl)
        have C := hide (sB Ab.out.inv HN.out hl (tag := 1) (how := 1) (q := q) (rule := rule) (cc := cc) (ca := ca))
        go_wp2_with (go_at_call 109; refine C.out.mono ?_; rintro _ w7 ⟨rfl, Z7, Ad⟩; have Ae := hide (Ab.out.trans Ad); clear Ad C)
        go_ret
        rw [Ac.out]
        first | exact ⟨rfl, Z7, Ae.out⟩ | exact ⟨rfl, ⟨Z7, Ae.out⟩⟩
      · obtain rfl : hw = 1 := by rw [← Ah.out]; decide
        have kf := Ag.out.get (i := 1) rfl
        have k0 := Aa.out.get (i := 0) rfl
        have k1 := Aa.out.get (i := 1) rfl
        have k2 := Aa.out.get (i := 2) rfl
        have k3 := Aa.out.get (i := 3) rfl
        have k4 := Aa.out.get (i := 4) rfl
        have Ac : Hid (o = rowStrict T (Sm 1 q 2 rule ch)) := hide (by rw [← Af.out]; rfl)
        have C := hide (mE HT.out Ak.out Ab.out.inv HZ.out HN.out hl Aj.out (tag := 1) (how := 2) (q := q) (rule := rule) (cc := cc) (ca := ca))
        go_wp2_with (go_at_call 110; refine C.out.mono ?_; rintro _ w7 ⟨rfl, Z7, Ad⟩; have Ae := hide (Ab.out.trans Ad); clear Ad C)
        go_ret
        rw [Ac.out]
        first | exact ⟨rfl, Z7, Ae.out⟩ | exact ⟨rfl, ⟨Z7, Ae.out⟩⟩
      · obtain rfl : hw = 2 := by rw [← Ah.out]; decide
        have kf := Ag.out.get (i := 2) rfl
        have Ac : Hid (o = (false, [])) := hide (by rw [← Af.out]; rfl)
        go_wp2_with fail
        go_ret
        rw [Ac.out]
        first | exact ⟨rfl, _, by rw [List.append_nil]; exact Ab.out⟩ | exact ⟨rfl, ⟨_, by rw [List.append_nil]; exact Ab.out⟩⟩
      · obtain rfl : hw = 3 := by rw [← Ah.out]; decide
        have kf := Ag.out.get (i := 3) rfl
        have Ac : Hid (o = (false, [])) := hide (by rw [← Af.out]; rfl)
        go_wp2_with fail
        go_ret
        rw [Ac.out]
        first | exact ⟨rfl, _, by rw [List.append_nil]; exact Ab.out⟩ | exact ⟨rfl, ⟨_, by rw [List.append_nil]; exact Ab.out⟩⟩
      · obtain rfl : hw = 4 := by rw [← Ah.out]; decide
        have kf := Ag.out.get (i := 4) rfl
        have Ac : Hid (o = (false, [])) := hide (by rw [← Af.out]; rfl)
        go_wp2_with fail
        go_ret
        rw [Ac.out]
        first | exact ⟨rfl, _, by rw [List.append_nil]; exact Ab.out⟩ | exact ⟨rfl, ⟨_, by rw [List.append_nil]; exact Ab.out⟩⟩
    · obtain rfl : tw = 1 := by rw [← As.out]; decide
      rcases Ar with rfl | rfl | rfl | rfl | rfl
      · obtain rfl : hw = 0 := by rw [← Ah.out]; decide
        have kf := Ag.out.get (i := 5) rfl
        have Ac : Hid (o = (false, [])) := hide (by rw [← Af.out]; rfl)
        go_wp2_with fail
        go_ret
        rw [Ac.out]
        first | exact ⟨rfl, _, by rw [List.append_nil]; exact Ab.out⟩ | exact ⟨rfl, ⟨_, by rw [List.append_nil]; exact Ab.out⟩⟩
      · obtain rfl : hw = 1 := by rw [← Ah.out]; decide
        have kf := Ag.out.get (i := 6) rfl
        have Ac : Hid (o = (false, [])) := hide (by rw [← Af.out]; rfl)
        go_wp2_with fail
        go_ret
        rw [Ac.out]
        first | exact ⟨rfl, _, by rw [List.append_nil]; exact Ab.out⟩ | exact ⟨rfl, ⟨_, by rw [List.append_nil]; exact Ab.out⟩⟩
      · obtain rfl : hw = 2 := by rw [← Ah.out]; decide
        have kf := Ag.out.get (i := 7) rfl
        have k0 := Aa.out.get (i := 0) rfl
        have k1 := Aa.out.get (i := 1) rfl
        have k2 := Aa.out.get (i := 2) rfl
        have k3 := Aa.out.get (i := 3) rfl
        have k4 := Aa.out.get (i := 4) rfl
        have Ac : Hid (o = rowNoStrict T (Sm 2 q 3 rule ch)) := hide (by rw [← Af.out]; rfl)
        have C := hide (nZ HT.out Ak.out Ab.out.inv HZ.out HN.out Aj.out Al.out Aq.out (tag := 2) (how := 3) (q := q) (rule := rule) (cc := cc) (ca := ca))
        go_wp2_with (go_at_call 111; refine C.out.mono ?_; rintro _ w7 ⟨rfl, Z7, Ad⟩; have Ae := hide (Ab.out.trans Ad); clear Ad C)
        go_ret
        rw [Ac.out]
        first | exact ⟨rfl, Z7, Ae.out⟩ | exact ⟨rfl, ⟨Z7, Ae.out⟩⟩
      · obtain rfl : hw = 3 := by rw [← Ah.out]; decide
        have kf := Ag.out.get (i := 8) rfl
        have Ac : Hid (o = (false, [])) := hide (by rw [← Af.out]; rfl)
        go_wp2_with fail
        go_ret
        rw [Ac.out]
        first | exact ⟨rfl, _, by rw [List.append_nil]; exact Ab.out⟩ | exact ⟨rfl, ⟨_, by rw [List.append_nil]; exact Ab.out⟩⟩
      · obtain rfl : hw = 4 := by rw [← Ah.out]; decide
        have kf := Ag.out.get (i := 9) rfl
        have Ac : Hid (o = (false, [])) := hide (by rw [← Af.out]; rfl)
        go_wp2_with fail
        go_ret
        rw [Ac.out]
        first | exact ⟨rfl, _, by rw [List.append_nil]; exact Ab.out⟩ | exact ⟨rfl, ⟨_, by rw [List.append_nil]; exact Ab.out⟩⟩
    · obtain rfl : tw = 2 := by rw [← As.out]; decide
      rcases Ar with rfl | rfl | rfl | rfl | rfl
      · obtain rfl : hw = 0 := by rw [← Ah.out]; decide
        have kf := Ag.out.get (i := 10) rfl
        have Ac : Hid (o = (false, [])) := hide (by rw [← Af.out]; rfl)
        go_wp2_with fail
        go_ret
        rw [Ac.out]
        first | exact ⟨rfl, _, by rw [List.append_nil]; exact Ab.out⟩ | exact ⟨rfl, ⟨_, by rw [List.append_nil]; exact Ab.out⟩⟩
      · obtain rfl : hw = 1 := by rw [← Ah.out]; decide
        have kf := Ag.out.get (i := 11) rfl
        have k0 := Aa.out.get (i := 0) rfl
        have k1 := Aa.out.get (i := 1) rfl
        have k2 := Aa.out.get (i := 2) rfl
        have k3 := Aa.out.get (i := 3) rfl
        have k4 := Aa.out.get (i := 4) rfl
        have Ac : Hid (o = rowRule T (Sm 3 q 2 rule ch)) := hide (by rw [← Af.out]; rfl)
        have C := hide (sC HT.out Ak.out Ab.out.inv HZ.out HN.out Aj.out Al.out Aq.out (tag := 3) (how := 2) (q := q) (rule := rule) (cc := cc) (ca := ca))
        go_wp2_with (go_at_call 113; refine C.out.mono ?_; rintro _ w7 ⟨rfl, Z7, Ad⟩; have Ae := hide (Ab.out.trans Ad); clear Ad C)
        go_ret
        rw [Ac.out]
        first | exact ⟨rfl, Z7, Ae.out⟩ | exact ⟨rfl, ⟨Z7, Ae.out⟩⟩
      · obtain rfl : hw = 2 := by rw [← Ah.out]; decide
        have kf := Ag.out.get (i := 12) rfl
        have Ac : Hid (o = (false, [])) := hide (by rw [← Af.out]; rfl)
        go_wp2_with fail
        go_ret
        rw [Ac.out]
        first | exact ⟨rfl, _, by rw [List.append_nil]; exact Ab.out⟩ | exact ⟨rfl, ⟨_, by rw [List.append_nil]; exact Ab.out⟩⟩
      · obtain rfl : hw = 3 := by rw [← Ah.out]; decide
        have kf := Ag.out.get (i := 13) rfl
        have k0 := Aa.out.get (i := 0) rfl
        have k1 := Aa.out.get (i := 1) rfl
        have k2 := Aa.out.get (i := 2) rfl
        have k3 := Aa.out.get (i := 3) rfl
        have k4 := Aa.out.get (i := 4) rfl
        have Ac : Hid (o = jX (Sm 3 q 4 rule ch)) := hide (by rw [← Af.out]; rfl)
        have C := hide (sw Ab.out.inv HN.out hl Aj.out (tag := 3) (how := 4) (q := q) (rule := rule) (cc := cc) (ca := ca))
        go_wp2_with (go_at_call 112; refine C.out.mono ?_; rintro _ w7 ⟨rfl, Z7, Ad⟩; have Ae := hide (Ab.out.trans Ad); clear Ad C)
        go_ret
        rw [Ac.out]
        first | exact ⟨rfl, Z7, Ae.out⟩ | exact ⟨rfl, ⟨Z7, Ae.out⟩⟩
      · obtain rfl : hw = 4 := by rw [← Ah.out]; decide
        have kf := Ag.out.get (i := 14) rfl
        have Ac : Hid (o = (false, [])) := hide (by rw [← Af.out]; rfl)
        go_wp2_with fail
        go_ret
        rw [Ac.out]
        first | exact ⟨rfl, _, by rw [List.append_nil]; exact Ab.out⟩ | exact ⟨rfl, ⟨_, by rw [List.append_nil]; exact Ab.out⟩⟩
    · obtain rfl : tw = 3 := by rw [← As.out]; decide
      rcases Ar with rfl | rfl | rfl | rfl | rfl
      · obtain rfl : hw = 0 := by rw [← Ah.out]; decide
        have kf := Ag.out.get (i := 15) rfl
        have Ac : Hid (o = (false, [])) := hide (by rw [← Af.out]; rfl)
        go_wp2_with fail
        go_ret
        rw [Ac.out]
        first | exact ⟨rfl, _, by rw [List.append_nil]; exact Ab.out⟩ | exact ⟨rfl, ⟨_, by rw [List.append_nil]; exact Ab.out⟩⟩
      · obtain rfl : hw = 1 := by rw [← Ah.out]; decide
        have kf := Ag.out.get (i := 16) rfl
        have Ac : Hid (o = (false, [])) := hide (by rw [← Af.out]; rfl)
        go_wp2_with fail
        go_ret
        rw [Ac.out]
        first | exact ⟨rfl, _, by rw [List.append_nil]; exact Ab.out⟩ | exact ⟨rfl, ⟨_, by rw [List.append_nil]; exact Ab.out⟩⟩
      · obtain rfl : hw = 2 := by rw [← Ah.out]; decide
        have kf := Ag.out.get (i := 17) rfl
        have k0 := Aa.out.get (i := 0) rfl
        have k1 := Aa.out.get (i := 1) rfl
        have k2 := Aa.out.get (i := 2) rfl
        have k3 := Aa.out.get (i := 3) rfl
        have k4 := Aa.out.get (i := 4) rfl
        have Ac : Hid (o = rowNoRule T (Sm 4 q 3 rule ch)) := hide (by rw [← Af.out]; rfl)
        have C := hide (pB HT.out Ak.out Ab.out.inv HZ.out HN.out Aj.out Al.out Aq.out (tag := 4) (how := 3) (q := q) (rule := rule) (cc := cc) (ca := ca))
        go_wp2_with (go_at_call 114; refine C.out.mono ?_; rintro _ w7 ⟨rfl, Z7, Ad⟩; have Ae := hide (Ab.out.trans Ad); clear Ad C)
        go_ret
        rw [Ac.out]
        first | exact ⟨rfl, Z7, Ae.out⟩ | exact ⟨rfl, ⟨Z7, Ae.out⟩⟩
      · obtain rfl : hw = 3 := by rw [← Ah.out]; decide
        have kf := Ag.out.get (i := 18) rfl
        have k0 := Aa.out.get (i := 0) rfl
        have k1 := Aa.out.get (i := 1) rfl
        have k2 := Aa.out.get (i := 2) rfl
        have k3 := Aa.out.get (i := 3) rfl
        have k4 := Aa.out.get (i := 4) rfl
        have Ac : Hid (o = rowFoe T (Sm 4 q 4 rule ch)) := hide (by rw [← Af.out]; rfl)
        have C := hide (ng HT.out Ak.out Ab.out.inv HZ.out HN.out hl Aj.out (tag := 4) (how := 4) (q := q) (rule := rule) (cc := cc) (ca := ca))
        go_wp2_with (go_at_call 115; refine C.out.mono ?_; rintro _ w7 ⟨rfl, Z7, Ad⟩; have Ae := hide (Ab.out.trans Ad); clear Ad C)
        go_ret
        rw [Ac.out]
        first | exact ⟨rfl, Z7, Ae.out⟩ | exact ⟨rfl, ⟨Z7, Ae.out⟩⟩
      · obtain rfl : hw = 4 := by rw [← Ah.out]; decide
        have kf := Ag.out.get (i := 19) rfl
        have k0 := Aa.out.get (i := 0) rfl
        have k1 := Aa.out.get (i := 1) rfl
        have k2 := Aa.out.get (i := 2) rfl
        have k3 := Aa.out.get (i := 3) rfl
        have k4 := Aa.out.get (i := 4) rfl
        have Ac : Hid (o = rowBeaten T (Sm 4 q 5 rule ch)) := hide (by rw [← Af.out]; rfl)
        have C := hide (nK HT.out Ak.out Ab.out.inv HZ.out HN.out Aj.out Al.out Aq.out (tag := 4) (how := 5) (q := q) (rule := rule) (cc := cc) (ca := ca))
        go_wp2_with (go_at_call 116; refine C.out.mono ?_; rintro _ w7 ⟨rfl, Z7, Ad⟩; have Ae := hide (Ab.out.trans Ad); clear Ad C)
        go_ret
        rw [Ac.out]
        first | exact ⟨rfl, Z7, Ae.out⟩ | exact ⟨rfl, ⟨Z7, Ae.out⟩⟩
end
end Go.Proofs.YtmlhcncagdfjfaaGreat.De
