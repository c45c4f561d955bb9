import Derived.Test.YtmlhcncagdfjfaaGreatDr7
import Derived.Laws.Tables
import Derived.Laws.BitsLemmas
set_option maxRecDepth 100000
set_option maxHeartbeats 6400000
namespace Go.Proofs.YtmlhcncagdfjfaaGreat.De
open Go.RowKit Fa
theorem three (w : World) (a b c : Obj) : Below w.heap.size w (((w.alloc a).alloc b).alloc c) ∧ (((w.alloc a).alloc b).alloc c).heap[w.heap.size]? = some a ∧ (((w.alloc a).alloc b).alloc c).heap[w.heap.size + 1]? = some b ∧ (((w.alloc a).alloc b).alloc c).heap[w.heap.size + 1 + 1]? = some c := by
 have Ad := ae w a
 have Ac := ae (w.alloc a) b
 have Ab := ae ((w.alloc a).alloc b) c
 have Aa := Ad.trans (Ac.mono Ad.size)
 refine ⟨Aa.trans (Ab.mono Aa.size), (Ab.block _ (by simp; omega)).trans ((Ac.block _ (by simp)).trans (heap_alloc_new w _)), (Ab.block _ (by simp)).trans ?_, ?_⟩
 ·have := heap_alloc_new (w.alloc a) b
  simpa using this
 have := heap_alloc_new ((w.alloc a).alloc b) c
 simpa using this
section
variable {S : Nat → Prop} {N0 : Nat} {K : cC} {T : Th} {Inv : dO} {Z Z0 Z2 : Nat → Prop} {w w0 X : World} {l l2 : be} {v : Value} {ca : Option Addr} {cc q : Nat} {tag how rule : Int} {ch : List (Int × Int)}
theorem rD (hT : Wt T K.n) (hX : Xr S N0 K T w0) (hz : Zo S N0 Z0) (hN : Nd K.n Inv v) (hq : q < K.n) {b5 b8 b9 : Nat} {u0 u2 u3 u4 : Value} (h5 : Fx b5 81 [aa K.q] w0) (h8 : Fx b8 125 [v] w0) (h9 : Fx b9 32 [u0, .int .i64 q, u2, u3, u4] w0) (z5 : ¬ Z0 b5) (z8 : ¬ Z0 b8) (z9 : ¬ Z0 b9) :
    Sd (Rn T) Inv Z0 w0 (ansX T q) (.func (.func 147) #[] #[aa b5, aa b8, aa b9]) := by
 refine ⟨_, _, rfl, fun args w' => rfl, fun Z l w r c hP hr => ?_⟩
 obtain ⟨a, x, rfl, hx⟩ := hr
 have An : a ≤ 4096 := by have := (List.getElem?_eq_some_iff.1 hx).1; have := hT.rl; omega
 obtain ⟨c1, c2⟩ := c
 have Aj := hN.st
 have hB := ae w (.cells #[.int .i64 c1, .int .i64 c2] 100)
 have hQ : Fx w.heap.size 100 [.int .i64 c1, .int .i64 c2] (w.alloc (.cells #[.int .i64 c1, .int .i64 c2] 100)) := heap_alloc_new w _
 have Ac := hP.below Aj hB
 have Ak := hN.zl _ _ _ hP.inv
 have Ao : Hid (¬ Z w.heap.size) := hide fun e => by have := Ak _ e; omega
 have Ag := Ac.xr hX hz
 have Al := hz.next hX Ac
 have C := hide (kk Ag Ac.inv Al hN hx (t := 4) (hT.body (.inr (.inr (.inr rfl))) (a : Int)) (c1, c2))
 have k5 := (Ac.box h5 z5).get (i := 0) rfl
 have k8 := (Ac.box h8 z8).get (i := 0) rfl
 have k0 := hQ.get (i := 0) rfl
 have k1 := hQ.get (i := 1) rfl
 have HP := hide Ac
 have HX := hide hX
 have HZ := hide hz
 have HN := hide hN
 have HT := hide hT
 have HQ := hide hQ
 have H5 := hide h5
 have H8 := hide h8
 have H9 := hide h9
 have Z5 := hide z5
 have Z8 := hide z8
 have Z9 := hide z9
 have Ap := hide hq
 have HR : Hid (ansX T q (a : Int) (c1, c2) = if jE T (a : Int) (c1, c2) then refX T 4 (a : Int) (c1, c2) else betX T q (a : Int) (c1, c2)) := hide rfl
 have Ae : Hid (jE T (a : Int) (c1, c2) = (refX T 4 (a : Int) (c1, c2)).1) := hide (by unfold refX; cases jE T (a : Int) (c1, c2) <;> rfl)
 have Af : Hid ((refX T 4 (a : Int) (c1, c2)).1 = false → (refX T 4 (a : Int) (c1, c2)).2 = []) := hide (by unfold refX; cases jE T (a : Int) (c1, c2) <;> simp)
 generalize ansX T q (a : Int) (c1, c2) = o at *
 generalize refX T 4 (a : Int) (c1, c2) = rx at *
 obtain ⟨fn, Aq, rfl, -, -⟩ := hN.call
 clear hT hX hz hN h5 h8 h9 z5 z8 z9 hP hB hQ Ac Aj hx Ak Ag Al hq
 show Calls Tryz.prog 147 #[.int .i64 a, .agg #[.int .i64 c1, .int .i64 c2], aa b5, aa b8, aa b9] w _
 obtain ⟨rb, rl⟩ := rx
 simp only at C HR Ae Af
 go_enter Tryz.func147, Tryz.ntmps147
 go_upto_region 1 with fail
 generalize w.alloc (.cells #[.int .i64 c1, .int .i64 c2] 100) = w1 at *
 generalize w.heap.size = bq at *
 cases rb with
 | true =>
  have HO : Hid (o = (true, rl)) := hide (by rw [HR.out, Ae.out]; rfl)
  go_wp2_with (go_at_call 148; refine C.out.mono ?_; rintro _ w3 ⟨rfl, Z3, Ab⟩; have Aa := hide (HP.out.trans Ab); clear Ab C)
  go_ret
  rw [HO.out]
  first | exact ⟨rfl, Z3, Aa.out⟩ | exact ⟨rfl, ⟨Z3, Aa.out⟩⟩
 | false =>
  have HO : Hid (o = betX T q (a : Int) (c1, c2)) := hide (by rw [HR.out, Ae.out]; rfl)
  have Am : Hid (rl = []) := hide (Af.out rfl)
  go_wp2_with (go_at_call 148; refine C.out.mono ?_; rintro _ w3 ⟨rfl, Z3, Ab⟩; rw [Am.out, List.append_nil] at Ab; have Ar := hide Ab; have Aa := hide (HP.out.trans Ab); have Ad := Ab.box HQ.out Ao.out; have j0 := Ad.get (i := 0) rfl; have j1 := Ad.get (i := 1) rfl; have j5 := (Aa.out.box H5.out Z5.out).get (i := 0) rfl; have j8 := (Aa.out.box H8.out Z8.out).get (i := 0) rfl; have j9 := (Aa.out.box H9.out Z9.out).get (i := 1) rfl; have CB := hide (qz HT.out (Aa.out.xr HX.out HZ.out) Aa.out.inv (HZ.out.next HX.out Aa.out) HN.out (r := a) An Ap.out (c1, c2)); clear Ab C Ad k0 k1 k5 k8)
  go_wp2_with (go_at_call 149; refine CB.out.mono ?_; rintro _ w4 ⟨rfl, Z4, Ah⟩; have Ai := hide (Aa.out.trans Ah); clear Ah CB)
  go_ret
  rw [HO.out]
  first | exact ⟨rfl, Z4, Ai.out⟩ | exact ⟨rfl, ⟨Z4, Ai.out⟩⟩
end
set_option maxRecDepth 100000
set_option maxHeartbeats 12800000
section
variable {S : Nat → Prop} {N0 : Nat} {K : cC} {T : Th} {Inv : dO} {Z : Nat → Prop} {w : World} {l : be} {v : Value} {ca : Option Addr} {cc q : Nat} {tag how rule : Int} {ch : List (Int × Int)}
theorem s8 (hT : Wt T K.n) (hX : Xr S N0 K T w) (hI : Inv Z l w) (hz : Zo S N0 Z) (hN : Nd K.n Inv v) (hqn : q < K.n) (hca : Chs w ca ch) (zca : ∀ g o, ca = some ⟨g, o, none⟩ → ch ≠ [] → ¬ Z g) :
    Calls Tryz.prog 113 #[aa K.q, jo (Sm tag q how rule ch) ca cc, v] w fun e w' => e = .returned (.bool (rowRule T (Sm tag q how rule ch)).1) ∧ ∃ Z2, Pz Inv Z w Z2 (l ++ (rowRule T (Sm tag q how rule ch)).2) w' := by
 have Av := hN.st
 have Am := hN.zl _ _ _ hI
 have Bk : ∀ (fn : Fn) (first cap : Array Value) (w : World), (Instr.makeFunc fn first cap).run Tryz.prog w = .ok (.func fn first cap) w := fun _ _ _ _ => rfl
 obtain ⟨hB, q5, q8, q9⟩ := three w (.cells #[aa K.q] 81) (.cells #[.int .i64 tag, .int .i64 q, .int .i64 how, .int .i64 rule, .slice ca ch.length cc] 32) (.cells #[v] 125)
 have HP := hide ((Pz.refl hI).below Av hB)
 have Z5 : Hid (¬ Z w.heap.size) := hide fun e => by have := Am _ e; omega
 have Z8 : Hid (¬ Z (w.heap.size + 1)) := hide fun e => by have := Am _ e; omega
 have Z9 : Hid (¬ Z (w.heap.size + 1 + 1)) := hide fun e => by have := Am _ e; omega
 have Af := hide Av
 have Ao := hX.go hB
 have H5 : Hid (Fx w.heap.size 81 [aa K.q] _) := hide q5
 have H8 : Hid (Fx (w.heap.size + 1) 32 [.int .i64 tag, .int .i64 q, .int .i64 how, .int .i64 rule, .slice ca ch.length cc] _) := hide q8
 have H9 : Hid (Fx (w.heap.size + 1 + 1) 125 [v] _) := hide q9
 obtain ⟨a, c, r0, AK, -⟩ := LL.row Ao.t hqn
 have b5 := Ao.bx.get (i := 5) rfl
 have AQ : (ag T kT q).length ≤ 140737488351232 := Nat.le_trans bg (Nat.le_trans hT.rl (by decide))
 have CC : Hid (∀ X : World, X.heap = (((w.alloc (.cells #[aa K.q] 81)).alloc (.cells #[.int .i64 tag, .int .i64 q, .int .i64 how, .int .i64 rule, .slice ca ch.length cc] 32)).alloc (.cells #[v] 125)).heap → Calls Tryz.prog 143 #[.slice a (ag T kT q).length c, .int .i64 rule] X fun e w' => e = .returned (.bool (decide (rule ∈ ag T kT q))) ∧ w' = X) := hide fun X hX => eL (fun i v hi => by obtain ⟨g, o, e, hc⟩ := AK i v hi; exact ⟨g, o, e, (World.cell?_of_block (by rw [hX])).trans hc⟩) AQ oE
 have HM : Hid (rule ∈ ag T kT q → Rn T rule) := hide fun h => dZ (bN h)
 have AV := hide (hT.body (t := 3) (.inr (.inr (.inl rfl))) rule)
 have HX := hide Ao
 have HZ := hide hz
 have HN := hide hN
 have HT := hide hT
 have AH := hide (hca.go hB)
 have AD := hide zca
 have k0 := H5.out.get (i := 0) rfl
 have k1 := H8.out.get (i := 1) rfl
 have k3 := H8.out.get (i := 3) rfl
 have Ax : Hid (rule ∈ ag T kT q → rowRule T (Sm tag q how rule ch) = ((eachM (ansX T q) (aG T q) ch).1, cS T rule 3 ++ ((row T.foes q).map fun x => (x, 2)) ++ (eachM (ansX T q) (aG T q) ch).2)) := hide fun h => by unfold rowRule; rw [if_pos h]
 have Au : Hid (rule ∉ ag T kT q → rowRule T (Sm tag q how rule ch) = (false, [])) := hide fun h => by unfold rowRule; rw [if_neg h]
 have Al := hide hqn
 generalize rowRule T (Sm tag q how rule ch) = o at *
 obtain ⟨fn, AU, rfl, hf, hc⟩ := hN.call
 have HC := hide hc
 clear hI hN hB Am Av hX Ao AK AQ hT hz hc hca zca q5 q8 q9
 generalize (ag T kT q).length = sl at *
 generalize hin : decide (rule ∈ ag T kT q) = inn at *
 go_enter Tryz.func113, Tryz.ntmps113
 go_upto_region 1 with fail
 generalize ((w.alloc (.cells #[aa K.q] 81)).alloc (.cells #[.int .i64 tag, .int .i64 q, .int .i64 how, .int .i64 rule, .slice ca ch.length cc] 32)).alloc (.cells #[.func (.func fn) #[] AU] 125) = w1 at *
 generalize w.heap.size = b at *
 cases inn with
 | false =>
  have HO : Hid (o = (false, [])) := hide (Au.out (of_decide_eq_false hin))
  clear hin Ax Au HM
  go_quiet ((go_at_call 143; exact Calls.quiet_of_same (CC.out _ rfl)))
  have HD := hide (fun m => HP.out.below Af.out (ah w1 m))
  go_wp2_with fail
  go_ret
  rw [HO.out]
  first | exact ⟨rfl, _, by rw [List.append_nil]; exact HD.out _⟩ | exact ⟨rfl, ⟨_, by rw [List.append_nil]; exact HD.out _⟩⟩
 | true =>
  have Ai := of_decide_eq_true hin
  obtain ⟨p, x, rfl, hx⟩ := HM.out Ai
  have HO := hide (Ax.out Ai)
  have HXr := hide hx
  clear hin Ax Au HM Ai hx
  go_quiet ((go_at_call 143; exact Calls.quiet_of_same (CC.out _ rfl)))
  rename Nat => n1
  have HD := hide (HP.out.below Af.out (ah w1 n1))
  have Ab := hide (HX.out.go (ah w1 n1))
  have Ak := hide (H5.out.keep (w' := w1.drewN n1) rfl)
  have Ap := hide (H8.out.keep (w' := w1.drewN n1) rfl)
  have Aj := hide (H9.out.keep (w' := w1.drewN n1) rfl)
  have Aw := hide (AH.out.go (ah w1 n1))
  clear k0 k1 k3 CC HP HX r0 b5 H5 H8 H9 AH hqn
  generalize w1.drewN n1 = w2 at *
  have k0 := Ak.out.get (i := 0) rfl
  have k3 := Ap.out.get (i := 3) rfl
  have k9 := Aj.out.get (i := 0) rfl
  have C := hide (fZ Ab.out HD.out.inv HZ.out HN.out HXr.out AV.out)
  go_upto_region 4 with (go_at_call 144; refine C.out.mono ?_; rintro _ w3 ⟨rfl, Z3, AL⟩; have Ag := hide AL; clear AL C)
  clear k0 k3 k9
  have An := hide (Ag.out.xr Ab.out HZ.out)
  have AJ := hide (Ag.out.box Ak.out Z5.out)
  have AN := hide (Ag.out.box Ap.out Z8.out)
  have Aq := Al.out
  obtain ⟨fl, Ad⟩ := am (l := T.foes) (i := q) (by rw [HT.out.fl]; exact Aq)
  have Ah := bn Ad
  obtain ⟨gf, of, a, c, AF, Bj, r0, -, Bl, AE⟩ := bH An.out.ta.foes Ad
  have b1 := An.out.bx.get (i := 1) rfl
  rw [AF] at b1
  have Bf : q < T.foes.length := (List.getElem?_eq_some_iff.1 Ad).1
  have Bi := An.out.ta.foes.lim
  have AG := hide (HT.out.fo q Aq)
  rw [Ah] at AG
  have Ba : Hid (o = ((eachM (ansX T q) (aG T q) ch).1, cS T p 3 ++ (fl.map fun x => (x, 2)) ++ (eachM (ansX T q) (aG T q) ch).2)) := hide (by rw [HO.out, Ah])
  have AC := hide AE
  have k0 := AJ.out.get (i := 0) rfl
  have k1 := AN.out.get (i := 1) rfl
  clear Ad Ah AE HO AF Aq
  go_quiet (fail)
  rename Nat => n3
  have Ar := hide (Ag.out.below Af.out (ah w3 n3))
  have AT : Hid (Ints N0 (w3.drewN n3) fl (.slice a fl.length c)) := hide (AC.out.keep (w' := w3.drewN n3) fun _ _ => rfl)
  clear k0 k1 r0 b1 AC Ag An AJ AN
  generalize w3.drewN n3 = w4 at *
  have Be := hide (Ar.out.xr Ab.out HZ.out)
  have Bg := Be.out.n0
  go_wp2_with fail
  go_loopw [36] (fun x wr => ∃ k : Nat, k ≤ fl.length ∧ x = .int .i64 k ∧ Hid (∃ Zk, Pz Inv Z w2 Zk (l ++ cS T p 3 ++ (fl.take k).map fun x => (x, 2)) wr)) (fun x _ => fl.length - (intOf x).toNat)
  case atStart => exact ⟨0, by omega, rfl, hide ⟨Z3, by simpa using Ar.out⟩⟩
  obtain ⟨k, hk, rfl, HPk⟩ := hrel
  by_cases hlt : k < fl.length
  ·obtain ⟨Zk, hp⟩ := HPk.out
   obtain ⟨y, hy⟩ := am hlt
   obtain ⟨g, og, rfl, At, cy⟩ := ji AT.out hy
   have Bn : wr.cell? ⟨g, og + k, none⟩ = some (.int .i64 y) := by
    have e1 : wr.heap[g]? = w2.heap[g]? := hp.fr.block g (Nat.lt_of_lt_of_le At Ab.out.n0) fun e => by have := (HZ.out g e).2; omega
    have e2 : w4.heap[g]? = w2.heap[g]? := Ar.out.fr.block g (Nat.lt_of_lt_of_le At Ab.out.n0) fun e => by have := (HZ.out g e).2; omega
    exact (World.cell?_of_block (e1.trans e2.symm)).trans cy
   have k9 := (hp.box Aj.out Z9.out).get (i := 0) rfl
   have AA := AG.out y (List.mem_of_getElem? hy)
   have C := hide (HC.out Zk _ wr y 2 hp.inv ⟨AA.1, AA.2, .inr (.inl rfl)⟩)
   have AS := hide hp
   have HY := hide (ng (t := 2) hy)
   clear cy hp HPk hy AA
   go_wp2_with fail
   refine C.out.mono ?_
   rintro _ w5 ⟨rfl, Z6, AP⟩
   have AZ := hide (AS.out.trans AP)
   clear AP C AS
   go_wp2_with fail
   go_roundw
   case rel => exact ⟨k + 1, by omega, by go_num, hide ⟨Z6, by rw [HY.out, ← List.append_assoc]; exact AZ.out⟩⟩
   case measure => simp [intOf]; omega
  have Bd : k = fl.length := by omega
  subst Bd
  obtain ⟨Zk, hp⟩ := HPk.out
  rw [List.take_length] at hp
  have Aa := hide hp
  clear hp HPk
  go_upto_region 9 with fail
  have Az := hide (Aa.out.box Ap.out Z8.out)
  have AM := hide (Aa.out.box Ak.out Z5.out)
  have Bc := hide (Aa.out.box Aj.out Z9.out)
  have HXk := hide (Aa.out.xr Ab.out HZ.out)
  have HZk := hide (HZ.out.next Ab.out Aa.out)
  have HCHk := hide (Aw.out.pz AD.out Aa.out)
  have Ae : ∀ {g : Nat}, ¬ Z g → g < w2.heap.size → ¬ Zk g := fun {g} hg hlt e => by
   rcases Aa.out.zn _ e with e | e
   ·exact hg e
   omega
  have Z5k := hide (Ae Z5.out Ak.out.lt)
  have Z8k := hide (Ae Z8.out Ap.out.lt)
  have Z9k := hide (Ae Z9.out Aj.out.lt)
  have HZCk : Hid (∀ g o, ca = some ⟨g, o, none⟩ → ch ≠ [] → ¬ Zk g) := hide fun g o e hne ez => by
   rcases Aa.out.zn _ ez with e2 | e2
   ·exact AD.out g o e hne e2
   obtain ⟨c0, Bb⟩ := am (l := ch) (i := 0) (by cases ch with | nil => exact absurd rfl hne | cons => simp)
   obtain ⟨g', o', e', k, -⟩ := Aw.out 0 c0 Bb
   rw [e] at e'
   cases e'
   have := World.block_lt_of_cell? _ _ k
   simp only at this
   omega
  have Ac : Below wr.heap.size wr wr.drew := (Below.refl _ _).drew
  obtain ⟨a2, c2, r2, As, AI⟩ := LL.row HXk.out.a Al.out
  have AR := rD HT.out (HXk.out.go Ac) HZk.out HN.out Al.out (AM.out.keep (w' := wr.drew) rfl) (Bc.out.keep (w' := wr.drew) rfl) (Az.out.keep (w' := wr.drew) rfl) Z5k.out Z9k.out Z8k.out
  have AO := HCHk.out.go Ac
  have AB : (aG T q).length ≤ 140737488351232 := Nat.le_trans g8 (Nat.le_trans HT.out.rl (by decide))
  have C := hide (jz (rc := c2) (cc := cc) AR (Pz.refl (Aa.out.below Af.out Ac).inv) (fun X Z2 l2 hp => tj (As.below Ac) (fun g o e hne => HZk.out.no (AI g o e hne)) hp) (fun X Z2 l2 hp => AO.pz HZCk.out hp) AB (fun r hr => dZ (m5 hr)))
  have AY := hide (HD.out.trans (Aa.out.below Af.out Ac))
  have h5 : S5 ⟨b, 0, none⟩ ⟨b + 1, 1, none⟩ ⟨b + 1, 4, none⟩ ⟨K.q, 6, none⟩ ⟨K.g2, q, none⟩ (aa K.q) (.int .i64 q) (.slice ca ch.length cc) (ay K.g2 K.n) (.slice a2 (aG T q).length c2) wr := ⟨AM.out.get (i := 0) rfl, Az.out.get (i := 1) rfl, Az.out.get (i := 4) rfl, HXk.out.bx.get (i := 6) rfl, r2⟩
  have AX : Hid (∀ X Z2 l2, Pz Inv Zk wr.drew Z2 l2 X → S5 ⟨b, 0, none⟩ ⟨b + 1, 1, none⟩ ⟨b + 1, 4, none⟩ ⟨K.q, 6, none⟩ ⟨K.g2, q, none⟩ (aa K.q) (.int .i64 q) (.slice ca ch.length cc) (ay K.g2 K.n) (.slice a2 (aG T q).length c2) X) := hide fun X Z2 l2 hp => S5.pz (w0 := wr.drew) h5 hp Z5k.out Z8k.out Z8k.out (HZk.out.no HXk.out.sq) (HZk.out.no (LL.blk HXk.out.a))
  have Bh := Al.out
  clear As AI r2 AR AO AB Ac Ae
  generalize eachM (ansX T q) (aG T q) ch = er at *
  generalize (aG T q).length = ol at *
  go_region_held3 (fun X : World => S5 ⟨b, 0, none⟩ ⟨b + 1, 1, none⟩ ⟨b + 1, 4, none⟩ ⟨K.q, 6, none⟩ ⟨K.g2, q, none⟩ (aa K.q) (.int .i64 q) (.slice ca ch.length cc) (ay K.g2 K.n) (.slice a2 ol c2) X) (first | exact S5.drew ‹_› | assumption) (first | (go_at_call 146; refine C.out.mono ?_; rintro e w' ⟨rfl, Z5, AW⟩; have Bm := AX.out _ _ _ AW))
  all_goals
   go_wp2_with fail
   go_ret
   rw [Ba.out]
   have Ay := AY.out.trans (by assumption)
   first | exact ⟨rfl, _, by simpa using Ay⟩ | exact ⟨rfl, ⟨_, by simpa using Ay⟩⟩
end
set_option maxRecDepth 100000
set_option maxHeartbeats 3200000
abbrev fv (k : Nat) : Value := .func (.func k) #[] #[]
abbrev tblA : Array Value := #[fv 109, fv 110, .nilFunc, .nilFunc, .nilFunc, .nilFunc, .nilFunc, fv 111, .nilFunc, .nilFunc, .nilFunc, fv 113, .nilFunc, fv 112, .nilFunc, .nilFunc, .nilFunc, fv 114, fv 115, fv 116]
abbrev lh : Array Value := #[.nilFunc, .nilFunc, .nilFunc, .nilFunc, .nilFunc, .nilFunc, .nilFunc, .nilFunc, .nilFunc, .nilFunc, .nilFunc, .nilFunc, .nilFunc, .nilFunc, .nilFunc, .nilFunc, .nilFunc, .nilFunc, .nilFunc, .nilFunc]
theorem kq {a w : World} {B b : Nat} (h : Below B a w) (hB : B ≤ b) (cs : Array Value) : Below B a (w.setRow b cs) := h.trans ⟨rfl, rfl, rfl, by simp, fun k hk => setRow_other _ _ _ _ (by omega)⟩
theorem vx (w : World) : Calls Tryz.prog 77 #[] w fun e w' => e = .returned (.agg tblA) ∧ Below w.heap.size w w' := by
 have hB := hide (ae w (.cells lh 129))
 have hQ : (w.alloc (.cells lh 129)).heap[w.heap.size]? = some (.cells lh 129 (0, 0)) := heap_alloc_new w _
 have HQ := hide hQ
 go_enter Tryz.func77, Tryz.ntmps77
 go_upto_region 1 with fail
 clear hQ
 generalize hW : w.alloc (.cells lh 129) = W at *
 clear hW
 refine wp_region_lit ?_
 iterate 5
  refine wpList_plain rfl fun K hK => ?_
  go_simp
  refine hK _ _ ?_
  clear hK
 refine wpList_plain rfl fun K hK => ?_
 refine wp_store_row 129 _ _ rfl w.heap.size tblA rfl rfl _ _ HQ.out (by kernel_rfl) rfl (by simp [Value.oneCell']) ?_
 refine hK _ _ ?_
 clear hK
 have HF := hide (setRow_heap W w.heap.size _ tblA _ _ HQ.out)
 have HB := hide (kq hB.out (Nat.le_refl _) tblA)
 generalize W.setRow w.heap.size tblA = Y at *
 go_wp2_with fail
 (try simp only [Exit.inBlock, Exit.then])
 refine bodyPost_ret (results_cell_row rfl _ _ w.heap.size 129 tblA _ _ rfl HF.out Tryz.underlying129 rfl (by kernel_rfl)) rfl ?_
 exact ⟨rfl, HB.out⟩
set_option maxRecDepth 100000
set_option maxHeartbeats 25600000
def eA (z : Int) : Prop := -9223372036854775808 ≤ z ∧ z < 9223372036854775808
theorem rF {t k : Int} (h : eA t) (hk : 0 ≤ k ∧ k ≤ 5) : bU (IntKind.i64.wrap (t - 1)) k = (decide (1 ≤ t) && decide (t ≤ k)) := by
 unfold eA at h
 by_cases h0 : t = -9223372036854775808
 ·subst h0
  have : IntKind.i64.wrap (-9223372036854775808 - 1) = 9223372036854775807 := by decide
  rw [this]
  unfold bU
  have h2 : ¬ (9223372036854775807 < k) := by omega
  simp [h2]
 have : IntKind.i64.wrap (t - 1) = t - 1 := by rw [IntKind.wrap_i64]; omega
 rw [this]
 unfold bU
 by_cases a : 1 ≤ t <;> by_cases b : t ≤ k <;> simp [a, b] <;> omega
theorem yd (W : World) : (binOp .neq 127 .nilFunc .nilFunc).run Tryz.prog W = .ok (.bool false) W := by kernel_rfl
theorem xU (k : Nat) (W : World) : (binOp .neq 127 (.func (.func k) #[] #[]) .nilFunc).run Tryz.prog W = .ok (.bool true) W := by kernel_rfl
section
variable {S : Nat → Prop} {N0 : Nat} {K : cC} {T : Th} {Inv : dO} {Z : Nat → Prop} {w : World} {l : be} {v : Value} {ca : Option Addr} {cc : Nat} {tag lit how rule : Int} {ch : List (Int × Int)}
theorem vR {s : StM} (h : bU s.lit T.lits = false) : formM T s = (false, []) := by unfold formM; rw [h]; rfl
theorem qZ {s : StM} (h : bU s.lit T.lits = true) : formM T s = jF T s := by unfold formM; rw [h]; rfl
theorem xP {s : StM} (h : ¬ (1 ≤ s.tag ∧ s.tag ≤ 4)) : jF T s = (false, []) := by
 unfold jF
 repeat (rw [if_neg (by omega)])
theorem xS {s : StM} (h : ¬ (1 ≤ s.how ∧ s.how ≤ 5)) : jF T s = (false, []) := by
 unfold jF
 repeat (rw [if_neg (by omega)])
theorem lU (hT : Wt T K.n) (hX : Xr S N0 K T w) (hI : Inv Z l w) (hz : Zo S N0 Z) (hN : Nd K.n Inv v) (ht : eA tag) (hh : eA how) (hl : ch.length ≤ 140737488351232) (hca : Chs w ca ch) (zca : ∀ g o, ca = some ⟨g, o, none⟩ → ch ≠ [] → ¬ Z g) :
    Calls Tryz.prog 40 #[aa K.q, jo ⟨tag, lit, how, rule, ch⟩ ca cc, v] w fun e w' => e = .returned (.bool (formM T ⟨tag, lit, how, rule, ch⟩).1) ∧ ∃ Z2, Pz Inv Z w Z2 (l ++ (formM T ⟨tag, lit, how, rule, ch⟩).2) w' := by
 have AA := hN.st
 have hB := ae w (.cells #[.int .i64 tag, .int .i64 lit, .int .i64 how, .int .i64 rule, .slice ca ch.length cc] 32)
 have hQ : Fx w.heap.size 32 [.int .i64 tag, .int .i64 lit, .int .i64 how, .int .i64 rule, .slice ca ch.length cc] (w.alloc (.cells #[.int .i64 tag, .int .i64 lit, .int .i64 how, .int .i64 rule, .slice ca ch.length cc] 32)) := heap_alloc_new w _
 have HP := hide ((Pz.refl hI).below AA hB)
 have HX := hide (hX.go hB)
 have HQ := hide hQ
 have Ay := hide AA
 have HT := hide hT
 have HZ := hide hz
 have HN := hide hN
 have AI := hide (hca.go hB)
 have Aq := hide zca
 have AQ := hide hT.ln
 have AJ := hide ht
 have AL := hide hh
 obtain ⟨o, ho⟩ : ∃ o, formM T ⟨tag, lit, how, rule, ch⟩ = o := ⟨_, rfl⟩
 have HO := hide ho
 rw [ho]
 obtain ⟨fn, AS, rfl, -, -⟩ := hN.call
 clear hT hX hI hz hN hB hQ AA hca zca ho ht hh
 go_enter Tryz.func40, Tryz.ntmps40
 go_upto_region 1 with fail
 generalize w.alloc (.cells #[.int .i64 tag, .int .i64 lit, .int .i64 how, .int .i64 rule, .slice ca ch.length cc] 32) = w1 at *
 generalize w.heap.size = b at *
 refine wp_region_lit ?_
 refine wpList_plain rfl fun K1 hK => ?_
 go_simp
 go_at_call 77
 refine (vx w1).mono ?_
 rintro _ w2 ⟨rfl, AG⟩
 refine hK _ _ ?_
 clear hK
 have Au := hide AG
 clear AG
 refine wpList_plain rfl fun K1 hK => ?_
 go_simp
 refine hK _ _ ?_
 clear hK
 have Aw : Hid ((w2.alloc (.cells lh 129)).heap[w2.heap.size]? = some (.cells lh 129 (0, 0))) := hide (heap_alloc_new w2 _)
 have HA := hide (Au.out.trans ((ae w2 (.cells lh 129)).mono Au.out.size))
 generalize w2.alloc (.cells lh 129) = w3 at *
 refine wpList_plain rfl fun K1 hK => ?_
 refine wp_store_row 129 _ _ rfl w2.heap.size tblA rfl rfl _ _ Aw.out (by kernel_rfl) rfl (by simp [Value.oneCell']) ?_
 refine hK _ _ ?_
 clear hK
 have HF := hide (setRow_heap w3 w2.heap.size _ tblA _ _ Aw.out)
 have An := hide (kq HA.out Au.out.size tblA)
 clear Aw HA Au
 generalize w3.setRow w2.heap.size tblA = w4 at *
 generalize w2.heap.size = tb at *
 have AH := hide (HP.out.below Ay.out An.out)
 have AM := hide (HX.out.go An.out)
 have At := hide (HQ.out.keep (An.out.block _ HQ.out.lt))
 have Av := hide (AI.out.go An.out)
 clear HP HX HQ AI An
 have k0 := At.out.get (i := 0) rfl
 have k2 := At.out.get (i := 2) rfl
 have Ar := hide (rF (k := 4) AJ.out (by omega))
 have Am := hide (rF (k := 5) AL.out (by omega))
 obtain ⟨tw, AB⟩ : ∃ z, IntKind.i64.wrap (tag - 1) = z := ⟨_, rfl⟩
 obtain ⟨hw, Az⟩ : ∃ z, IntKind.i64.wrap (how - 1) = z := ⟨_, rfl⟩
 rw [AB] at Ar
 rw [Az] at Am
 go_wp2_with fail
 go_quiet (fail)
 rename Nat => n1
 have AN := hide (AH.out.below Ay.out (ah w4 n1))
 have Ax := hide (AM.out.go (ah w4 n1))
 have AC := hide (At.out.keep (w' := w4.drewN n1) rfl)
 have AD := hide (Av.out.go (ah w4 n1))
 have AK : Hid ((w4.drewN n1).heap[tb]? = some (.cells tblA 129 (0, 0))) := hide HF.out
 have Ap := hide AB
 have Ag := hide Az
 clear k0 k2 AH AM At Av HF AB Az AJ AL
 generalize w4.drewN n1 = w5 at *
 have k1 := AC.out.get (i := 1) rfl
 have b0 := Ax.out.bx.get (i := 0) rfl
 have CW := hide eZ
 go_wp2_with fail
 have Ai := hide (fun m => AN.out.below Ay.out (ah w5 m))
 cases hlit : bU lit T.lits with
 | false =>
  have Ao : Hid (o = (false, [])) := hide (by rw [← HO.out]; exact vR hlit)
  go_quiet ((go_at_call 63; exact Calls.quiet_of_same (CW.out _ _ _)))
  go_wp2_with fail
  go_ret
  rw [Ao.out]
  first | exact ⟨rfl, _, by rw [List.append_nil]; exact Ai.out _⟩ | exact ⟨rfl, ⟨_, by rw [List.append_nil]; exact Ai.out _⟩⟩
 | true =>
  have Af : Hid (jF T ⟨tag, lit, how, rule, ch⟩ = o) := hide (by rw [← HO.out]; exact (qZ hlit).symm)
  clear HO
  cases htg : bU tw 4 with
  | false =>
   have Ao : Hid (o = (false, [])) := hide (by
    rw [← Af.out]
    refine xP fun h => ?_
    have := Ar.out
    rw [htg] at this
    simp [h.1, h.2] at this)
   go_quiet ((go_at_call 63; exact Calls.quiet_of_same (CW.out _ _ _)))
   go_wp2_with fail
   go_ret
   rw [Ao.out]
   first | exact ⟨rfl, _, by rw [List.append_nil]; exact Ai.out _⟩ | exact ⟨rfl, ⟨_, by rw [List.append_nil]; exact Ai.out _⟩⟩
  | true =>
   cases hhg : bU hw 5 with
   | false =>
    have Ao : Hid (o = (false, [])) := hide (by
     rw [← Af.out]
     refine xS fun h => ?_
     have := Am.out
     rw [hhg] at this
     simp [h.1, h.2] at this)
    go_quiet ((go_at_call 63; exact Calls.quiet_of_same (CW.out _ _ _)))
    go_wp2_with fail
    go_ret
    rw [Ao.out]
    first | exact ⟨rfl, _, by rw [List.append_nil]; exact Ai.out _⟩ | exact ⟨rfl, ⟨_, by rw [List.append_nil]; exact Ai.out _⟩⟩
   | true =>
    have AO : 1 ≤ tag ∧ tag ≤ 4 := by
     have := Ar.out
     rw [htg] at this
     simpa using this.symm
    have AR : 1 ≤ how ∧ how ≤ 5 := by
     have := Am.out
     rw [hhg] at this
     simpa using this.symm
    have AF := hide (eV hlit)
    go_quiet ((go_at_call 63; exact Calls.quiet_of_same (CW.out _ _ _)))
    rename Nat => n2
    have Aa := hide (Ai.out n2)
    have Ak := hide (Ax.out.go (ah w5 n2))
    have Ab := hide (AC.out.keep (w' := w5.drewN n2) rfl)
    have Al := hide (AD.out.go (ah w5 n2))
    have Ah : Hid (Fx tb 129 tblA.toList (w5.drewN n2)) := hide AK.out
    clear k1 b0 AN Ax AC AD AK Ai CW htg hhg hlit
    generalize w5.drewN n2 = w6 at *
    have AE : (tag = 1 ∨ tag = 2 ∨ tag = 3 ∨ tag = 4) ∧ (how = 1 ∨ how = 2 ∨ how = 3 ∨ how = 4 ∨ how = 5) := by omega
    clear AO AR Ar Am
    obtain ⟨AP, As⟩ := AE
    obtain ⟨q, rfl⟩ := Int.eq_ofNat_of_zero_le AF.out.1
    have Aj : Hid (q < K.n) := hide (by have := AQ.out; have := AF.out; omega)
    have AT : ∀ W, (binOp .neq 127 .nilFunc .nilFunc).run Tryz.prog W = .ok (.bool false) W := yd
    have AU : ∀ k W, (binOp .neq 127 (.func (.func k) #[] #[]) .nilFunc).run Tryz.prog W = .ok (.bool true) W := xU
    rcases AP with rfl | rfl | rfl | rfl
    ·obtain rfl : tw = 0 := by rw [← Ap.out]; decide
     rcases As with rfl | rfl | rfl | rfl | rfl
     ·obtain rfl : hw = 0 := by rw [← Ag.out]; decide
      have kf := Ah.out.get (i := 0) rfl
      have k0 := Ab.out.get (i := 0) rfl
      have k1 := Ab.out.get (i := 1) rfl
      have k2 := Ab.out.get (i := 2) rfl
      have k3 := Ab.out.get (i := 3) rfl
      have k4 := Ab.out.get (i := 4) rfl
      have Ac : Hid (o = jw (Sm 1 q 1 rule ch)) := hide (by rw [← Af.out]; rfl)
      have C := hide (sR Aa.out.inv HN.out hl (tag := 1) (how := 1) (q := q) (rule := rule) (cc := cc) (ca := ca))
      go_wp2_with (go_at_call 109; refine C.out.mono ?_; rintro _ w7 ⟨rfl, Z7, Ad⟩; have Ae := hide (Aa.out.trans Ad); clear Ad C)
      go_ret
      rw [Ac.out]
      first | exact ⟨rfl, Z7, Ae.out⟩ | exact ⟨rfl, ⟨Z7, Ae.out⟩⟩
     ·obtain rfl : hw = 1 := by rw [← Ag.out]; decide
      have kf := Ah.out.get (i := 1) rfl
      have k0 := Ab.out.get (i := 0) rfl
      have k1 := Ab.out.get (i := 1) rfl
      have k2 := Ab.out.get (i := 2) rfl
      have k3 := Ab.out.get (i := 3) rfl
      have k4 := Ab.out.get (i := 4) rfl
      have Ac : Hid (o = rowStrict T (Sm 1 q 2 rule ch)) := hide (by rw [← Af.out]; rfl)
      have C := hide (mJ HT.out Ak.out Aa.out.inv HZ.out HN.out hl Aj.out (tag := 1) (how := 2) (q := q) (rule := rule) (cc := cc) (ca := ca))
      go_wp2_with (go_at_call 110; refine C.out.mono ?_; rintro _ w7 ⟨rfl, Z7, Ad⟩; have Ae := hide (Aa.out.trans Ad); clear Ad C)
      go_ret
      rw [Ac.out]
      first | exact ⟨rfl, Z7, Ae.out⟩ | exact ⟨rfl, ⟨Z7, Ae.out⟩⟩
     ·obtain rfl : hw = 2 := by rw [← Ag.out]; decide
      have kf := Ah.out.get (i := 2) rfl
      have Ac : Hid (o = (false, [])) := hide (by rw [← Af.out]; rfl)
      go_wp2_with fail
      go_ret
      rw [Ac.out]
      first | exact ⟨rfl, _, by rw [List.append_nil]; exact Aa.out⟩ | exact ⟨rfl, ⟨_, by rw [List.append_nil]; exact Aa.out⟩⟩
     ·obtain rfl : hw = 3 := by rw [← Ag.out]; decide
      have kf := Ah.out.get (i := 3) rfl
      have Ac : Hid (o = (false, [])) := hide (by rw [← Af.out]; rfl)
      go_wp2_with fail
      go_ret
      rw [Ac.out]
      first | exact ⟨rfl, _, by rw [List.append_nil]; exact Aa.out⟩ | exact ⟨rfl, ⟨_, by rw [List.append_nil]; exact Aa.out⟩⟩
     obtain rfl : hw = 4 := by rw [← Ag.out]; decide
     have kf := Ah.out.get (i := 4) rfl
     have Ac : Hid (o = (false, [])) := hide (by rw [← Af.out]; rfl)
     go_wp2_with fail
     go_ret
     rw [Ac.out]
     first | exact ⟨rfl, _, by rw [List.append_nil]; exact Aa.out⟩ | exact ⟨rfl, ⟨_, by rw [List.append_nil]; exact Aa.out⟩⟩
    ·obtain rfl : tw = 1 := by rw [← Ap.out]; decide
     rcases As with rfl | rfl | rfl | rfl | rfl
     ·obtain rfl : hw = 0 := by rw [← Ag.out]; decide
      have kf := Ah.out.get (i := 5) rfl
      have Ac : Hid (o = (false, [])) := hide (by rw [← Af.out]; rfl)
      go_wp2_with fail
      go_ret
      rw [Ac.out]
      first | exact ⟨rfl, _, by rw [List.append_nil]; exact Aa.out⟩ | exact ⟨rfl, ⟨_, by rw [List.append_nil]; exact Aa.out⟩⟩
     ·obtain rfl : hw = 1 := by rw [← Ag.out]; decide
      have kf := Ah.out.get (i := 6) rfl
      have Ac : Hid (o = (false, [])) := hide (by rw [← Af.out]; rfl)
      go_wp2_with fail
      go_ret
      rw [Ac.out]
      first | exact ⟨rfl, _, by rw [List.append_nil]; exact Aa.out⟩ | exact ⟨rfl, ⟨_, by rw [List.append_nil]; exact Aa.out⟩⟩
     ·obtain rfl : hw = 2 := by rw [← Ag.out]; decide
      have kf := Ah.out.get (i := 7) rfl
      have k0 := Ab.out.get (i := 0) rfl
      have k1 := Ab.out.get (i := 1) rfl
      have k2 := Ab.out.get (i := 2) rfl
      have k3 := Ab.out.get (i := 3) rfl
      have k4 := Ab.out.get (i := 4) rfl
      have Ac : Hid (o = rowNoStrict T (Sm 2 q 3 rule ch)) := hide (by rw [← Af.out]; rfl)
      have C := hide (oD HT.out Ak.out Aa.out.inv HZ.out HN.out Aj.out Al.out Aq.out (tag := 2) (how := 3) (q := q) (rule := rule) (cc := cc) (ca := ca))
      go_wp2_with (go_at_call 111; refine C.out.mono ?_; rintro _ w7 ⟨rfl, Z7, Ad⟩; have Ae := hide (Aa.out.trans Ad); clear Ad C)
      go_ret
      rw [Ac.out]
      first | exact ⟨rfl, Z7, Ae.out⟩ | exact ⟨rfl, ⟨Z7, Ae.out⟩⟩
     ·obtain rfl : hw = 3 := by rw [← Ag.out]; decide
      have kf := Ah.out.get (i := 8) rfl
      have Ac : Hid (o = (false, [])) := hide (by rw [← Af.out]; rfl)
      go_wp2_with fail
      go_ret
      rw [Ac.out]
      first | exact ⟨rfl, _, by rw [List.append_nil]; exact Aa.out⟩ | exact ⟨rfl, ⟨_, by rw [List.append_nil]; exact Aa.out⟩⟩
     obtain rfl : hw = 4 := by rw [← Ag.out]; decide
     have kf := Ah.out.get (i := 9) rfl
     have Ac : Hid (o = (false, [])) := hide (by rw [← Af.out]; rfl)
     go_wp2_with fail
     go_ret
     rw [Ac.out]
     first | exact ⟨rfl, _, by rw [List.append_nil]; exact Aa.out⟩ | exact ⟨rfl, ⟨_, by rw [List.append_nil]; exact Aa.out⟩⟩
    ·obtain rfl : tw = 2 := by rw [← Ap.out]; decide
     rcases As with rfl | rfl | rfl | rfl | rfl
     ·obtain rfl : hw = 0 := by rw [← Ag.out]; decide
      have kf := Ah.out.get (i := 10) rfl
      have Ac : Hid (o = (false, [])) := hide (by rw [← Af.out]; rfl)
      go_wp2_with fail
      go_ret
      rw [Ac.out]
      first | exact ⟨rfl, _, by rw [List.append_nil]; exact Aa.out⟩ | exact ⟨rfl, ⟨_, by rw [List.append_nil]; exact Aa.out⟩⟩
     ·obtain rfl : hw = 1 := by rw [← Ag.out]; decide
      have kf := Ah.out.get (i := 11) rfl
      have k0 := Ab.out.get (i := 0) rfl
      have k1 := Ab.out.get (i := 1) rfl
      have k2 := Ab.out.get (i := 2) rfl
      have k3 := Ab.out.get (i := 3) rfl
      have k4 := Ab.out.get (i := 4) rfl
      have Ac : Hid (o = rowRule T (Sm 3 q 2 rule ch)) := hide (by rw [← Af.out]; rfl)
      have C := hide (s8 HT.out Ak.out Aa.out.inv HZ.out HN.out Aj.out Al.out Aq.out (tag := 3) (how := 2) (q := q) (rule := rule) (cc := cc) (ca := ca))
      go_wp2_with (go_at_call 113; refine C.out.mono ?_; rintro _ w7 ⟨rfl, Z7, Ad⟩; have Ae := hide (Aa.out.trans Ad); clear Ad C)
      go_ret
      rw [Ac.out]
      first | exact ⟨rfl, Z7, Ae.out⟩ | exact ⟨rfl, ⟨Z7, Ae.out⟩⟩
     ·obtain rfl : hw = 2 := by rw [← Ag.out]; decide
      have kf := Ah.out.get (i := 12) rfl
      have Ac : Hid (o = (false, [])) := hide (by rw [← Af.out]; rfl)
      go_wp2_with fail
      go_ret
      rw [Ac.out]
      first | exact ⟨rfl, _, by rw [List.append_nil]; exact Aa.out⟩ | exact ⟨rfl, ⟨_, by rw [List.append_nil]; exact Aa.out⟩⟩
     ·obtain rfl : hw = 3 := by rw [← Ag.out]; decide
      have kf := Ah.out.get (i := 13) rfl
      have k0 := Ab.out.get (i := 0) rfl
      have k1 := Ab.out.get (i := 1) rfl
      have k2 := Ab.out.get (i := 2) rfl
      have k3 := Ab.out.get (i := 3) rfl
      have k4 := Ab.out.get (i := 4) rfl
      have Ac : Hid (o = gu (Sm 3 q 4 rule ch)) := hide (by rw [← Af.out]; rfl)
      have C := hide (ss Aa.out.inv HN.out hl Aj.out (tag := 3) (how := 4) (q := q) (rule := rule) (cc := cc) (ca := ca))
      go_wp2_with (go_at_call 112; refine C.out.mono ?_; rintro _ w7 ⟨rfl, Z7, Ad⟩; have Ae := hide (Aa.out.trans Ad); clear Ad C)
      go_ret
      rw [Ac.out]
      first | exact ⟨rfl, Z7, Ae.out⟩ | exact ⟨rfl, ⟨Z7, Ae.out⟩⟩
     obtain rfl : hw = 4 := by rw [← Ag.out]; decide
     have kf := Ah.out.get (i := 14) rfl
     have Ac : Hid (o = (false, [])) := hide (by rw [← Af.out]; rfl)
     go_wp2_with fail
     go_ret
     rw [Ac.out]
     first | exact ⟨rfl, _, by rw [List.append_nil]; exact Aa.out⟩ | exact ⟨rfl, ⟨_, by rw [List.append_nil]; exact Aa.out⟩⟩
    obtain rfl : tw = 3 := by rw [← Ap.out]; decide
    rcases As with rfl | rfl | rfl | rfl | rfl
    ·obtain rfl : hw = 0 := by rw [← Ag.out]; decide
     have kf := Ah.out.get (i := 15) rfl
     have Ac : Hid (o = (false, [])) := hide (by rw [← Af.out]; rfl)
     go_wp2_with fail
     go_ret
     rw [Ac.out]
     first | exact ⟨rfl, _, by rw [List.append_nil]; exact Aa.out⟩ | exact ⟨rfl, ⟨_, by rw [List.append_nil]; exact Aa.out⟩⟩
    ·obtain rfl : hw = 1 := by rw [← Ag.out]; decide
     have kf := Ah.out.get (i := 16) rfl
     have Ac : Hid (o = (false, [])) := hide (by rw [← Af.out]; rfl)
     go_wp2_with fail
     go_ret
     rw [Ac.out]
     first | exact ⟨rfl, _, by rw [List.append_nil]; exact Aa.out⟩ | exact ⟨rfl, ⟨_, by rw [List.append_nil]; exact Aa.out⟩⟩
    ·obtain rfl : hw = 2 := by rw [← Ag.out]; decide
     have kf := Ah.out.get (i := 17) rfl
     have k0 := Ab.out.get (i := 0) rfl
     have k1 := Ab.out.get (i := 1) rfl
     have k2 := Ab.out.get (i := 2) rfl
     have k3 := Ab.out.get (i := 3) rfl
     have k4 := Ab.out.get (i := 4) rfl
     have Ac : Hid (o = rowNoRule T (Sm 4 q 3 rule ch)) := hide (by rw [← Af.out]; rfl)
     have C := hide (pQ HT.out Ak.out Aa.out.inv HZ.out HN.out Aj.out Al.out Aq.out (tag := 4) (how := 3) (q := q) (rule := rule) (cc := cc) (ca := ca))
     go_wp2_with (go_at_call 114; refine C.out.mono ?_; rintro _ w7 ⟨rfl, Z7, Ad⟩; have Ae := hide (Aa.out.trans Ad); clear Ad C)
     go_ret
     rw [Ac.out]
     first | exact ⟨rfl, Z7, Ae.out⟩ | exact ⟨rfl, ⟨Z7, Ae.out⟩⟩
    ·obtain rfl : hw = 3 := by rw [← Ag.out]; decide
     have kf := Ah.out.get (i := 18) rfl
     have k0 := Ab.out.get (i := 0) rfl
     have k1 := Ab.out.get (i := 1) rfl
     have k2 := Ab.out.get (i := 2) rfl
     have k3 := Ab.out.get (i := 3) rfl
     have k4 := Ab.out.get (i := 4) rfl
     have Ac : Hid (o = rowFoe T (Sm 4 q 4 rule ch)) := hide (by rw [← Af.out]; rfl)
     have C := hide (nO HT.out Ak.out Aa.out.inv HZ.out HN.out hl Aj.out (tag := 4) (how := 4) (q := q) (rule := rule) (cc := cc) (ca := ca))
     go_wp2_with (go_at_call 115; refine C.out.mono ?_; rintro _ w7 ⟨rfl, Z7, Ad⟩; have Ae := hide (Aa.out.trans Ad); clear Ad C)
     go_ret
     rw [Ac.out]
     first | exact ⟨rfl, Z7, Ae.out⟩ | exact ⟨rfl, ⟨Z7, Ae.out⟩⟩
    obtain rfl : hw = 4 := by rw [← Ag.out]; decide
    have kf := Ah.out.get (i := 19) rfl
    have k0 := Ab.out.get (i := 0) rfl
    have k1 := Ab.out.get (i := 1) rfl
    have k2 := Ab.out.get (i := 2) rfl
    have k3 := Ab.out.get (i := 3) rfl
    have k4 := Ab.out.get (i := 4) rfl
    have Ac : Hid (o = rowBeaten T (Sm 4 q 5 rule ch)) := hide (by rw [← Af.out]; rfl)
    have C := hide (oS HT.out Ak.out Aa.out.inv HZ.out HN.out Aj.out Al.out Aq.out (tag := 4) (how := 5) (q := q) (rule := rule) (cc := cc) (ca := ca))
    go_wp2_with (go_at_call 116; refine C.out.mono ?_; rintro _ w7 ⟨rfl, Z7, Ad⟩; have Ae := hide (Aa.out.trans Ad); clear Ad C)
    go_ret
    rw [Ac.out]
    first | exact ⟨rfl, Z7, Ae.out⟩ | exact ⟨rfl, ⟨Z7, Ae.out⟩⟩
end
end Go.Proofs.YtmlhcncagdfjfaaGreat.De
