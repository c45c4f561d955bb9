import Derived.Test.YtmlhcncagdfjfaaGreatDrA
import Derived.Test.YtmlhcncagdfjfaaGreatFsM
set_option maxRecDepth 100000
set_option maxHeartbeats 6400000
namespace Go.Proofs.YtmlhcncagdfjfaaGreat.De
open Go.RowKit Fa
structure Pm (K : cC) (pq fm sd : Nat) (F : List Int) (f : Int → Int) (w : World) : Prop where
 bx : Fx pq 108 [aa K.q, ay fm K.n, ay sd K.n] w
 ff : Fx fm 4 (cq K.n fun z => decide (z ∈ F)) w
 sd : Fx sd 67 (eQ K.n f) w
section
variable {K : cC} {pq fm sd : Nat} {F : List Int} {f : Int → Int} {w w' : World}
theorem Pm.keep (h : Pm K pq fm sd F f w) (hk : ∀ g, g = pq ∨ g = fm ∨ g = sd → w'.heap[g]? = w.heap[g]?) : Pm K pq fm sd F f w' := ⟨h.bx.keep (hk _ (.inl rfl)), h.ff.keep (hk _ (.inr (.inl rfl))), h.sd.keep (hk _ (.inr (.inr rfl)))⟩
theorem Pm.go (h : Pm K pq fm sd F f w) (hb : Below w.heap.size w w') : Pm K pq fm sd F f w' := h.keep fun g hg => hb.block g (by
 rcases hg with rfl | rfl | rfl
 ·exact h.bx.lt
 ·exact h.ff.lt
 exact h.sd.lt)
theorem Pm.say (h : Pm K pq fm sd F f w) {q : Nat} (hq : q < K.n) (v : Int) : Pm K pq fm sd F (aA f q v) (w.setCell ⟨sd, q, none⟩ (.int .u8 v)) :=
 ⟨h.bx.keep (other_set (an h.bx h.sd (by decide))), h.ff.keep (other_set (an h.ff h.sd (by decide))), by have := h.sd.set q (.int .u8 v); rw [mG hq] at this; exact this⟩
theorem dc (h : Pm K pq fm sd F f w) {q : Nat} (hq : q < K.n) {t : Int} (ht : aw t) :
    Calls Tryz.prog 67 #[aa pq, .int .i64 q, .int .i64 t] w fun e w' => e = .returned (.bool (hb (f q) t)) ∧ Below w.heap.size w w' := by
 have k2 := h.bx.get (i := 2) rfl
 have cm := h.sd.get (jl hq)
 have CB := hide fun X : World => fJ (w := X) ht
 have HS : Hid ((bits .and .u8 (f q) (bitM t) != 0) = hb (f q) t) := hide rfl
 generalize hb (f q) t = o at *
 generalize f q = x at *
 generalize bitM t = y at *
 clear h ht
 go_enter Tryz.func67, Tryz.ntmps67
 go_upto_region 1 with fail
 go_quiet ((go_at_call 65; exact Calls.quiet_of_same (CB.out _)))
 go_wp2_with fail
 go_ret
 exact ⟨by rw [← HS.out]; rfl, ah w _⟩
def sayM (n : Nat) (f : Int → Int) (s : StM) : Int → Int := if bU s.lit n && fj s.tag then aA f s.lit (dt (f s.lit) s.tag) else f
theorem xO {t : Int} (h : fj t = true) : aw t := by
 unfold fj at h
 simp at h
 unfold aw
 omega
theorem rG {S : Nat → Prop} {N0 : Nat} {T : Th} (hT : Wt T K.n) (hX : Xr S N0 K T w) (h : Pm K pq fm sd F f w) (s : StM) (ca : Option Addr) (cc : Nat) :
    Calls Tryz.prog 33 #[aa pq, jo s ca cc] w fun e w' => e = .returned (.tuple #[]) ∧ Pm K pq fm sd F (sayM K.n f s) w' ∧ Fr (fun k => k = sd) w w' := by
 obtain ⟨tag, lit, how, rule, ch⟩ := s
 have hB := ae w (.cells #[.int .i64 tag, .int .i64 lit, .int .i64 how, .int .i64 rule, .slice ca ch.length cc] 32)
 have hQ : Fx w.heap.size 32 [.int .i64 tag, .int .i64 lit, .int .i64 how, .int .i64 rule, .slice ca ch.length cc] (w.alloc (.cells #[.int .i64 tag, .int .i64 lit, .int .i64 how, .int .i64 rule, .slice ca ch.length cc] 32)) := heap_alloc_new w _
 have Aa := hX.go hB
 have h1 := h.go hB
 have k0 := hQ.get (i := 0) rfl
 have k1 := hQ.get (i := 1) rfl
 have p0 := h1.bx.get (i := 0) rfl
 have p2 := h1.bx.get (i := 2) rfl
 have b0 := Aa.bx.get (i := 0) rfl
 rw [hT.ln] at b0
 have HB : Hid (Fr (fun k => k = sd) w _) := hide (Fr.of_below hB)
 have H1 := hide h1
 have CW := hide eZ
 have CT := hide oX
 have Ag : Tryz.prog.follows .mixedOrders = true := by kernel_rfl
 have HR : Hid (sayM K.n f ⟨tag, lit, how, rule, ch⟩ = if bU lit K.n && fj tag then aA f lit (dt (f lit) tag) else f) := hide rfl
 generalize sayM K.n f ⟨tag, lit, how, rule, ch⟩ = f2 at *
 clear hT hX h hB hQ Aa h1
 show Calls Tryz.prog 33 #[aa pq, .agg #[.int .i64 tag, .int .i64 lit, .int .i64 how, .int .i64 rule, .slice ca ch.length cc]] w _
 go_enter Tryz.func33, Tryz.ntmps33
 go_upto_region 1 with fail
 generalize w.alloc (.cells #[.int .i64 tag, .int .i64 lit, .int .i64 how, .int .i64 rule, .slice ca ch.length cc] 32) = w1 at *
 generalize w.heap.size = b at *
 have HE := hide (fun m => HB.out.trans (Fr.of_below (ah w1 m)))
 cases hi : bU lit K.n with
 | false =>
  have HO : Hid (f2 = f) := hide (by rw [HR.out, hi]; rfl)
  go_quiet ((go_at_call 63; exact Calls.quiet_of_same (CW.out _ _ _)))
  go_wp2_with fail
  go_end0
  rw [HO.out]
  exact ⟨rfl, H1.out.go (ah w1 _), HE.out _⟩
 | true =>
  cases ht : fj tag with
  | false =>
   have HO : Hid (f2 = f) := hide (by rw [HR.out, ht, Bool.and_false]; rfl)
   go_quiet (first | (go_at_call 63; exact Calls.quiet_of_same (CW.out _ _ _)) | (go_at_call 64; exact Calls.quiet_of_same (CT.out _ _)))
   go_wp2_with fail
   go_end0
   rw [HO.out]
   exact ⟨rfl, H1.out.go (ah w1 _), HE.out _⟩
  | true =>
   obtain ⟨l0, l1⟩ := eV hi
   have HO : Hid (f2 = aA f lit (dt (f lit) tag)) := hide (by rw [HR.out, hi, ht]; rfl)
   have Ae := xO ht
   go_quiet (first | (go_at_call 63; exact Calls.quiet_of_same (CW.out _ _ _)) | (go_at_call 64; exact Calls.quiet_of_same (CT.out _ _)))
   rename Nat => n1
   have Ad := hide (HE.out n1)
   have H2 := hide (H1.out.go (ah w1 n1))
   have Ai : (w1.drewN n1).cell? ⟨b, 0, none⟩ = some (.int .i64 tag) := k0
   have Aj : (w1.drewN n1).cell? ⟨b, 1, none⟩ = some (.int .i64 lit) := k1
   have Ak : (w1.drewN n1).cell? ⟨pq, 2, none⟩ = some (ay sd K.n) := p2
   clear k0 k1 p0 p2 b0 CW CT HE HB H1 hi ht
   generalize w1.drewN n1 = w2 at *
   obtain ⟨q, rfl⟩ := Int.eq_ofNat_of_zero_le l0
   have Ab : q < K.n := by omega
   have cm := H2.out.sd.get (jl Ab)
   have fz := H2.out.sd.frz q
   have CB := hide fun X : World => fJ (w := X) Ae
   have HV : Hid (f2 = aA f (q : Int) (bits .or .u8 (f q) (bitM tag))) := hide HO.out
   clear HO HR
   generalize f q = x at cm HV
   generalize bitM tag = y at *
   go_wp2_with fail
   refine aK (by assumption) (by kernel_rfl) (by kernel_rfl) (by kernel_rfl) (by kernel_rfl) ?_
   dsimp only [List.dropLast, List.getLast, List.cons_append, List.nil_append]
   repeat (go_big_quiet_step ((go_at_call 65; exact Calls.quiet_of_same (CB.out _))))
   refine wpQuiet_nil ?_
   rintro _ ⟨nq, rfl⟩
   have Ah : (w2.drewN nq).cell? ⟨sd, q, none⟩ = some (.int .u8 x) := cm
   have Al : (w2.drewN nq).frozen? ⟨sd, q, none⟩ = false := fz
   have Ac := hide ((H2.out.go (ah w2 nq)).say Ab (bits .or .u8 x y))
   have Af := hide ((Ad.out.trans (Fr.of_below (ah w2 nq))).trans (Fr.setCell (w := w2.drewN nq) ⟨sd, q, none⟩ (.int .u8 (bits .or .u8 x y)) rfl))
   go_wp2_with fail
   go_end0
   rw [HV.out]
   exact ⟨rfl, Ac.out, Af.out⟩
end
set_option maxRecDepth 100000
set_option maxHeartbeats 6400000
def suitM (F : List Int) (s : StM) : Bool := if s.how = 1 then decide (s.lit ∈ F) else if s.tag = 2 then !decide (s.lit ∈ F) else true
def allM (f : Int → Int) (l : be) : Bool := l.all fun x => hb (f x.1) x.2
def followsM (T : Th) (F : List Int) (f : Int → Int) (s : StM) : Bool := (formM T s).1 && allM f (formM T s).2 && suitM F s
section
variable {K : cC} {pq fm sd : Nat} {F : List Int} {f : Int → Int} {w w' : World}
theorem tM (h : Pm K pq fm sd F f w) {tag how rule : Int} {q : Nat} (hq : q < K.n) {ch : List (Int × Int)} (ca : Option Addr) (cc : Nat) :
    Calls Tryz.prog 68 #[aa pq, jo (Sm tag q how rule ch) ca cc] w fun e w' => e = .returned (.bool (suitM F (Sm tag q how rule ch))) ∧ Below w.heap.size w w' := by
 have hB := ae w (.cells #[.int .i64 tag, .int .i64 q, .int .i64 how, .int .i64 rule, .slice ca ch.length cc] 32)
 have hQ : Fx w.heap.size 32 [.int .i64 tag, .int .i64 q, .int .i64 how, .int .i64 rule, .slice ca ch.length cc] (w.alloc (.cells #[.int .i64 tag, .int .i64 q, .int .i64 how, .int .i64 rule, .slice ca ch.length cc] 32)) := heap_alloc_new w _
 have h1 := h.go hB
 have k0 := hQ.get (i := 0) rfl
 have k1 := hQ.get (i := 1) rfl
 have k2 := hQ.get (i := 2) rfl
 have p1 := h1.bx.get (i := 1) rfl
 have cf := h1.ff.get (dy hq)
 have HB := hide (fun m => hB.trans ((ah (w.alloc (.cells #[.int .i64 tag, .int .i64 q, .int .i64 how, .int .i64 rule, .slice ca ch.length cc] 32)) m).mono hB.size))
 have Ab := hide hB
 have HR : Hid (suitM F (Sm tag q how rule ch) = if how = 1 then decide ((q : Int) ∈ F) else if tag = 2 then !decide ((q : Int) ∈ F) else true) := hide rfl
 generalize suitM F (Sm tag q how rule ch) = o at *
 generalize decide ((q : Int) ∈ F) = fb at *
 clear h hB hQ h1
 by_cases hh : how = 1
 ·have Ac : (how == 1) = true := by simp [hh]
  have HO : Hid (o = fb) := hide (by rw [HR.out, if_pos hh])
  subst hh
  go_enter Tryz.func68, Tryz.ntmps68
  go_wp2_with fail
  go_quiet (fail)
  go_wp2_with fail
  go_ret
  rw [HO.out]
  exact ⟨rfl, HB.out _⟩
 have Ac : (how == 1) = false := by simp [hh]
 by_cases ht : tag = 2
 ·have Aa : (tag == 2) = true := by simp [ht]
  have HO : Hid (o = !fb) := hide (by rw [HR.out, if_neg hh, if_pos ht])
  subst ht
  go_enter Tryz.func68, Tryz.ntmps68
  go_wp2_with fail
  go_quiet (fail)
  go_wp2_with fail
  go_ret
  rw [HO.out]
  exact ⟨rfl, HB.out _⟩
 have Aa : (tag == 2) = false := by simp [ht]
 have HO : Hid (o = true) := hide (by rw [HR.out, if_neg hh, if_neg ht])
 go_enter Tryz.func68, Tryz.ntmps68
 go_wp2_with fail
 go_ret
 rw [HO.out]
 exact ⟨rfl, Ab.out⟩
structure FI (K : cC) (pq fm sd : Nat) (F : List Int) (f : Int → Int) (bp wb : Nat) (b : Bool) (w : World) : Prop where
 wx : Fx wb 4 [.bool b] w
 px : Fx bp 72 [aa pq] w
 pm : Pm K pq fm sd F f w
 ne : wb ≠ fm
def oJ (K : cC) (pq fm sd : Nat) (F : List Int) (f : Int → Int) (bp wb : Nat) : dO := fun Z l w => Z = (fun k => k = wb) ∧ FI K pq fm sd F f bp wb (allM f l) w
theorem FI.go {bp wb : Nat} {b : Bool} (h : FI K pq fm sd F f bp wb b w) (hb : Below w.heap.size w w') : FI K pq fm sd F f bp wb b w' := ⟨h.wx.keep (hb.block _ h.wx.lt), h.px.keep (hb.block _ h.px.lt), h.pm.go hb, h.ne⟩
theorem FI.set {bp wb : Nat} {b : Bool} (h : FI K pq fm sd F f bp wb b w) (c : Bool) : FI K pq fm sd F f bp wb c (w.setCell ⟨wb, 0, none⟩ (.bool c)) := by
 refine ⟨h.wx.set 0 (.bool c), h.px.keep (other_set (an h.px h.wx (by decide))), h.pm.keep fun g hg => other_set ?_, h.ne⟩
 rcases hg with rfl | rfl | rfl
 ·exact an h.pm.bx h.wx (by decide)
 ·exact Ne.symm h.ne
 exact an h.pm.sd h.wx (by decide)
theorem uy {l : be} {x : Int × Int} : allM f (l ++ [x]) = (allM f l && hb (f x.1) x.2) := by unfold allM; simp
theorem qh {bp wb : Nat} : Nd K.n (oJ K pq fm sd F f bp wb) (.func (.func 66) #[] #[aa wb, aa bp]) := by
 refine ⟨⟨_, _, rfl, fun args w' => rfl, fun Z l w x t hI hD => ?_⟩, fun Z l w w' hI hb => ⟨hI.1, hI.2.go hb⟩, fun Z l w hI k hk => ?_⟩
 ·obtain ⟨rfl, h1⟩ := hI
  obtain ⟨q, rfl⟩ := Int.eq_ofNat_of_zero_le hD.lo
  have hq : q < K.n := by have := hD.hi; omega
  have CH := hide (dc h1.pm hq hD.tag)
  have HS : Hid (allM f (l ++ [((q : Int), t)]) = (allM f l && hb (f q) t)) := hide uy
  have k0 := h1.wx.get (i := 0) rfl
  have z0 := h1.wx.frz 0
  have p0 := h1.px.get (i := 0) rfl
  have H1 := hide h1
  clear h1 hD hq
  show Calls Tryz.prog 66 #[.int .i64 q, .int .i64 t, aa wb, aa bp] w _
  have HFin : Hid (∀ (X : World) (c : Bool), Below w.heap.size w X → allM f (l ++ [((q : Int), t)]) = c → ∃ Z2, Pz (oJ K pq fm sd F f bp wb) (fun k => k = wb) w Z2 (l ++ [((q : Int), t)]) (X.setCell ⟨wb, 0, none⟩ (.bool c))) := hide fun X c hX hc => by
   subst hc
   exact ⟨_, ⟨rfl, (H1.out.go hX).set _⟩, (Fr.of_below hX).trans (Fr.setCell (w := X) ⟨wb, 0, none⟩ _ rfl), fun k hk => .inl hk⟩
  cases ha : allM f l with
  | true =>
   rw [ha] at k0
   have HO : Hid (allM f (l ++ [((q : Int), t)]) = hb (f q) t) := hide (by rw [HS.out, ha, Bool.true_and])
   generalize hb (f q) t = hv at *
   clear ha HS
   go_enter Tryz.func66, Tryz.ntmps66
   go_wp2_with (go_at_call 67; refine CH.out.mono ?_; rintro _ w2 ⟨rfl, hw⟩; have HW := hide hw; have j0 : w2.cell? ⟨wb, 0, none⟩ = some (.bool true) := (World.cell?_of_block (hw.block _ H1.out.wx.lt)).trans k0; have y0 : w2.frozen? ⟨wb, 0, none⟩ = false := (H1.out.wx.keep (hw.block _ H1.out.wx.lt)).frz 0; clear hw CH)
   go_end0
   exact ⟨rfl, HFin.out _ _ HW.out HO.out⟩
  | false =>
   rw [ha] at k0
   have HO : Hid (allM f (l ++ [((q : Int), t)]) = false) := hide (by rw [HS.out, ha, Bool.false_and])
   clear ha HS CH
   go_enter Tryz.func66, Tryz.ntmps66
   go_wp2_with fail
   go_end0
   exact ⟨rfl, HFin.out _ _ (Below.refl _ _) HO.out⟩
 obtain ⟨rfl, h1⟩ := hI
 rw [hk]
 exact h1.wx.lt
end
set_option maxRecDepth 100000
set_option maxHeartbeats 12800000
abbrev S7 (p0 p1 p2 p3 p4 p5 p6 : Addr) (u0 u1 u2 u3 u4 u5 u6 : Value) (X : World) : Prop := X.cell? p0 = some u0 ∧ X.cell? p1 = some u1 ∧ X.cell? p2 = some u2 ∧ X.cell? p3 = some u3 ∧ X.cell? p4 = some u4 ∧ X.cell? p5 = some u5 ∧ X.cell? p6 = some u6
theorem S7.drew {p0 p1 p2 p3 p4 p5 p6 : Addr} {u0 u1 u2 u3 u4 u5 u6 : Value} {X : World} (h : S7 p0 p1 p2 p3 p4 p5 p6 u0 u1 u2 u3 u4 u5 u6 X) : S7 p0 p1 p2 p3 p4 p5 p6 u0 u1 u2 u3 u4 u5 u6 X.drew := h
section
variable {Inv : dO} {Z0 Z2 : Nat → Prop} {w0 X : World} {l2 : be}
theorem S7.pz {p0 p1 p2 p3 p4 p5 p6 : Addr} {u0 u1 u2 u3 u4 u5 u6 : Value} (h : S7 p0 p1 p2 p3 p4 p5 p6 u0 u1 u2 u3 u4 u5 u6 w0) (hp : Pz Inv Z0 w0 Z2 l2 X) (z0 : ¬ Z0 p0.block) (z1 : ¬ Z0 p1.block) (z2 : ¬ Z0 p2.block) (z3 : ¬ Z0 p3.block) (z4 : ¬ Z0 p4.block) (z5 : ¬ Z0 p5.block) (z6 : ¬ Z0 p6.block) : S7 p0 p1 p2 p3 p4 p5 p6 u0 u1 u2 u3 u4 u5 u6 X :=
 ⟨dz hp h.1 z0, dz hp h.2.1 z1, dz hp h.2.2.1 z2, dz hp h.2.2.2.1 z3, dz hp h.2.2.2.2.1 z4, dz hp h.2.2.2.2.2.1 z5, dz hp h.2.2.2.2.2.2 z6⟩
end
section
variable {S : Nat → Prop} {N0 : Nat} {K : cC} {T : Th} {pq fm sd : Nat} {F : List Int} {f : Int → Int} {w : World} {ca : Option Addr} {cc : Nat} {tag lit how rule : Int} {ch : List (Int × Int)}
theorem xJ {s : StM} (h : (formM T s).1 = true) : bU s.lit T.lits = true := by
 unfold formM at h
 cases e : bU s.lit T.lits with
 | true => rfl
 | false => rw [e] at h; cases h
theorem rC (hT : Wt T K.n) (hX : Xr S N0 K T w) (hP : Pm K pq fm sd F f w) (ht : eA tag) (hh : eA how) (hl : ch.length ≤ 140737488351232) (hca : Chs w ca ch) :
    Calls Tryz.prog 34 #[aa pq, jo ⟨tag, lit, how, rule, ch⟩ ca cc] w fun e w' => e = .returned (.bool (followsM T F f ⟨tag, lit, how, rule, ch⟩)) ∧ Below w.heap.size w w' := by
 have Aq : ∀ (fn : Fn) (first cap : Array Value) (w : World), (Instr.makeFunc fn first cap).run Tryz.prog w = .ok (.func fn first cap) w := fun _ _ _ _ => rfl
 obtain ⟨hB, q5, q8, q9⟩ := three w (.cells #[aa pq] 72) (.cells #[.int .i64 tag, .int .i64 lit, .int .i64 how, .int .i64 rule, .slice ca ch.length cc] 32) (.cells #[.bool true] 4)
 have Ab : Below w.heap.size w ((((w.alloc (.cells #[aa pq] 72)).alloc (.cells #[.int .i64 tag, .int .i64 lit, .int .i64 how, .int .i64 rule, .slice ca ch.length cc] 32)).alloc (.cells #[.bool true] 4)).drew) := hB.trans ((Below.refl _ _).drew.mono hB.size)
 have Ad : ∀ {g t : Nat} {vs : List Value}, Fx g t vs w → g ≠ w.heap.size + 1 + 1 := fun hf => by have := hf.lt; omega
 have hI : oJ K pq fm sd F f w.heap.size (w.heap.size + 1 + 1) (fun k => k = w.heap.size + 1 + 1) [] ((((w.alloc (.cells #[aa pq] 72)).alloc (.cells #[.int .i64 tag, .int .i64 lit, .int .i64 how, .int .i64 rule, .slice ca ch.length cc] 32)).alloc (.cells #[.bool true] 4)).drew) := ⟨rfl, ⟨q9, q5, hP.go Ab, Ne.symm (Ad hP.ff)⟩⟩
 have Ah := hX.go Ab
 have hz : Zo S N0 (fun k => k = w.heap.size + 1 + 1) := fun k hk => ⟨fun hs => by have := hX.lt k hs; omega, by have := hX.n0; omega⟩
 have C := hide (lU (cc := cc) (lit := lit) (rule := rule) hT Ah hI hz qh ht hh hl (hca.go Ab) (fun g o e hne => fun ez => by
  obtain ⟨c0, At⟩ := am (l := ch) (i := 0) (by cases ch with | nil => exact absurd rfl hne | cons => simp)
  obtain ⟨g', o', e', k, -⟩ := hca 0 c0 At
  rw [e] at e'
  cases e'
  have := World.block_lt_of_cell? _ _ k
  simp only at this ez
  omega))
 have Ao := hide (Pz.refl (Inv := oJ K pq fm sd F f w.heap.size (w.heap.size + 1 + 1)) hI)
 have Aj := hP.go hB
 have Au := hX.go hB
 have HB := hide hB
 have Aa : Fx (w.heap.size + 1) 32 [.int .i64 tag, .int .i64 lit, .int .i64 how, .int .i64 rule, .slice ca ch.length cc] _ := q8
 have Al : Fx w.heap.size 72 [aa pq] _ := q5
 have h7 : S7 ⟨w.heap.size, 0, none⟩ ⟨pq, 0, none⟩ ⟨w.heap.size + 1, 0, none⟩ ⟨w.heap.size + 1, 1, none⟩ ⟨w.heap.size + 1, 2, none⟩ ⟨w.heap.size + 1, 3, none⟩ ⟨w.heap.size + 1, 4, none⟩ (aa pq) (aa K.q) (.int .i64 tag) (.int .i64 lit) (.int .i64 how) (.int .i64 rule) (.slice ca ch.length cc) (((w.alloc (.cells #[aa pq] 72)).alloc (.cells #[.int .i64 tag, .int .i64 lit, .int .i64 how, .int .i64 rule, .slice ca ch.length cc] 32)).alloc (.cells #[.bool true] 4)) := ⟨Al.get (i := 0) rfl, Aj.bx.get (i := 0) rfl, Aa.get (i := 0) rfl, Aa.get (i := 1) rfl, Aa.get (i := 2) rfl, Aa.get (i := 3) rfl, Aa.get (i := 4) rfl⟩
 have An : pq ≠ w.heap.size + 1 + 1 := Ad hP.bx
 have Ap := hide hT.ln
 have Ag : Hid ((formM T ⟨tag, lit, how, rule, ch⟩).1 = true → bU lit T.lits = true) := hide xJ
 have HR : Hid (followsM T F f ⟨tag, lit, how, rule, ch⟩ = ((formM T ⟨tag, lit, how, rule, ch⟩).1 && allM f (formM T ⟨tag, lit, how, rule, ch⟩).2 && suitM F ⟨tag, lit, how, rule, ch⟩)) := hide rfl
 generalize followsM T F f ⟨tag, lit, how, rule, ch⟩ = o at *
 generalize formM T ⟨tag, lit, how, rule, ch⟩ = fo at *
 obtain ⟨fb, fl⟩ := fo
 simp only [List.nil_append] at C HR Ag
 clear hT hX hP ht hh hl hca hB Ab hI Ah hz Aj Au Aa Al q5 q8 q9 Ad
 go_enter Tryz.func34, Tryz.ntmps34
 go_upto_region 2 with fail
 generalize ((w.alloc (.cells #[aa pq] 72)).alloc (.cells #[.int .i64 tag, .int .i64 lit, .int .i64 how, .int .i64 rule, .slice ca ch.length cc] 32)).alloc (.cells #[.bool true] 4) = w1 at *
 generalize hbq : w.heap.size = b at *
 have Ak : Hid (∀ X Z2 l2, Pz (oJ K pq fm sd F f b (b + 1 + 1)) (fun k => k = b + 1 + 1) w1.drew Z2 l2 X → S7 ⟨b, 0, none⟩ ⟨pq, 0, none⟩ ⟨b + 1, 0, none⟩ ⟨b + 1, 1, none⟩ ⟨b + 1, 2, none⟩ ⟨b + 1, 3, none⟩ ⟨b + 1, 4, none⟩ (aa pq) (aa K.q) (.int .i64 tag) (.int .i64 lit) (.int .i64 how) (.int .i64 rule) (.slice ca ch.length cc) X) := hide fun X Z2 l2 hp => S7.pz (w0 := w1.drew) h7 hp (by show ¬ b = b + 1 + 1; omega) An (by show ¬ b + 1 = b + 1 + 1; omega) (by show ¬ b + 1 = b + 1 + 1; omega) (by show ¬ b + 1 = b + 1 + 1; omega) (by show ¬ b + 1 = b + 1 + 1; omega) (by show ¬ b + 1 = b + 1 + 1; omega)
 go_cut [6] from 7 to 13 (fun s wx => s = .bool fb ∧ Hid (∃ Z2, Pz (oJ K pq fm sd F f b (b + 1 + 1)) (fun k => k = b + 1 + 1) w1.drew Z2 fl wx))
 case first =>
  go_region_held3 (fun X : World => S7 ⟨b, 0, none⟩ ⟨pq, 0, none⟩ ⟨b + 1, 0, none⟩ ⟨b + 1, 1, none⟩ ⟨b + 1, 2, none⟩ ⟨b + 1, 3, none⟩ ⟨b + 1, 4, none⟩ (aa pq) (aa K.q) (.int .i64 tag) (.int .i64 lit) (.int .i64 how) (.int .i64 rule) (.slice ca ch.length cc) X) (first | exact S7.drew ‹_› | assumption) (first | (go_at_call 40; refine C.out.mono ?_; rintro e w' ⟨rfl, Z3, As⟩; have Av := Ak.out _ _ _ As))
  all_goals
   go_wp2_with fail
   go_meet
   exact ⟨rfl, hide ⟨_, by assumption⟩⟩
 obtain ⟨rfl, Am⟩ := hcut
 obtain ⟨Z2, hp⟩ := Am.out
 have Ai := hide hp
 have Ar := Ak.out _ _ _ hp
 obtain ⟨c0, c1, c2, c3, c4, c5, c6⟩ := Ar
 have Ae := hp.inv.2
 have Af := hide Ae
 have cw := Ae.wx.get (i := 0) rfl
 have Ac : Hid (Below w.heap.size w wc) := hide (by
  rw [hbq]
  have h1 : Below b w w1.drew := HB.out.trans ((show Below w1.heap.size w1 w1.drew from (Below.refl _ _).drew).mono (by have := HB.out.size; omega))
  have hs := h1.size
  exact h1.trans (hp.fr.below fun k hk => ⟨by omega, by show ¬ k = b + 1 + 1; omega⟩))
 clear hp Am Ao C h7 Ae Aq hbq
 cases fb with
 | false =>
  have HO : Hid (o = false) := hide (by rw [HR.out]; rfl)
  clear HR
  generalize allM f fl = av at *
  go_wp2_with fail
  go_ret
  rw [HO.out]
  exact ⟨rfl, Ac.out⟩
 | true =>
  cases hav : allM f fl with
  | false =>
   have HO : Hid (o = false) := hide (by rw [HR.out, hav]; rfl)
   rw [hav] at cw
   clear HR hav Af Ai
   go_wp2_with fail
   go_ret
   rw [HO.out]
   exact ⟨rfl, Ac.out⟩
  | true =>
   obtain ⟨l0, l1⟩ := eV (Ag.out rfl)
   obtain ⟨q, rfl⟩ := Int.eq_ofNat_of_zero_le l0
   have HO : Hid (o = suitM F (Sm tag q how rule ch)) := hide (by rw [HR.out, hav]; rfl)
   rw [hav] at cw
   have C := hide (tM Af.out.pm (tag := tag) (how := how) (rule := rule) (q := q) (by have := Ap.out; omega) (ch := ch) ca cc)
   clear HR hav l0 l1 Ag Ai Af
   go_wp2_with (go_at_call 68; refine C.out.mono ?_; rintro _ w4 ⟨rfl, hw⟩; have HW := hide (Ac.out.trans (hw.mono Ac.out.size)); clear hw C)
   go_ret
   rw [HO.out]
   exact ⟨rfl, HW.out⟩
end
set_option maxRecDepth 100000
set_option maxHeartbeats 12800000
def ChN (N : Nat) (w : World) (a : Option Addr) (l : List (Int × Int)) : Prop := ∀ (i : Nat) x, l[i]? = some x → ∃ g o, a = some ⟨g, o, none⟩ ∧ g < N ∧ w.cell? ⟨g, o + i * 2, none⟩ = some (.int .i64 x.1) ∧ w.cell? ⟨g, o + i * 2 + 1, none⟩ = some (.int .i64 x.2)
theorem ChN.chs {N : Nat} {w : World} {a : Option Addr} {l : List (Int × Int)} (h : ChN N w a l) : Chs w a l := fun i x hi => by
 obtain ⟨g, o, e, -, c0, c1⟩ := h i x hi
 exact ⟨g, o, e, c0, c1⟩
def Sts (N : Nat) (w : World) (l : List StM) (a : Option Addr) : Prop := ∀ (i : Nat) s, l[i]? = some s → ∃ (g o : Nat) (ca : Option Addr) (cc : Nat), a = some ⟨g, o, none⟩ ∧ g < N ∧ w.cell? ⟨g, o + i * 5, none⟩ = some (.int .i64 s.tag) ∧ w.cell? ⟨g, o + i * 5 + 1, none⟩ = some (.int .i64 s.lit) ∧ w.cell? ⟨g, o + i * 5 + 2, none⟩ = some (.int .i64 s.how) ∧ w.cell? ⟨g, o + i * 5 + 3, none⟩ = some (.int .i64 s.rule) ∧ w.cell? ⟨g, o + i * 5 + 4, none⟩ = some (.slice ca s.ch.length cc) ∧ s.ch.length ≤ 140737488351232 ∧ ChN N w ca s.ch ∧ eA s.tag ∧ eA s.how
section
variable {N : Nat} {w w' : World} {l : List StM} {a : Option Addr}
theorem Sts.keep (h : Sts N w l a) (hk : ∀ g, g < N → w'.heap[g]? = w.heap[g]?) : Sts N w' l a := by
 intro i s hi
 obtain ⟨g, o, ca, cc, e, hg, c0, c1, c2, c3, c4, hl, hc, h1, h2⟩ := h i s hi
 have kc : ∀ {p : Addr} {u : Value}, p.block < N → w.cell? p = some u → w'.cell? p = some u := fun hp hu => (World.cell?_of_block (hk _ hp)).trans hu
 exact ⟨g, o, ca, cc, e, hg, kc hg c0, kc hg c1, kc hg c2, kc hg c3, kc hg c4, hl, fun j x hj => by
  obtain ⟨g', o', e', hg', d0, d1⟩ := hc j x hj
  exact ⟨g', o', e', hg', kc hg' d0, kc hg' d1⟩, h1, h2⟩
end
def iy (T : Th) (F : List Int) (n : Nat) : Nat → (Int → Int) → List StM → Int × Int
 | i, _, [] => (0, i)
 | i, f, s :: r => if followsM T F f s then iy T F n (i + 1) (sayM n f s) r else (201, i)
def chkM (T : Th) (F : List Int) (n : Nat) (f : Int → Int) (l : List StM) : Int × Int := if 65536 < l.length then (3, 0) else iy T F n 0 f l
def D3 (n : Nat) (f : Int → Int) (l : List StM) : Int → Int := l.foldl (sayM n) f
section
variable {S : Nat → Prop} {N0 : Nat} {K : cC} {T : Th} {pq fm sd : Nat} {F : List Int} {f : Int → Int} {w : World}
theorem check_any (hT : Wt T K.n) (hX : Xr S N0 K T w) (hP : Pm K pq fm sd F f w) (h1 : ¬ S sd) (h2 : N0 ≤ sd) {l : List StM} {a : Option Addr} {c : Nat} (hl : Sts N0 w l a) :
    Calls Tryz.prog 55 #[aa pq, .slice a l.length c] w fun e w' => e = .returned (.tuple #[.int .i64 (chkM T F K.n f l).1, .int .i64 (chkM T F K.n f l).2]) ∧ Fr (fun k => k = sd) w w' ∧ ∃ f2, Pm K pq fm sd F f2 w' := by
 by_cases hbig : 65536 < l.length
 ·have hm : chkM T F K.n f l = (3, 0) := by unfold chkM; rw [if_pos hbig]
  rw [hm]
  have HP := hide hP
  clear hT hX hP hl hm
  go_enter Tryz.func55, Tryz.ntmps55
  go_wp2_with fail
  go_ret2
  exact ⟨rfl, Fr.refl _ _, f, HP.out⟩
 have hm : chkM T F K.n f l = iy T F K.n 0 f l := by unfold chkM; rw [if_neg hbig]
 rw [hm]
 obtain ⟨o, ho⟩ : ∃ o, iy T F K.n 0 f l = o := ⟨_, rfl⟩
 rw [ho]
 have HO : Hid (iy T F K.n 0 f (l.drop 0) = o) := hide (by rw [List.drop_zero]; exact ho)
 have HT := hide hT
 have HX := hide hX
 have HP := hide hP
 have HL := hide hl
 have H1 := hide h1
 have H2 := hide h2
 have Ao := hide hX.n0
 clear hT hX hP hl hm ho h1 h2
 go_enter Tryz.func55, Tryz.ntmps55
 go_wp2_with fail
 go_loopw [13] (fun x wr => ∃ (k : Nat) (fk : Int → Int), k ≤ l.length ∧ x = .int .i64 k ∧ Hid (iy T F K.n k fk (l.drop k) = o) ∧ Hid (Pm K pq fm sd F fk wr) ∧ Hid (Fr (fun k => k = sd) w wr)) (fun x _ => l.length - (intOf x).toNat)
 case atStart => exact ⟨0, f, by omega, rfl, HO, HP, hide (Fr.refl _ _)⟩
 clear HO HP
 obtain ⟨k, fk, hk, rfl, HO, HP, HF⟩ := hrel
 by_cases hlt : k < l.length
 ·obtain ⟨s, hs⟩ := am hlt
  have Aj := HL.out.keep (w' := wr) fun g hg => HF.out.block g (Nat.lt_of_lt_of_le hg Ao.out) (by have := H2.out; omega)
  obtain ⟨g, og, ca, cc, rfl, At, c0, c1, c2, c3, c4, Af, Ah, i1, i2⟩ := Aj k s hs
  have hB := ae wr (.cells #[.int .i64 s.tag, .int .i64 s.lit, .int .i64 s.how, .int .i64 s.rule, .slice ca s.ch.length cc] 32)
  have hQ : Fx wr.heap.size 32 [.int .i64 s.tag, .int .i64 s.lit, .int .i64 s.how, .int .i64 s.rule, .slice ca s.ch.length cc] (wr.alloc (.cells #[.int .i64 s.tag, .int .i64 s.lit, .int .i64 s.how, .int .i64 s.rule, .slice ca s.ch.length cc] 32)) := heap_alloc_new wr _
  have Ak := HX.out.fr HF.out fun k hk => by rw [hk]; exact ⟨H1.out, H2.out⟩
  have Ag := hide (Ak.go hB)
  have Ac := hide (HP.out.go hB)
  have Am := hide (HF.out.trans (Fr.of_below (Z := fun k => k = sd) hB))
  have HQ := hide hQ
  have An := hide (Ah.chs.go hB)
  have HI := hide (And.intro i1 (And.intro i2 Af))
  have Ab : Hid (iy T F K.n k fk (l.drop k) = if followsM T F fk s then iy T F K.n (k + 1) (sayM K.n fk s) (l.drop (k + 1)) else (201, (k : Int))) := hide (by rw [aM hs]; rfl)
  clear Aj hs Ah i1 i2 Af hB hQ Ak HP HF
  go_upto_region 6 with fail
  generalize wr.alloc (.cells #[.int .i64 s.tag, .int .i64 s.lit, .int .i64 s.how, .int .i64 s.rule, .slice ca s.ch.length cc] 32) = w1 at *
  generalize wr.heap.size = b at *
  clear c0 c1 c2 c3 c4
  have k0 := HQ.out.get (i := 0) rfl
  have k1 := HQ.out.get (i := 1) rfl
  have k2 := HQ.out.get (i := 2) rfl
  have k3 := HQ.out.get (i := 3) rfl
  have k4 := HQ.out.get (i := 4) rfl
  have C := hide (rC (cc := cc) (lit := s.lit) (rule := s.rule) HT.out Ag.out Ac.out HI.out.1 HI.out.2.1 HI.out.2.2 An.out)
  cases hfo : followsM T F fk s with
  | false =>
   rw [show followsM T F fk ⟨s.tag, s.lit, s.how, s.rule, s.ch⟩ = false from hfo] at C
   have HE : Hid (o = (201, (k : Int))) := hide (by rw [← HO.out, Ab.out, hfo]; rfl)
   clear hfo Ab HO
   go_wp2_with (go_at_call 34; refine C.out.mono ?_; rintro _ w2 ⟨rfl, hw⟩; have Ae := hide (Am.out.trans (Fr.of_below (Z := fun k => k = sd) hw)); have Ad := hide (Ac.out.go hw); clear hw C)
   go_ret2
   rw [HE.out]
   exact ⟨rfl, Ae.out, fk, Ad.out⟩
  | true =>
   rw [show followsM T F fk ⟨s.tag, s.lit, s.how, s.rule, s.ch⟩ = true from hfo] at C
   have Aq : Hid (iy T F K.n (k + 1) (sayM K.n fk s) (l.drop (k + 1)) = o) := hide (by rw [← HO.out, Ab.out, hfo]; rfl)
   clear hfo Ab HO
   go_upto_region 8 with (go_at_call 34; refine C.out.mono ?_; rintro _ w2 ⟨rfl, hw⟩; have Ae := hide (Am.out.trans (Fr.of_below (Z := fun k => k = sd) hw)); have Ad := hide (Ac.out.go hw); have Ar := hide (Ag.out.go hw); have Aa := hide (HQ.out.keep (hw.block _ HQ.out.lt)); clear hw C)
   clear k0 k1 k2 k3 k4
   have k0 := Aa.out.get (i := 0) rfl
   have k1 := Aa.out.get (i := 1) rfl
   have k2 := Aa.out.get (i := 2) rfl
   have k3 := Aa.out.get (i := 3) rfl
   have k4 := Aa.out.get (i := 4) rfl
   have C := hide (rG HT.out Ar.out Ad.out ⟨s.tag, s.lit, s.how, s.rule, s.ch⟩ ca cc)
   go_wp2_with (go_at_call 33; refine C.out.mono ?_; rintro _ w3 ⟨rfl, Al, Ai⟩; have Ap := hide Al; have As := hide (Ae.out.trans Ai); clear Al Ai C)
   go_roundw
   case rel => exact ⟨k + 1, sayM K.n fk s, by omega, by go_num, Aq, Ap, As⟩
   case measure => simp [intOf]; omega
 have HE : Hid (o = (0, (l.length : Int))) := hide (by rw [← HO.out, show k = l.length by omega, List.drop_length]; rfl)
 clear HO
 go_wp2_with fail
 go_ret2
 rw [HE.out]
 exact ⟨rfl, HF.out, fk, HP.out⟩
end
def idxF (p : Int → Bool) : List Int → Nat → Int
 | [], _ => -1
 | x :: l, k => if p x then (k : Int) else idxF p l (k + 1)
def gn (p : Int → Bool) : List Int → Int
 | [] => -1
 | x :: l => if p x then x else gn p l
def wholeM (T : Th) (f : Int → Int) (r t : Int) : Bool := (az T r).all fun x => hb (f x) t
def refdM (T : Th) (f : Int → Int) (r t : Int) : Int := idxF (fun x => hb (f x) t) (az T r) 0
def firstM (T : Th) (f : Int → Int) (rs : List Int) (t : Int) : Int := gn (fun r => wholeM T f r t) rs
def gA (g : Int → Int) : List Int → List (Int × Int) → List (Int × Int) × Bool
 | [], acc => (acc, true)
 | r :: rs, acc => if g r = -1 then ([], false) else gA g rs (acc ++ [(g r, -1)])
def refsM (T : Th) (f : Int → Int) (rs : List Int) (t : Int) : List (Int × Int) × Bool := gA (fun r => refdM T f r t) rs []
def answM (T : Th) (f : Int → Int) (q s : Int) : Int × Int := if refdM T f s 4 = -1 then (-1, firstM T f (aQ T q s) 3) else (refdM T f s 4, -1)
abbrev pn := Int × Int × List (Int × Int)
def rsPD (T : Th) (F : List Int) (f : Int → Int) (q : Int) : pn := if q ∈ F then (1, -1, []) else (2, firstM T f (ag T kS q) 1, [])
def rsMD (T : Th) (f : Int → Int) (q : Int) : pn := (3, -1, (refsM T f (ag T kS q) 2).1)
def rsPP (T : Th) (f : Int → Int) (q : Int) : pn := if hb (f q) 1 then (4, -1, []) else (2, firstM T f (ag T kT q) 3, (aG T q).map (answM T f q))
def dr (T : Th) (f : Int → Int) (q : Int) : List Int → pn
 | [] => (5, -1, [])
 | s :: rs => if wholeM T f s 3 && (refsM T f (aQ T q s) 4).2 then (5, s, (refsM T f (aQ T q s) 4).1) else dr T f q rs
def rsMP (T : Th) (f : Int → Int) (q : Int) : pn :=
 if (refsM T f (ag T kT q) 4).2 then (3, -1, (refsM T f (ag T kT q) 4).1)
 else if (row T.foes q).any fun z => hb (f z) 1 then (4, gn (fun z => hb (f z) 1) (row T.foes q), []) else dr T f q (aG T q)
def dK (T : Th) (F : List Int) (f : Int → Int) (q t : Int) : pn := if t = 1 then rsPD T F f q else if t = 2 then rsMD T f q else if t = 3 then rsPP T f q else rsMP T f q
def fw (T : Th) (F : List Int) (f : Int → Int) (q t : Int) : StM := ⟨t, q, (dK T F f q t).1, (dK T F f q t).2.1, (dK T F f q t).2.2⟩
def dD (T : Th) (F : List Int) (n : Nat) : (Int → Int) → List (Int × Int) → List StM
 | _, [] => []
 | f, x :: l => fw T F f x.1 x.2 :: dD T F n (sayM n f (fw T F f x.1 x.2)) l
def mM (l : List StM) (x : Int × Int) : Nat := (l.findIdx? fun s => decide (s.lit = x.1 ∧ s.tag = x.2)).getD 0
def oM (W : Nat → Bool) (i : Nat) : Nat → Bool := fun j => if j = i then true else W j
def eH (l : List StM) (W : Nat → Bool) (a : be) : Nat → Bool := a.foldl (fun W x => oM W (mM l x)) W
def eB (T : Th) (l : List StM) : Nat → (Nat → Bool) → (Nat → Bool)
 | 0, W => W
 | k + 1, W => eB T l k (if W k then (match l[k]? with | some s => eH l W (formM T s).2 | none => W) else W)
def dX (W : Nat → Bool) : Nat → List StM → List StM
 | _, [] => []
 | k, s :: l => if W k then s :: dX W (k + 1) l else dX W (k + 1) l
def jP (T : Th) (l : List StM) : List StM := match l[l.length - 1]? with
 | some s => dX (eB T l l.length (eH l (fun _ => false) [(s.lit, s.tag)])) 0 l
 | none => []
theorem uI {p : Int → Bool} {l : List Int} {k i : Nat} {x : Int} (h : l[k]? = some x) : idxF p (l.drop k) i = if p x then (i : Int) else idxF p (l.drop (k + 1)) (i + 1) := by rw [aM h]; rfl
theorem pb {p : Int → Bool} {l : List Int} {k : Nat} {x : Int} (h : l[k]? = some x) : gn p (l.drop k) = if p x then x else gn p (l.drop (k + 1)) := by rw [aM h]; rfl
theorem so {g : Int → Int} {l : List Int} {k : Nat} {x : Int} {acc : List (Int × Int)} (h : l[k]? = some x) : gA g (l.drop k) acc = if g x = -1 then ([], false) else gA g (l.drop (k + 1)) (acc ++ [(g x, -1)]) := by rw [aM h]; rfl
theorem uv {T : Th} {f : Int → Int} {q : Int} {l : List Int} {k : Nat} {x : Int} (h : l[k]? = some x) : dr T f q (l.drop k) = if wholeM T f x 3 && (refsM T f (aQ T q x) 4).2 then (5, x, (refsM T f (aQ T q x) 4).1) else dr T f q (l.drop (k + 1)) := by rw [aM h]; rfl
theorem oW {g : Int → Int} : ∀ {l : List Int} {acc : List (Int × Int)}, (gA g l acc).1.length ≤ acc.length + l.length
 | [], acc => by simp [gA]
 | x :: l, acc => by
  unfold gA
  split
  ·simp
  have := oW (g := g) (l := l) (acc := acc ++ [(g x, -1)])
  simp at this ⊢
  omega
set_option maxRecDepth 100000
set_option maxHeartbeats 3200000
structure xb (D : Int → Prop) (w0 : World) (p : Int → Bool) (v : Value) : Prop where
 call : ∃ (k : Nat) (caps : Array Value), v = .func (.func k) #[] caps ∧ (∀ args w', (callFunc k args).run Tryz.prog w' = .ok (.enter k args) w') ∧
  ∀ (w : World) (x : Int), Below w0.heap.size w0 w → D x → Calls Tryz.prog k (#[.int .i64 x] ++ caps) w fun e w' => e = .returned (.bool (p x)) ∧ Below w.heap.size w w'
theorem qU {p : Int → Bool} : ∀ {l : List Int} {k : Nat}, decide (0 ≤ idxF p l k) = l.any p
 | [], k => rfl
 | x :: l, k => by
  unfold idxF
  rw [List.any_cons]
  cases h : p x with
  | true => simp
  | false => simpa using qU (p := p) (l := l) (k := k + 1)
section
variable {w : World} {p : Int → Bool} {D : Int → Prop} {v : Value} {l : List Int} {a : Option Addr} {c N0 : Nat}
theorem ko (hT : xb D w p v) (hI : Ints N0 w l (.slice a l.length c)) (hN : N0 ≤ w.heap.size) (hD : ∀ x ∈ l, D x) :
    Calls Tryz.prog 240 #[.slice a l.length c, v] w fun e w' => e = .returned (.int .i64 (idxF p l 0)) ∧ Below w.heap.size w w' := by
 obtain ⟨fn, Ac, rfl, hf, hc⟩ := hT.call
 have HI := hide hI
 have Ad := hI.lim
 have HC := hide hc
 have HN := hide hN
 have HD := hide hD
 obtain ⟨o, ho⟩ : ∃ o, idxF p l 0 = o := ⟨_, rfl⟩
 rw [ho]
 have HO : Hid (idxF p (l.drop 0) 0 = o) := hide (by rw [List.drop_zero]; exact ho)
 clear hT hI hc hN hD ho
 go_enter Tryz.func240, Tryz.ntmps240
 go_wp2_with fail
 go_loopw [8] (fun x wr => ∃ k : Nat, k ≤ l.length ∧ x = .int .i64 k ∧ Hid (idxF p (l.drop k) k = o) ∧ Hid (Below w.heap.size w wr)) (fun x _ => l.length - (intOf x).toNat)
 case atStart => exact ⟨0, by omega, rfl, HO, hide (Below.refl _ _)⟩
 clear HO
 obtain ⟨k, hk, rfl, HO, HB⟩ := hrel
 by_cases hlt : k < l.length
 ·obtain ⟨y, hy⟩ := am hlt
  obtain ⟨g, og, rfl, Ab, cy⟩ := ji HI.out hy
  have Ae : wr.cell? ⟨g, og + k, none⟩ = some (.int .i64 y) := (World.cell?_of_block (HB.out.block g (Nat.lt_of_lt_of_le Ab HN.out))).trans cy
  have C := hide (HC.out wr y HB.out (HD.out y (List.mem_of_getElem? hy)))
  have HS := hide (uI (p := p) (i := k) hy)
  clear cy hy
  cases hp : p y with
  | true =>
   rw [hp] at C
   have HE : Hid (o = (k : Int)) := hide (by rw [← HO.out, HS.out, hp]; rfl)
   clear hp HS HO
   go_wp2_with fail
   refine C.out.mono ?_
   rintro _ w2 ⟨rfl, hw⟩
   have Aa := hide (HB.out.trans (hw.mono HB.out.size))
   clear hw C
   go_wp2_with fail
   go_ret
   rw [HE.out]
   exact ⟨rfl, Aa.out⟩
  | false =>
   rw [hp] at C
   have HE : Hid (idxF p (l.drop (k + 1)) (k + 1) = o) := hide (by rw [← HO.out, HS.out, hp]; rfl)
   clear hp HS HO
   go_wp2_with fail
   refine C.out.mono ?_
   rintro _ w2 ⟨rfl, hw⟩
   have Aa := hide (HB.out.trans (hw.mono HB.out.size))
   clear hw C
   go_wp2_with fail
   go_roundw
   case rel => exact ⟨k + 1, by omega, by go_num, HE, Aa⟩
   case measure => simp [intOf]; omega
 have HE : Hid (o = -1) := hide (by rw [← HO.out, show k = l.length by omega, List.drop_length]; rfl)
 clear HO
 go_wp2_with fail
 go_ret
 rw [HE.out]
 exact ⟨rfl, HB.out⟩
theorem mO (hT : xb D w p v) (hI : Ints N0 w l (.slice a l.length c)) (hN : N0 ≤ w.heap.size) (hD : ∀ x ∈ l, D x) :
    Calls Tryz.prog 226 #[.slice a l.length c, v] w fun e w' => e = .returned (.bool (l.any p)) ∧ Below w.heap.size w w' := by
 have C := hide (ko hT hI hN hD)
 have HA : Hid (decide (0 ≤ idxF p l 0) = l.any p) := hide qU
 generalize idxF p l 0 = o at *
 clear hT hI hN hD
 go_enter Tryz.func226, Tryz.ntmps226
 go_wp2_with (go_at_call 240; refine C.out.mono ?_; rintro _ w2 ⟨rfl, hw⟩; have HW := hide hw; clear hw C)
 go_ret
 rw [← HA.out]
 exact ⟨rfl, HW.out⟩
end
section
variable {S : Nat → Prop} {N0 : Nat} {K : cC} {T : Th} {pq fm sd : Nat} {F : List Int} {f : Int → Int} {w : World}
theorem qK (hP : Pm K pq fm sd F f w) {t : Int} (ht : aw t) {b3 b5 : Nat} (h3 : Fx b3 72 [aa pq] w) (h5 : Fx b5 28 [.int .i64 t] w) :
    xb (fun x => 0 ≤ x ∧ x < (K.n : Int)) w (fun x => hb (f x) t) (.func (.func 241) #[] #[aa b3, aa b5]) := by
 refine ⟨⟨_, _, rfl, fun args w' => rfl, fun w1 x hB hD => ?_⟩⟩
 obtain ⟨q, rfl⟩ := Int.eq_ofNat_of_zero_le hD.1
 have C := hide (dc (hP.go hB) (q := q) (by omega) ht)
 have k0 := (h3.keep (hB.block _ h3.lt)).get (i := 0) rfl
 have k1 := (h5.keep (hB.block _ h5.lt)).get (i := 0) rfl
 clear hP h3 h5 hB hD ht
 show Calls Tryz.prog 241 #[.int .i64 q, aa b3, aa b5] w1 _
 go_enter Tryz.func241, Tryz.ntmps241
 go_wp2_with (go_at_call 67; refine C.out.mono ?_; rintro _ w2 ⟨rfl, hw⟩; have HW := hide hw; clear hw C)
 go_ret
 exact ⟨rfl, HW.out⟩
theorem pX (hP : Pm K pq fm sd F f w) {t : Int} (ht : aw t) {b3 b5 : Nat} (h3 : Fx b3 72 [aa pq] w) (h5 : Fx b5 28 [.int .i64 t] w) :
    xb (fun x => 0 ≤ x ∧ x < (K.n : Int)) w (fun x => !hb (f x) t) (.func (.func 239) #[] #[aa b3, aa b5]) := by
 refine ⟨⟨_, _, rfl, fun args w' => rfl, fun w1 x hB hD => ?_⟩⟩
 obtain ⟨q, rfl⟩ := Int.eq_ofNat_of_zero_le hD.1
 have C := hide (dc (hP.go hB) (q := q) (by omega) ht)
 have k0 := (h3.keep (hB.block _ h3.lt)).get (i := 0) rfl
 have k1 := (h5.keep (hB.block _ h5.lt)).get (i := 0) rfl
 clear hP h3 h5 hB hD ht
 show Calls Tryz.prog 239 #[.int .i64 q, aa b3, aa b5] w1 _
 go_enter Tryz.func239, Tryz.ntmps239
 go_wp2_with (go_at_call 67; refine C.out.mono ?_; rintro _ w2 ⟨rfl, hw⟩; have HW := hide hw; clear hw C)
 go_ret
 exact ⟨rfl, HW.out⟩
theorem whole_any {l : List Int} {t : Int} : (!(l.any fun x => !hb (f x) t)) = l.all fun x => hb (f x) t := by
 rw [List.not_any_eq_all_not]
 simp
theorem lQ (hT : Wt T K.n) (hX : Xr S N0 K T w) (hP : Pm K pq fm sd F f w) {r : Nat} {x : RuleM} (hr : T.rules[r]? = some x) {t : Int} (ht : aw t) :
    Calls Tryz.prog 225 #[aa pq, .int .i64 r, .int .i64 t] w fun e w' => e = .returned (.int .i64 (refdM T f r t)) ∧ Below w.heap.size w w' := by
 have Aa := ae w (.cells #[aa pq] 72)
 have Ab := ae (w.alloc (.cells #[aa pq] 72)) (.cells #[.int .i64 t] 28)
 have hB := Aa.trans (Ab.mono Aa.size)
 have h3 : Fx w.heap.size 72 [aa pq] ((w.alloc (.cells #[aa pq] 72)).alloc (.cells #[.int .i64 t] 28)) := (Ab.block _ (by simp)).trans (heap_alloc_new w (.cells #[aa pq] 72))
 have h5 : Fx (w.heap.size + 1) 28 [.int .i64 t] ((w.alloc (.cells #[aa pq] 72)).alloc (.cells #[.int .i64 t] 28)) := by
  have := heap_alloc_new (w.alloc (.cells #[aa pq] 72)) (.cells #[.int .i64 t] 28)
  simpa [Fx] using this
 have Ac := hX.go hB
 have Ad := hP.go hB
 obtain ⟨a, c, hI, Af⟩ := jN Ac hr
 have CB := hide (Af _ rfl)
 have C := hide (ko (qK Ad ht h3 h5) hI Ac.n0 fun y hy => by have := hT.body ht r y hy; exact ⟨this.lo, this.hi⟩)
 have HB := hide hB
 have k3 := h3.get (i := 0) rfl
 have k5 := h5.get (i := 0) rfl
 have p0 := Ad.bx.get (i := 0) rfl
 have HR : Hid (refdM T f r t = idxF (fun x => hb (f x) t) (az T r) 0) := hide rfl
 generalize refdM T f r t = o at *
 generalize idxF (fun x => hb (f x) t) (az T r) 0 = o2 at *
 have hE := HR.out
 subst hE
 have HS : Hid ((w.alloc (.cells #[aa pq] 72)).heap.size = w.heap.size + 1) := hide (by simp)
 clear hT hX hP hr ht Aa Ab hB h3 h5 Ac Ad hI Af HR
 go_enter Tryz.func225, Tryz.ntmps225
 go_wp2_with (first | (go_at_call 169; refine CB.out.mono ?_; rintro _ w2 ⟨rfl, hw⟩; subst w2; clear CB) | (go_at_call 240; refine C.out.mono ?_; rintro _ w3 ⟨rfl, Ae⟩; have HW := hide (HB.out.trans (Ae.mono HB.out.size)); clear Ae C))
 go_ret
 exact ⟨rfl, HW.out⟩
theorem lO (hT : Wt T K.n) (hX : Xr S N0 K T w) (hP : Pm K pq fm sd F f w) {r : Nat} {x : RuleM} (hr : T.rules[r]? = some x) {t : Int} (ht : aw t) :
    Calls Tryz.prog 224 #[aa pq, .int .i64 r, .int .i64 t] w fun e w' => e = .returned (.bool (wholeM T f r t)) ∧ Below w.heap.size w w' := by
 have Aa := ae w (.cells #[aa pq] 72)
 have Ab := ae (w.alloc (.cells #[aa pq] 72)) (.cells #[.int .i64 t] 28)
 have hB := Aa.trans (Ab.mono Aa.size)
 have h3 : Fx w.heap.size 72 [aa pq] ((w.alloc (.cells #[aa pq] 72)).alloc (.cells #[.int .i64 t] 28)) := (Ab.block _ (by simp)).trans (heap_alloc_new w (.cells #[aa pq] 72))
 have h5 : Fx (w.heap.size + 1) 28 [.int .i64 t] ((w.alloc (.cells #[aa pq] 72)).alloc (.cells #[.int .i64 t] 28)) := by
  have := heap_alloc_new (w.alloc (.cells #[aa pq] 72)) (.cells #[.int .i64 t] 28)
  simpa [Fx] using this
 have Ac := hX.go hB
 have Ad := hP.go hB
 obtain ⟨a, c, hI, Af⟩ := jN Ac hr
 have CB := hide (Af _ rfl)
 have C := hide (mO (pX Ad ht h3 h5) hI Ac.n0 fun y hy => by have := hT.body ht r y hy; exact ⟨this.lo, this.hi⟩)
 have HB := hide hB
 have k3 := h3.get (i := 0) rfl
 have k5 := h5.get (i := 0) rfl
 have p0 := Ad.bx.get (i := 0) rfl
 have HR : Hid (wholeM T f r t = !((az T r).any fun x => !hb (f x) t)) := hide whole_any.symm
 generalize wholeM T f r t = o at *
 generalize (az T r).any (fun x => !hb (f x) t) = o2 at *
 clear hT hX hP hr ht Aa Ab hB h3 h5 Ac Ad hI Af
 go_enter Tryz.func224, Tryz.ntmps224
 go_wp2_with (first | (go_at_call 169; refine CB.out.mono ?_; rintro _ w2 ⟨rfl, hw⟩; subst w2; clear CB) | (go_at_call 226; refine C.out.mono ?_; rintro _ w3 ⟨rfl, Ae⟩; have HW := hide (HB.out.trans (Ae.mono HB.out.size)); clear Ae C))
 go_ret
 rw [HR.out]
 exact ⟨rfl, HW.out⟩
end
set_option maxRecDepth 100000
set_option maxHeartbeats 6400000
theorem qc : (Tryz.prog.info? 100).map (fun i => (i.zero, i.size, i.bytes)) = some (some (.agg #[.int .i64 0, .int .i64 0]), 2, 16) := by kernel_rfl
theorem ni {w w' : World} {a : Option Addr} {xs : List Value} (h : At1 w a xs) (hb : Below w.heap.size w w') : At1 w' a xs := by
 intro i v hi
 obtain ⟨g, o, e, hc⟩ := h i v hi
 exact ⟨g, o, e, (World.cell?_of_block (hb.block g (World.block_lt_of_cell? w _ hc))).trans hc⟩
theorem np {w : World} {a : Option Addr} {l : List Int} {k : Nat} {y : Int} (h : At1 w a (aq l)) (hy : l[k]? = some y) : ∃ g o, a = some ⟨g, o, none⟩ ∧ w.cell? ⟨g, o + k, none⟩ = some (.int .i64 y) := h k _ (by unfold aq; rw [List.getElem?_map, hy]; rfl)
section
variable {S : Nat → Prop} {N0 : Nat} {K : cC} {T : Th} {pq fm sd : Nat} {F : List Int} {f : Int → Int} {w : World} {rs : List Int} {a : Option Addr} {c : Nat}
theorem gq (hT : Wt T K.n) (hX : Xr S N0 K T w) (hP : Pm K pq fm sd F f w) (hA : At1 w a (aq rs)) (hl : rs.length ≤ 4096) (hr : ∀ r ∈ rs, Rn T r) {t : Int} (ht : aw t) :
    Calls Tryz.prog 186 #[aa pq, .slice a rs.length c, .int .i64 t] w fun e w' => e = .returned (.int .i64 (firstM T f rs t)) ∧ Below w.heap.size w w' := by
 have HA := hide hA
 have HW := hide fun (X : World) (hb : Below w.heap.size w X) (r : Nat) (x : RuleM) (h : T.rules[r]? = some x) => lO hT (hX.go hb) (hP.go hb) h ht
 have HR := hide hr
 obtain ⟨o, ho⟩ : ∃ o, firstM T f rs t = o := ⟨_, rfl⟩
 rw [ho]
 have HO : Hid (gn (fun r => wholeM T f r t) (rs.drop 0) = o) := hide (by rw [List.drop_zero]; exact ho)
 clear hT hX hP hA hr ht ho
 go_enter Tryz.func186, Tryz.ntmps186
 go_wp2_with fail
 go_loopw [11] (fun x wr => ∃ k : Nat, k ≤ rs.length ∧ x = .int .i64 k ∧ Hid (gn (fun r => wholeM T f r t) (rs.drop k) = o) ∧ Hid (Below w.heap.size w wr)) (fun x _ => rs.length - (intOf x).toNat)
 case atStart => exact ⟨0, by omega, rfl, HO, hide (Below.refl _ _)⟩
 clear HO
 obtain ⟨k, hk, rfl, HO, HB⟩ := hrel
 by_cases hlt : k < rs.length
 ·obtain ⟨y, hy⟩ := am hlt
  obtain ⟨g, og, rfl, cy⟩ := np (ni HA.out HB.out) hy
  obtain ⟨r, x, rfl, hx⟩ := HR.out y (List.mem_of_getElem? hy)
  have C := hide (HW.out wr HB.out r x hx)
  have HS := hide (pb (p := fun r => wholeM T f r t) hy)
  clear hy hx
  cases hp : wholeM T f r t with
  | true =>
   rw [hp] at C
   have HE : Hid (o = (r : Int)) := hide (by rw [← HO.out, HS.out]; simp only [hp]; rfl)
   clear hp HS HO
   go_wp2_with (go_at_call 224; refine C.out.mono ?_; rintro _ w2 ⟨rfl, hw⟩; have Aa := hide (HB.out.trans (hw.mono HB.out.size)); clear hw C)
   go_ret
   rw [HE.out]
   exact ⟨rfl, Aa.out⟩
  | false =>
   rw [hp] at C
   have HE : Hid (gn (fun r => wholeM T f r t) (rs.drop (k + 1)) = o) := hide (by rw [← HO.out, HS.out]; simp only [hp]; rfl)
   clear hp HS HO
   go_wp2_with (go_at_call 224; refine C.out.mono ?_; rintro _ w2 ⟨rfl, hw⟩; have Aa := hide (HB.out.trans (hw.mono HB.out.size)); clear hw C)
   go_roundw
   case rel => exact ⟨k + 1, by omega, by go_num, HE, Aa⟩
   case measure => simp [intOf]; omega
 have HE : Hid (o = -1) := hide (by rw [← HO.out, show k = rs.length by omega, List.drop_length]; rfl)
 clear HO
 go_wp2_with fail
 go_ret
 rw [HE.out]
 exact ⟨rfl, HB.out⟩
def Own2 (w0 w' : World) (v : Value) (l : List (Int × Int)) : Prop := ∃ ca cc, v = .slice ca l.length cc ∧ w'.ownsRow w0.heap.size 100 2 (.slice ca l.length cc) l.length (prs l)
theorem Own2.go {w0 w w' : World} {v : Value} {l : List (Int × Int)} (h : Own2 w0 w v l) (hb : Below w.heap.size w w') : Own2 w0 w' v l := by
 obtain ⟨ca, cc, e, h⟩ := h
 exact ⟨ca, cc, e, owns_keep h fun g hg => hb.block g (ax h hg)⟩
theorem Own2.nil {w0 w : World} : Own2 w0 w (.slice none 0 0) [] := ⟨none, 0, rfl, rfl, .inl ⟨rfl, rfl⟩⟩
theorem Own2.down {w0 w1 w : World} {v : Value} {l : List (Int × Int)} (h : Own2 w1 w v l) (hs : w0.heap.size ≤ w1.heap.size) : Own2 w0 w v l := by
 obtain ⟨ca, cc, e, h⟩ := h
 exact ⟨ca, cc, e, aI h hs⟩
theorem iq (hT : Wt T K.n) (hX : Xr S N0 K T w) (hP : Pm K pq fm sd F f w) (hA : At1 w a (aq rs)) (hl : rs.length ≤ 4096) (hr : ∀ r ∈ rs, Rn T r) {t : Int} (ht : aw t) :
    Calls Tryz.prog 187 #[aa pq, .slice a rs.length c, .int .i64 t] w fun e w' => (∃ v, e = .returned (.tuple #[v, .bool (refsM T f rs t).2]) ∧ Own2 w w' v (refsM T f rs t).1) ∧ Below w.heap.size w w' := by
 obtain ⟨iC, Ak, An, Ai, Aj⟩ := info_parts qc
 have HA := hide hA
 have HW := hide fun (X : World) (hb : Below w.heap.size w X) (r : Nat) (x : RuleM) (h : T.rules[r]? = some x) => lQ hT (hX.go hb) (hP.go hb) h ht
 have HR := hide hr
 obtain ⟨m, hm⟩ : ∃ m, rs.length = m := ⟨_, rfl⟩
 have HM := hide hm
 rw [hm] at hl ⊢
 obtain ⟨o, ho⟩ : ∃ o, refsM T f rs t = o := ⟨_, rfl⟩
 rw [ho]
 have HO : Hid (gA (fun r => refdM T f r t) (rs.drop 0) [] = o) := hide (by rw [List.drop_zero]; exact ho)
 clear hT hX hP hA hr ht ho hm
 go_enter Tryz.func187, Tryz.ntmps187
 go_wp2_with fail
 go_loopw [8, 14] (fun u x wr => ∃ (k n : Nat) (acc : List (Int × Int)) (ma : Option Addr) (mc : Nat), k ≤ m ∧ n ≤ k ∧ Hid (acc.length = n) ∧ x = .int .i64 k ∧ u = .slice ma n mc ∧ Hid (wr.ownsRow w.heap.size 100 2 (.slice ma n mc) n (prs acc)) ∧ Hid (gA (fun r => refdM T f r t) (rs.drop k) acc = o) ∧ Hid (Below w.heap.size w wr)) (fun _ x _ => m - (intOf x).toNat)
 case atStart => exact ⟨0, 0, [], none, 0, by omega, by omega, hide rfl, rfl, rfl, hide ⟨rfl, .inl ⟨rfl, rfl⟩⟩, HO, hide (Below.refl _ _)⟩
 clear HO
 obtain ⟨k, n, acc, ma, mc, hk, Ao, HN, rfl, rfl, Ad, HO, HB⟩ := hrel
 by_cases hlt : k < m
 ·obtain ⟨y, hy⟩ := am (l := rs) (i := k) (by rw [HM.out]; exact hlt)
  obtain ⟨g, og, rfl, cy⟩ := np (ni HA.out HB.out) hy
  obtain ⟨r, x, rfl, hx⟩ := HR.out y (List.mem_of_getElem? hy)
  have C := hide (HW.out wr HB.out r x hx)
  have HS := hide (so (g := fun r => refdM T f r t) (acc := acc) hy)
  clear hy hx
  obtain ⟨z, hz⟩ : ∃ z, refdM T f r t = z := ⟨_, rfl⟩
  rw [hz] at C
  by_cases hz1 : z = -1
  ·have HE : Hid (o = ([], false)) := hide (by rw [← HO.out, HS.out]; simp only [hz]; rw [if_pos hz1])
   subst hz1
   clear hz HS HO
   go_wp2_with (go_at_call 225; refine C.out.mono ?_; rintro _ w2 ⟨rfl, hw⟩; have Ac := hide (HB.out.trans (hw.mono HB.out.size)); clear hw C)
   go_ret2
   rw [HE.out]
   exact ⟨⟨_, rfl, Own2.nil⟩, Ac.out⟩
  have Ap : (z == -1) = false := by simp [hz1]
  have HE : Hid (gA (fun r => refdM T f r t) (rs.drop (k + 1)) (acc ++ [(z, -1)]) = o) := hide (by rw [← HO.out, HS.out]; simp only [hz]; rw [if_neg hz1])
  clear hz HS HO
  go_upto_region 8 with (go_at_call 225; refine C.out.mono ?_; rintro _ w2 ⟨rfl, hw⟩; have Ac := hide (HB.out.trans (hw.mono HB.out.size)); have Ab := hide (owns_keep Ad.out fun g hg => hw.block g (ax Ad.out hg)); clear hw C)
  have hA := ae w2 (.cells #[.int .i64 z, .int .i64 (-1)] 100)
  have Af := hide (owns_keep Ab.out fun g hg => hA.block g (ax Ab.out hg))
  have hs := Ac.out.size
  have Am : Hid (∀ g, Value.ownBlock (.slice ma n mc) = some g → w.heap.size ≤ g) := hide fun g e => (Ab.out.lt g e).1
  clear hA Ad Ab
  go_wp2_with (at_builtin; go_must (refine bt _ rfl _ _ 30 rfl w.heap.size 100 iC _ 2 16 Tryz.underlying30 Ak An Ai Aj rfl (by decide) _ _ (prs acc) rfl Af.out ⟨w2.heap.size, 0, none⟩ 1 [.int .i64 z, .int .i64 (-1)] rfl rfl (lF (cs := [.int .i64 z, .int .i64 (-1)]) rfl) (by intro u hu; simp at hu; rcases hu with rfl | rfl <;> rfl) (by unfold maxLen; omega) (by omega) (by simp; omega) ?_); intro g4 Ag w4 Aa Ae; have Al := hide Aa; have Ah : Hid (Below w.heap.size w w4) := hide (Ac.out.trans ((dj (Z := fun k => w.heap.size ≤ k) rfl (by rcases Ae with h | ⟨h1, h2⟩; exact .inl h; exact .inr ⟨by simpa using h1, h2⟩) Am.out).below fun k hk => ⟨by omega, by omega⟩)); clear Aa Ae)
  go_roundw
  case rel => exact ⟨k + 1, n + 1, acc ++ [(z, -1)], some ⟨g4, 0, none⟩, Ag, by omega, by omega, hide (by rw [List.length_append, HN.out]; rfl), by go_num, rfl, hide (by rw [mK]; exact Al.out), HE, Ah⟩
  case measure => simp [intOf]; omega
 have HE : Hid (o = (acc, true)) := hide (by rw [← HO.out, List.drop_eq_nil_of_le (by rw [HM.out]; omega)]; rfl)
 clear HO
 go_wp2_with fail
 go_ret2
 rw [HE.out]
 exact ⟨⟨.slice ma n mc, rfl, ma, mc, by rw [HN.out], by rw [HN.out]; exact Ad.out⟩, HB.out⟩
theorem sD (hT : Wt T K.n) (hX : Xr S N0 K T w) (hP : Pm K pq fm sd F f w) {q s : Nat} {x : RuleM} (hs : T.rules[s]? = some x) (hq : q < K.n) :
    Calls Tryz.prog 188 #[aa pq, .int .i64 q, .int .i64 s] w fun e w' => e = .returned (.agg #[.int .i64 (answM T f q s).1, .int .i64 (answM T f q s).2]) ∧ Below w.heap.size w w' := by
 have hB := ae w (.cells #[.int .i64 0, .int .i64 0] 100)
 have hQ : Fx w.heap.size 100 [.int .i64 0, .int .i64 0] (w.alloc (.cells #[.int .i64 0, .int .i64 0] 100)) := heap_alloc_new w _
 have Aj : s ≤ 4096 := by have := (List.getElem?_eq_some_iff.1 hs).1; have := hT.rl; omega
 have C1 := hide (lQ hT (hX.go hB) (hP.go hB) hs (t := 4) (.inr (.inr (.inr rfl))))
 have HF := hide fun (X : World) (hb : Below w.heap.size w X) => gz (hX.go hb) (s := s) (z := q) Aj hq
 have HW := hide fun (X : World) (hb : Below w.heap.size w X) (a : Option Addr) (c : Nat) (hA : At1 X a (aq (aQ T q s))) => gq (c := c) hT (hX.go hb) (hP.go hb) hA (Nat.le_trans ij hT.rl) (fun r hr => dZ (lE hr)) (t := 3) (.inr (.inr (.inl rfl)))
 have Af := hide fun (X : World) (hb : Below w.heap.size w X) => (hP.go hb).bx.get (i := 0) rfl
 have HB := hide hB
 have HQ := hide hQ
 have HR : Hid (answM T f q s = if refdM T f s 4 = -1 then (-1, firstM T f (aQ T q s) 3) else (refdM T f s 4, -1)) := hide rfl
 generalize answM T f q s = o at *
 generalize refdM T f s 4 = z at *
 generalize firstM T f (aQ T q s) 3 = y at *
 clear hT hX hP hs hq hB hQ
 go_enter Tryz.func188, Tryz.ntmps188
 go_upto_region 1 with fail
 generalize w.alloc (.cells #[.int .i64 0, .int .i64 0] 100) = W at *
 by_cases hz : z = -1
 ·have HE : Hid (o = (-1, y)) := hide (by rw [HR.out, if_pos hz])
  subst hz
  go_upto_region 4 with (go_at_call 225; refine C1.out.mono ?_; rintro _ w2 ⟨rfl, hw⟩; have Ab := hide (HB.out.trans (hw.mono HB.out.size)); have Aa := hide (HQ.out.keep (hw.block _ HQ.out.lt)); clear hw C1)
  have p0 := Af.out w2 Ab.out
  obtain ⟨a, c, Ah, -, Ai⟩ := HF.out w2 Ab.out
  have CB := hide (Ai w2 rfl)
  have CW := hide (HW.out w2 Ab.out a c Ah)
  clear Ah Ai HF HW Af
  go_wp2_with (first | (go_at_call 150; refine CB.out.mono ?_; rintro _ w3 ⟨rfl, Ad⟩; subst w3; clear CB) | (go_at_call 186; refine CW.out.mono ?_; rintro _ w3 ⟨rfl, Ad⟩; have Ag := hide (Ab.out.trans (Ad.mono Ab.out.size)); have Ac := hide (Aa.out.keep (Ad.block _ Aa.out.lt)); have z0 := Ac.out.frz 0; have z1 := Ac.out.frz 1; have y0 := Ac.out.get (i := 0) rfl; have y1 := Ac.out.get (i := 1) rfl; clear Ad CW))
  have HG := hide ((Ac.out.set 0 (.int .i64 (-1))).set 1 (.int .i64 y))
  have Ae := hide ((Ag.out.setCell (p := ⟨w.heap.size, 0, none⟩) (Nat.le_refl _) (.int .i64 (-1))).setCell (p := ⟨w.heap.size, 1, none⟩) (Nat.le_refl _) (.int .i64 y))
  clear z0 z1 y0 y1 Ac Ag
  refine bodyPost_ret (results_cell_row rfl _ _ w.heap.size 100 #[.int .i64 (-1), .int .i64 y] _ _ rfl HG.out Tryz.underlying100 rfl (by kernel_rfl)) rfl ?_
  rw [HE.out]
  exact ⟨rfl, Ae.out⟩
 have HE : Hid (o = (z, -1)) := hide (by rw [HR.out, if_neg hz])
 have Ak : (z != -1) = true := by simpa using hz
 go_upto_region 3 with (go_at_call 225; refine C1.out.mono ?_; rintro _ w2 ⟨rfl, hw⟩; have Ab := hide (HB.out.trans (hw.mono HB.out.size)); have Aa := hide (HQ.out.keep (hw.block _ HQ.out.lt)); clear hw C1)
 have z0 := Aa.out.frz 0
 have z1 := Aa.out.frz 1
 have y0 := Aa.out.get (i := 0) rfl
 have y1 := Aa.out.get (i := 1) rfl
 clear HF HW Af
 go_wp2_with fail
 have HG := hide ((Aa.out.set 0 (.int .i64 z)).set 1 (.int .i64 (-1)))
 have Ae := hide ((Ab.out.setCell (p := ⟨w.heap.size, 0, none⟩) (Nat.le_refl _) (.int .i64 z)).setCell (p := ⟨w.heap.size, 1, none⟩) (Nat.le_refl _) (.int .i64 (-1)))
 clear z0 z1 y0 y1 Aa Ab
 refine bodyPost_ret (results_cell_row rfl _ _ w.heap.size 100 #[.int .i64 z, .int .i64 (-1)] _ _ rfl HG.out Tryz.underlying100 rfl (by kernel_rfl)) rfl ?_
 rw [HE.out]
 exact ⟨rfl, Ae.out⟩
end
set_option maxRecDepth 100000
set_option maxHeartbeats 3200000
abbrev nR (b : Nat) (v0 v1 v2 v3 v4 : Value) (w : World) : World := ((((w.setCell ⟨b, 0, none⟩ v0).setCell ⟨b, 1, none⟩ v1).setCell ⟨b, 2, none⟩ v2).setCell ⟨b, 3, none⟩ v3).setCell ⟨b, 4, none⟩ v4
abbrev stepZ : List Value := [.int .i64 0, .int .i64 0, .int .i64 0, .int .i64 0, .slice none 0 0]
theorem kH {b t : Nat} {v0 v1 v2 v3 v4 : Value} {w : World} (h : Fx b t stepZ w) : Fx b t [v0, v1, v2, v3, v4] (nR b v0 v1 v2 v3 v4 w) := ((((h.set 0 v0).set 1 v1).set 2 v2).set 3 v3).set 4 v4
theorem eU {B b : Nat} {v0 v1 v2 v3 v4 : Value} {w0 w : World} (h : Below B w0 w) (hb : B ≤ b) : Below B w0 (nR b v0 v1 v2 v3 v4 w) :=
 ((((h.setCell (p := ⟨b, 0, none⟩) hb v0).setCell (p := ⟨b, 1, none⟩) hb v1).setCell (p := ⟨b, 2, none⟩) hb v2).setCell (p := ⟨b, 3, none⟩) hb v3).setCell (p := ⟨b, 4, none⟩) hb v4
theorem xg {b g : Nat} {v0 v1 v2 v3 v4 : Value} {w : World} (h : g ≠ b) : (nR b v0 v1 v2 v3 v4 w).heap[g]? = w.heap[g]? := by
 unfold nR
 rw [other_set h, other_set h, other_set h, other_set h, other_set h]
def rT (w w' : World) (e : Ending) (r : pn) : Prop := ∃ v, e = .returned (.agg #[.int .i64 0, .int .i64 0, .int .i64 r.1, .int .i64 r.2.1, v]) ∧ Own2 w w' v r.2.2
theorem pN {b : Nat} {v0 v1 v2 v3 v4 v : Value} {w0 w : World} {l : List (Int × Int)} (h : Own2 w0 w v l) (hb : v.ownBlock ≠ some b) : Own2 w0 (nR b v0 v1 v2 v3 v4 w) v l := by
 obtain ⟨ca, cc, rfl, h⟩ := h
 exact ⟨ca, cc, rfl, owns_keep h fun g hg => xg fun e => hb (e ▸ hg)⟩
section
variable {S : Nat → Prop} {N0 : Nat} {K : cC} {T : Th} {pq fm sd : Nat} {F : List Int} {f : Int → Int} {w : World}
theorem plusDelta_any (hT : Wt T K.n) (hX : Xr S N0 K T w) (hP : Pm K pq fm sd F f w) {q : Nat} (hq : q < K.n) :
    Calls Tryz.prog 158 #[aa pq, .int .i64 q] w fun e w' => rT w w' e (rsPD T F f q) ∧ Below w.heap.size w w' := by
 have hB := ae w (.cells stepZ.toArray 32)
 have hQ : Fx w.heap.size 32 stepZ (w.alloc (.cells stepZ.toArray 32)) := heap_alloc_new w _
 have Ac := hX.go hB
 have Ab := hP.go hB
 have p0 := Ab.bx.get (i := 0) rfl
 have p1 := Ab.bx.get (i := 1) rfl
 have cf := Ab.ff.get (dy hq)
 have b4 := Ac.bx.get (i := 4) rfl
 obtain ⟨a, c, cr, Ag, -⟩ := LL.row Ac.s hq
 have CW := hide (gq (c := c) hT Ac Ab Ag (Nat.le_trans bg hT.rl) (fun r hr => dZ (bN hr)) (t := 1) (.inl rfl))
 have HR : Hid (rsPD T F f q = if decide ((q : Int) ∈ F) then (1, -1, []) else (2, firstM T f (ag T kS q) 1, [])) := hide (by unfold rsPD; simp)
 have HB := hide hB
 have HQ := hide hQ
 generalize rsPD T F f q = o at *
 generalize decide ((q : Int) ∈ F) = fb at *
 generalize firstM T f (ag T kS q) 1 = y at *
 clear hT hX hP Ac Ab Ag hB hQ
 go_enter Tryz.func158, Tryz.ntmps158
 go_upto_region 1 with fail
 generalize w.alloc (.cells #[.int .i64 0, .int .i64 0, .int .i64 0, .int .i64 0, .slice none 0 0] 32) = W at *
 cases fb with
 | true =>
  have HE : Hid (o = (1, -1, [])) := hide (by rw [HR.out]; rfl)
  have z0 := HQ.out.frz 0
  have z1 := HQ.out.frz 1
  have z2 := HQ.out.frz 2
  have z3 := HQ.out.frz 3
  have z4 := HQ.out.frz 4
  have y0 := HQ.out.get (i := 0) rfl
  have y1 := HQ.out.get (i := 1) rfl
  have y2 := HQ.out.get (i := 2) rfl
  have y3 := HQ.out.get (i := 3) rfl
  have y4 := HQ.out.get (i := 4) rfl
  clear CW HR
  go_wp2_with fail
  have HG := hide (kH (v0 := .int .i64 0) (v1 := .int .i64 0) (v2 := .int .i64 1) (v3 := .int .i64 (-1)) (v4 := .slice none 0 0) HQ.out)
  have Ad := hide (eU (v0 := .int .i64 0) (v1 := .int .i64 0) (v2 := .int .i64 1) (v3 := .int .i64 (-1)) (v4 := .slice none 0 0) (b := w.heap.size) HB.out (Nat.le_refl _))
  clear z0 z1 z2 z3 z4 y0 y1 y2 y3 y4 HQ HB
  refine bodyPost_ret (results_cell_row rfl _ _ w.heap.size 32 #[.int .i64 0, .int .i64 0, .int .i64 1, .int .i64 (-1), .slice none 0 0] _ _ rfl HG.out Tryz.underlying32 rfl (by kernel_rfl)) rfl ?_
  rw [HE.out]
  exact ⟨⟨_, rfl, Own2.nil⟩, Ad.out⟩
 | false =>
  have HE : Hid (o = (2, y, [])) := hide (by rw [HR.out]; rfl)
  clear HR
  go_wp2_with (go_at_call 186; refine CW.out.mono ?_; rintro _ w3 ⟨rfl, Ae⟩; have Af := hide (HB.out.trans (Ae.mono HB.out.size)); have Aa := hide (HQ.out.keep (Ae.block _ HQ.out.lt)); have z0 := Aa.out.frz 0; have z1 := Aa.out.frz 1; have z2 := Aa.out.frz 2; have z3 := Aa.out.frz 3; have z4 := Aa.out.frz 4; have y0 := Aa.out.get (i := 0) rfl; have y1 := Aa.out.get (i := 1) rfl; have y2 := Aa.out.get (i := 2) rfl; have y3 := Aa.out.get (i := 3) rfl; have y4 := Aa.out.get (i := 4) rfl; clear Ae CW p0 p1 cf b4 cr)
  have HG := hide (kH (v0 := .int .i64 0) (v1 := .int .i64 0) (v2 := .int .i64 2) (v3 := .int .i64 y) (v4 := .slice none 0 0) Aa.out)
  have Ad := hide (eU (v0 := .int .i64 0) (v1 := .int .i64 0) (v2 := .int .i64 2) (v3 := .int .i64 y) (v4 := .slice none 0 0) (b := w.heap.size) Af.out (Nat.le_refl _))
  clear z0 z1 z2 z3 z4 y0 y1 y2 y3 y4 Aa Af
  refine bodyPost_ret (results_cell_row rfl _ _ w.heap.size 32 #[.int .i64 0, .int .i64 0, .int .i64 2, .int .i64 y, .slice none 0 0] _ _ rfl HG.out Tryz.underlying32 rfl (by kernel_rfl)) rfl ?_
  rw [HE.out]
  exact ⟨⟨_, rfl, Own2.nil⟩, Ad.out⟩
theorem minusDelta_any (hT : Wt T K.n) (hX : Xr S N0 K T w) (hP : Pm K pq fm sd F f w) {q : Nat} (hq : q < K.n) :
    Calls Tryz.prog 159 #[aa pq, .int .i64 q] w fun e w' => rT w w' e (rsMD T f q) ∧ Below w.heap.size w w' := by
 have hB := ae w (.cells stepZ.toArray 32)
 have hQ : Fx w.heap.size 32 stepZ (w.alloc (.cells stepZ.toArray 32)) := heap_alloc_new w _
 have Ab := hX.go hB
 have Ad := hP.go hB
 have p0 := Ad.bx.get (i := 0) rfl
 have b4 := Ab.bx.get (i := 4) rfl
 obtain ⟨a, c, cr, Af, -⟩ := LL.row Ab.s hq
 have CW := hide (iq (c := c) hT Ab Ad Af (Nat.le_trans bg hT.rl) (fun r hr => dZ (bN hr)) (t := 2) (.inr (.inl rfl)))
 have HR : Hid (rsMD T f q = (3, -1, (refsM T f (ag T kS q) 2).1)) := hide rfl
 have HB := hide hB
 have HQ := hide hQ
 generalize rsMD T f q = o at *
 generalize refsM T f (ag T kS q) 2 = y at *
 have hE := HR.out
 subst hE
 clear hT hX hP Ab Ad Af hB hQ HR
 go_enter Tryz.func159, Tryz.ntmps159
 go_upto_region 1 with fail
 generalize w.alloc (.cells #[.int .i64 0, .int .i64 0, .int .i64 0, .int .i64 0, .slice none 0 0] 32) = W at *
 go_wp2_with (go_at_call 187; refine CW.out.mono ?_; rintro _ w3 ⟨⟨_, rfl, va, vc, rfl, hv⟩, Ac⟩; have HV := hide (show Own2 _ w3 _ _ from ⟨va, vc, rfl, hv⟩); have Ae := hide (HB.out.trans (Ac.mono HB.out.size)); have Aa := hide (HQ.out.keep (Ac.block _ HQ.out.lt)); have z0 := Aa.out.frz 0; have z1 := Aa.out.frz 1; have z2 := Aa.out.frz 2; have z3 := Aa.out.frz 3; have z4 := Aa.out.frz 4; have y0 := Aa.out.get (i := 0) rfl; have y1 := Aa.out.get (i := 1) rfl; have y2 := Aa.out.get (i := 2) rfl; have y3 := Aa.out.get (i := 3) rfl; have y4 := Aa.out.get (i := 4) rfl; clear Ac hv CW p0 b4 cr)
 have HG := hide (kH (v0 := .int .i64 0) (v1 := .int .i64 0) (v2 := .int .i64 3) (v3 := .int .i64 (-1)) (v4 := .slice va (List.length y.1) vc) Aa.out)
 have Ah := hide (eU (v0 := .int .i64 0) (v1 := .int .i64 0) (v2 := .int .i64 3) (v3 := .int .i64 (-1)) (v4 := .slice va (List.length y.1) vc) (b := w.heap.size) Ae.out (Nat.le_refl _))
 have Ag := hide (pN (v0 := .int .i64 0) (v1 := .int .i64 0) (v2 := .int .i64 3) (v3 := .int .i64 (-1)) (v4 := .slice va (List.length y.1) vc) (b := w.heap.size) (HV.out.down HB.out.size) (by
  obtain ⟨ca, cc, e2, h⟩ := HV.out
  intro e
  rw [e2] at e
  have := (h.lt _ e).1
  have := HQ.out.lt
  omega))
 clear z0 z1 z2 z3 z4 y0 y1 y2 y3 y4 Aa Ae HV
 refine bodyPost_ret (results_cell_row rfl _ _ w.heap.size 32 #[.int .i64 0, .int .i64 0, .int .i64 3, .int .i64 (-1), .slice va (List.length y.1) vc] _ _ rfl HG.out Tryz.underlying32 rfl (by kernel_rfl)) rfl ?_
 exact ⟨⟨_, rfl, Ag.out⟩, Ah.out⟩
end
set_option maxRecDepth 100000
set_option maxHeartbeats 12800000
section
variable {S : Nat → Prop} {N0 : Nat} {K : cC} {T : Th} {pq fm sd : Nat} {F : List Int} {f : Int → Int} {w : World}
theorem plusPartial_any (hT : Wt T K.n) (hX : Xr S N0 K T w) (hP : Pm K pq fm sd F f w) {q : Nat} (hq : q < K.n) :
    Calls Tryz.prog 160 #[aa pq, .int .i64 q] w fun e w' => rT w w' e (rsPP T f q) ∧ Below w.heap.size w w' := by
 obtain ⟨iC, AG, AH, AI, AR⟩ := info_parts qc
 have hB := ae w (.cells stepZ.toArray 32)
 have hQ : Fx w.heap.size 32 stepZ (w.alloc (.cells stepZ.toArray 32)) := heap_alloc_new w _
 have AB := hX.go hB
 have Am := hP.go hB
 have CH := hide (dc Am hq (t := 1) (.inl rfl))
 have HX := hide AB
 have HP := hide Am
 have HT := hide hT
 have HR : Hid (rsPP T f q = if hb (f q) 1 then (4, -1, []) else (2, firstM T f (ag T kT q) 3, (aG T q).map (answM T f q))) := hide rfl
 have HB := hide hB
 have HQ := hide hQ
 have An := hide hq
 generalize rsPP T f q = o at *
 obtain ⟨AN, Al⟩ : ∃ b, hb (f q) 1 = b := ⟨_, rfl⟩
 rw [Al] at CH
 have Aw := hide Al
 clear hT hX hP AB Am hB hQ Al
 go_enter Tryz.func160, Tryz.ntmps160
 go_upto_region 1 with fail
 generalize w.alloc (.cells #[.int .i64 0, .int .i64 0, .int .i64 0, .int .i64 0, .slice none 0 0] 32) = W at *
 cases AN with
 | true =>
  have HE : Hid (o = (4, -1, [])) := hide (by rw [HR.out, if_pos Aw.out])
  clear HR
  go_upto_region 2 with (go_at_call 67; refine CH.out.mono ?_; rintro _ w3 ⟨rfl, Ad⟩; have Ae := hide (HB.out.trans (Ad.mono HB.out.size)); have Aa := hide (HQ.out.keep (Ad.block _ HQ.out.lt)); clear Ad CH)
  have z0 := Aa.out.frz 0
  have z1 := Aa.out.frz 1
  have z2 := Aa.out.frz 2
  have z3 := Aa.out.frz 3
  have z4 := Aa.out.frz 4
  have y0 := Aa.out.get (i := 0) rfl
  have y1 := Aa.out.get (i := 1) rfl
  have y2 := Aa.out.get (i := 2) rfl
  have y3 := Aa.out.get (i := 3) rfl
  have y4 := Aa.out.get (i := 4) rfl
  go_wp2_with fail
  have HG := hide (kH (v0 := .int .i64 0) (v1 := .int .i64 0) (v2 := .int .i64 4) (v3 := .int .i64 (-1)) (v4 := .slice none 0 0) Aa.out)
  have Ak := hide (eU (v0 := .int .i64 0) (v1 := .int .i64 0) (v2 := .int .i64 4) (v3 := .int .i64 (-1)) (v4 := .slice none 0 0) (b := w.heap.size) Ae.out (Nat.le_refl _))
  clear z0 z1 z2 z3 z4 y0 y1 y2 y3 y4 Aa Ae
  refine bodyPost_ret (results_cell_row rfl _ _ w.heap.size 32 #[.int .i64 0, .int .i64 0, .int .i64 4, .int .i64 (-1), .slice none 0 0] _ _ rfl HG.out Tryz.underlying32 rfl (by kernel_rfl)) rfl ?_
  rw [HE.out]
  exact ⟨⟨_, rfl, Own2.nil⟩, Ak.out⟩
 | false =>
  have HE : Hid (o = (2, firstM T f (ag T kT q) 3, (aG T q).map (answM T f q))) := hide (by rw [HR.out, Aw.out]; rfl)
  clear HR
  go_upto_region 4 with (go_at_call 67; refine CH.out.mono ?_; rintro _ w3 ⟨rfl, Ad⟩; have Ae := hide (HB.out.trans (Ad.mono HB.out.size)); have Ag := hide (HX.out.go Ad); have Ap := hide (HP.out.go Ad); have Aa := hide (HQ.out.keep (Ad.block _ HQ.out.lt)); clear Ad CH)
  clear HX HP HQ HB
  have p0 := Ap.out.bx.get (i := 0) rfl
  have b6 := Ag.out.bx.get (i := 6) rfl
  obtain ⟨a, c, cr, Av, -⟩ := LL.row Ag.out.a An.out
  have HA := hide Av
  have AL : Hid (∀ r ∈ aG T q, Rn T r) := hide fun r hr => dZ (m5 hr)
  obtain ⟨m, hm⟩ : ∃ m, (aG T q).length = m := ⟨_, rfl⟩
  have HM := hide hm
  have AS : m ≤ 4096 := by rw [← hm]; exact Nat.le_trans g8 HT.out.rl
  rw [hm] at cr
  clear Av hm
  go_wp2_with fail
  clear p0 b6 cr
  go_loopw [5, 23] (fun u x wr => ∃ (k : Nat) (ma : Option Addr) (mc : Nat), k ≤ m ∧ x = .int .i64 k ∧ u = .slice ma k mc ∧ Hid (wr.ownsRow w3.heap.size 100 2 (.slice ma k mc) k (prs (((aG T q).take k).map (answM T f q)))) ∧ Hid (Below w3.heap.size w3 wr)) (fun _ x _ => m - (intOf x).toNat)
  case atStart => exact ⟨0, none, 0, by omega, rfl, rfl, hide ⟨rfl, .inl ⟨rfl, rfl⟩⟩, hide (Below.refl _ _)⟩
  obtain ⟨k, ma, mc, hk, rfl, rfl, Af, Ac⟩ := hrel
  by_cases hlt : k < m
  ·obtain ⟨y, hy⟩ := am (l := aG T q) (i := k) (by rw [HM.out]; exact hlt)
   obtain ⟨g, og, rfl, cy⟩ := np (ni HA.out Ac.out) hy
   obtain ⟨r, x, rfl, hx⟩ := AL.out y (List.mem_of_getElem? hy)
   have C := hide (sD HT.out (Ag.out.go Ac.out) (Ap.out.go Ac.out) hx An.out)
   have Ar : Hid (prs (((aG T q).take (k + 1)).map (answM T f q)) = prs (((aG T q).take k).map (answM T f q)) ++ [.int .i64 (answM T f q r).1, .int .i64 (answM T f q r).2]) := hide (by rw [bD hy, List.map_append, ← mK]; rfl)
   obtain ⟨⟨c1, c2⟩, Au⟩ : ∃ z, answM T f q r = z := ⟨_, rfl⟩
   rw [Au] at C Ar
   simp only at C Ar
   generalize prs (((aG T q).take k).map (answM T f q)) = P0 at *
   clear hy hx Au
   go_upto_region 8 with (first | (at_builtin; go_must (refine bt _ rfl _ _ 30 rfl w3.heap.size 100 iC _ 2 16 Tryz.underlying30 AG AH AI AR rfl (by decide) (.slice ma k mc) k P0 rfl AD.out ⟨w2.heap.size, 0, none⟩ 1 [.int .i64 c1, .int .i64 c2] rfl rfl (lF (cs := [.int .i64 c1, .int .i64 c2]) rfl) (by intro u hu; simp at hu; rcases hu with rfl | rfl <;> rfl) (by unfold maxLen; omega) (by omega) (by simp; omega) ?_); intro g4 AE w4 Aj Az; have AQ := hide Aj; have Ak : Hid (Below w3.heap.size w3 w4) := hide (Ay.out.trans ((dj (Z := fun k => w3.heap.size ≤ k) rfl (by rcases Az with h | ⟨h1, h2⟩; exact .inl h; exact .inr ⟨by simpa using h1, h2⟩) AK.out).below fun k hk => ⟨by omega, by omega⟩)); clear Aj Az) | (go_at_call 188; refine C.out.mono ?_; rintro _ w2 ⟨rfl, hw⟩; have Ay := hide (Ac.out.trans (hw.mono Ac.out.size)); have Aq := hide (owns_keep Af.out fun g hg => hw.block g (ax Af.out hg)); have AD := hide (owns_keep Aq.out fun g hg => (ae w2 (.cells #[.int .i64 c1, .int .i64 c2] 100)).block g (ax Aq.out hg)); have hs := Ay.out.size; have AK : Hid (∀ g, Value.ownBlock (.slice ma k mc) = some g → w3.heap.size ≤ g) := hide (fun g e => (Aq.out.lt g e).1); clear hw C))
   go_wp2_with fail
   go_roundw
   case rel => exact ⟨k + 1, some ⟨g4, 0, none⟩, AE, by omega, by go_num, rfl, hide (by rw [Ar.out]; exact AQ.out), Ak⟩
   case measure => simp [intOf]; omega
  have AJ : k = m := by omega
  subst AJ
  have HV : Hid (Own2 w3 wr (.slice ma k mc) ((aG T q).map (answM T f q))) := hide ⟨ma, mc, by rw [List.length_map, HM.out], by have := Af.out; rw [List.take_of_length_le (by rw [HM.out]; omega)] at this; rw [List.length_map, HM.out]; exact this⟩
  have Ah := Ag.out.go Ac.out
  have As := Ap.out.go Ac.out
  have p0 := As.bx.get (i := 0) rfl
  have b5 := Ah.bx.get (i := 5) rfl
  obtain ⟨a2, c2, AM, Ao, -⟩ := LL.row Ah.t An.out
  have CW := hide (gq (c := c2) HT.out Ah As Ao (Nat.le_trans bg HT.out.rl) (fun r hr => dZ (bN hr)) (t := 3) (.inr (.inr (.inl rfl))))
  have AC := hide (Ae.out.trans (Ac.out.mono Ae.out.size))
  have Ax := hide (Aa.out.keep (Ac.out.block _ Aa.out.lt))
  have AF : Hid (Value.ownBlock (.slice ma k mc) ≠ some w.heap.size) := hide fun e => by
   have := (Af.out.lt _ e).1
   have := Aa.out.lt
   omega
  generalize firstM T f (ag T kT q) 3 = fz at *
  clear Ah As Ao Af
  go_wp2_with (go_at_call 186; refine CW.out.mono ?_; rintro _ w5 ⟨rfl, Ai⟩; have AA := hide (AC.out.trans (Ai.mono AC.out.size)); have Ab := hide (Ax.out.keep (Ai.block _ Ax.out.lt)); have At := hide (HV.out.go Ai); have z0 := Ab.out.frz 0; have z1 := Ab.out.frz 1; have z2 := Ab.out.frz 2; have z3 := Ab.out.frz 3; have z4 := Ab.out.frz 4; have y0 := Ab.out.get (i := 0) rfl; have y1 := Ab.out.get (i := 1) rfl; have y2 := Ab.out.get (i := 2) rfl; have y3 := Ab.out.get (i := 3) rfl; have y4 := Ab.out.get (i := 4) rfl; clear Ai CW p0 b5 AM)
  have HG := hide (kH (v0 := .int .i64 0) (v1 := .int .i64 0) (v2 := .int .i64 2) (v3 := .int .i64 fz) (v4 := .slice ma k mc) Ab.out)
  have AP := hide (eU (v0 := .int .i64 0) (v1 := .int .i64 0) (v2 := .int .i64 2) (v3 := .int .i64 fz) (v4 := .slice ma k mc) (b := w.heap.size) AA.out (Nat.le_refl _))
  have AO := hide (pN (v0 := .int .i64 0) (v1 := .int .i64 0) (v2 := .int .i64 2) (v3 := .int .i64 fz) (v4 := .slice ma k mc) (b := w.heap.size) (At.out.down (w0 := w) Ae.out.size) AF.out)
  clear z0 z1 z2 z3 z4 y0 y1 y2 y3 y4 Ab AA At
  refine bodyPost_ret (results_cell_row rfl _ _ w.heap.size 32 #[.int .i64 0, .int .i64 0, .int .i64 2, .int .i64 fz, .slice ma k mc] _ _ rfl HG.out Tryz.underlying32 rfl (by kernel_rfl)) rfl ?_
  rw [HE.out]
  exact ⟨⟨_, rfl, AO.out⟩, AP.out⟩
end
set_option maxRecDepth 100000
set_option maxHeartbeats 12800000
section
variable {S : Nat → Prop} {N0 : Nat} {K : cC} {T : Th} {pq fm sd : Nat} {F : List Int} {f : Int → Int} {w : World}
theorem pE (hT : Wt T K.n) (hX : Xr S N0 K T w) (hP : Pm K pq fm sd F f w) {q : Nat} (hq : q < K.n) :
    Calls Tryz.prog 189 #[aa pq, .int .i64 q] w fun e w' => rT w w' e (dr T f q (aG T q)) ∧ Below w.heap.size w w' := by
 have hB := ae w (.cells stepZ.toArray 32)
 have hQ : Fx w.heap.size 32 stepZ (w.alloc (.cells stepZ.toArray 32)) := heap_alloc_new w _
 have Ag := hX.go hB
 have Ai := hP.go hB
 have HX := hide Ag
 have HP := hide Ai
 have HT := hide hT
 have HB := hide hB
 have HQ := hide hQ
 have As := hide hq
 have p0 := Ai.bx.get (i := 0) rfl
 have b6 := Ag.bx.get (i := 6) rfl
 obtain ⟨a, c, cr, Aq, -⟩ := LL.row Ag.a hq
 have HA := hide Aq
 have At : Hid (∀ r ∈ aG T q, Rn T r) := hide fun r hr => dZ (m5 hr)
 obtain ⟨m, hm⟩ : ∃ m, (aG T q).length = m := ⟨_, rfl⟩
 have HM := hide hm
 have Aw : m ≤ 4096 := by rw [← hm]; exact Nat.le_trans g8 hT.rl
 rw [hm] at cr
 obtain ⟨o, ho⟩ : ∃ o, dr T f q (aG T q) = o := ⟨_, rfl⟩
 rw [ho]
 have HO : Hid (dr T f q ((aG T q).drop 0) = o) := hide (by rw [List.drop_zero]; exact ho)
 clear hT hX hP Ag Ai hB hQ Aq hm ho
 go_enter Tryz.func189, Tryz.ntmps189
 go_upto_region 1 with fail
 generalize w.alloc (.cells #[.int .i64 0, .int .i64 0, .int .i64 0, .int .i64 0, .slice none 0 0] 32) = W at *
 go_wp2_with fail
 clear p0 b6 cr
 go_loopw [20] (fun x wr => ∃ k : Nat, k ≤ m ∧ x = .int .i64 k ∧ Hid (dr T f q ((aG T q).drop k) = o) ∧ Hid (Below W.heap.size W wr)) (fun x _ => m - (intOf x).toNat)
 case atStart => exact ⟨0, by omega, rfl, HO, hide (Below.refl _ _)⟩
 clear HO
 obtain ⟨k, hk, rfl, HO, Ab⟩ := hrel
 by_cases hlt : k < m
 ·obtain ⟨y, hy⟩ := am (l := aG T q) (i := k) (by rw [HM.out]; exact hlt)
  obtain ⟨g, og, rfl, cy⟩ := np (ni HA.out Ab.out) hy
  obtain ⟨r, x, rfl, hx⟩ := At.out y (List.mem_of_getElem? hy)
  have Au : r ≤ 4096 := by have := (List.getElem?_eq_some_iff.1 hx).1; have := HT.out.rl; omega
  have C := hide (lO HT.out (HX.out.go Ab.out) (HP.out.go Ab.out) hx (t := 3) (.inr (.inr (.inl rfl))))
  have HS := hide (uv (T := T) (f := f) (q := q) hy)
  clear hy hx
  cases Ac : wholeM T f r 3 with
  | false =>
   rw [Ac] at C
   have HE : Hid (dr T f q ((aG T q).drop (k + 1)) = o) := hide (by rw [← HO.out, HS.out, Ac]; rfl)
   clear Ac HS HO
   go_wp2_with (go_at_call 224; refine C.out.mono ?_; rintro _ w2 ⟨rfl, hw⟩; have Ad := hide (Ab.out.trans (hw.mono Ab.out.size)); clear hw C)
   go_roundw
   case rel => exact ⟨k + 1, by omega, by go_num, HE, Ad⟩
   case measure => simp [intOf]; omega
  | true =>
   rw [Ac] at C
   obtain ⟨⟨ch, bo⟩, Ao⟩ : ∃ z, refsM T f (aQ T q r) 4 = z := ⟨_, rfl⟩
   have HE : Hid ((if bo then ((5 : Int), (r : Int), ch) else dr T f q ((aG T q).drop (k + 1))) = o) := hide (by rw [← HO.out, HS.out, Ac, Ao]; cases bo <;> rfl)
   clear Ac HS HO
   go_upto_region 5 with (go_at_call 224; refine C.out.mono ?_; rintro _ w2 ⟨rfl, hw⟩; have Ad := hide (Ab.out.trans (hw.mono Ab.out.size)); clear hw C)
   have Ah := HX.out.go Ad.out
   have Ak := HP.out.go Ad.out
   have p0 := Ak.bx.get (i := 0) rfl
   obtain ⟨a2, c2, Aj, -, Ar⟩ := gz Ah Au As.out
   have CB := hide (Ar w2 rfl)
   have CR := hide (iq (c := c2) HT.out Ah Ak Aj (Nat.le_trans ij HT.out.rl) (fun r hr => dZ (lE hr)) (t := 4) (.inr (.inr (.inr rfl))))
   rw [Ao] at CR
   have Al := hide (HQ.out.keep (Ad.out.block _ HQ.out.lt))
   have Ap := hide (HB.out.trans (Ad.out.mono HB.out.size))
   clear Ah Ak Aj Ar Ao
   cases bo with
   | false =>
    have Am : Hid (dr T f q ((aG T q).drop (k + 1)) = o) := hide (by rw [← HE.out]; rfl)
    clear HE
    go_wp2_with (first | (go_at_call 150; refine CB.out.mono ?_; rintro _ w3 ⟨rfl, Ac⟩; subst w3; clear CB) | (go_at_call 187; refine CR.out.mono ?_; rintro _ w4 ⟨⟨_, rfl, va, vc, rfl, hv⟩, Af⟩; have Ae := hide (Ad.out.trans (Af.mono Ad.out.size)); clear hv Af CR p0))
    go_roundw
    case rel => exact ⟨k + 1, by omega, by go_num, Am, Ae⟩
    case measure => simp [intOf]; omega
   | true =>
    have Am : Hid (o = (5, (r : Int), ch)) := hide (by rw [← HE.out]; rfl)
    clear HE
    go_wp2_with (first | (go_at_call 150; refine CB.out.mono ?_; rintro _ w3 ⟨rfl, Ac⟩; subst w3; clear CB) | (go_at_call 187; refine CR.out.mono ?_; rintro _ w4 ⟨⟨_, rfl, va, vc, rfl, hv⟩, Af⟩; have HV := hide (show Own2 w2 w4 _ _ from ⟨va, vc, rfl, hv⟩); have Ae := hide (Ap.out.trans (Af.mono Ap.out.size)); have Aa := hide (Al.out.keep (Af.block _ Al.out.lt)); have z0 := Aa.out.frz 0; have z1 := Aa.out.frz 1; have z2 := Aa.out.frz 2; have z3 := Aa.out.frz 3; have z4 := Aa.out.frz 4; have y0 := Aa.out.get (i := 0) rfl; have y1 := Aa.out.get (i := 1) rfl; have y2 := Aa.out.get (i := 2) rfl; have y3 := Aa.out.get (i := 3) rfl; have y4 := Aa.out.get (i := 4) rfl; clear hv Af CR p0))
    have HG := hide (kH (v0 := .int .i64 0) (v1 := .int .i64 0) (v2 := .int .i64 5) (v3 := .int .i64 r) (v4 := .slice va (List.length ch) vc) Aa.out)
    have An := hide (eU (v0 := .int .i64 0) (v1 := .int .i64 0) (v2 := .int .i64 5) (v3 := .int .i64 r) (v4 := .slice va (List.length ch) vc) (b := w.heap.size) Ae.out (Nat.le_refl _))
    have Av := hide (pN (v0 := .int .i64 0) (v1 := .int .i64 0) (v2 := .int .i64 5) (v3 := .int .i64 r) (v4 := .slice va (List.length ch) vc) (b := w.heap.size) (HV.out.down (w0 := w) Ap.out.size) (by
     obtain ⟨ca, cc, e2, h⟩ := HV.out
     intro e
     rw [e2] at e
     have := (h.lt _ e).1
     have := Al.out.lt
     omega))
    clear z0 z1 z2 z3 z4 y0 y1 y2 y3 y4 Aa Ae HV
    refine bodyPost_ret (results_cell_row rfl _ _ w.heap.size 32 #[.int .i64 0, .int .i64 0, .int .i64 5, .int .i64 r, .slice va (List.length ch) vc] _ _ rfl HG.out Tryz.underlying32 rfl (by kernel_rfl)) rfl ?_
    rw [Am.out]
    exact ⟨⟨_, rfl, Av.out⟩, An.out⟩
 have HE : Hid (o = (5, -1, [])) := hide (by rw [← HO.out, List.drop_eq_nil_of_le (by rw [HM.out]; omega)]; rfl)
 clear HO
 have Aa := hide (HQ.out.keep (Ab.out.block _ HQ.out.lt))
 have Ae := hide (HB.out.trans (Ab.out.mono HB.out.size))
 have z0 := Aa.out.frz 0
 have z1 := Aa.out.frz 1
 have z2 := Aa.out.frz 2
 have z3 := Aa.out.frz 3
 have z4 := Aa.out.frz 4
 have y0 := Aa.out.get (i := 0) rfl
 have y1 := Aa.out.get (i := 1) rfl
 have y2 := Aa.out.get (i := 2) rfl
 have y3 := Aa.out.get (i := 3) rfl
 have y4 := Aa.out.get (i := 4) rfl
 go_wp2_with fail
 have HG := hide (kH (v0 := .int .i64 0) (v1 := .int .i64 0) (v2 := .int .i64 5) (v3 := .int .i64 (-1)) (v4 := .slice none 0 0) Aa.out)
 have An := hide (eU (v0 := .int .i64 0) (v1 := .int .i64 0) (v2 := .int .i64 5) (v3 := .int .i64 (-1)) (v4 := .slice none 0 0) (b := w.heap.size) Ae.out (Nat.le_refl _))
 clear z0 z1 z2 z3 z4 y0 y1 y2 y3 y4 Aa Ae
 refine bodyPost_ret (results_cell_row rfl _ _ w.heap.size 32 #[.int .i64 0, .int .i64 0, .int .i64 5, .int .i64 (-1), .slice none 0 0] _ _ rfl HG.out Tryz.underlying32 rfl (by kernel_rfl)) rfl ?_
 rw [HE.out]
 exact ⟨⟨_, rfl, Own2.nil⟩, An.out⟩
theorem vS {p : Int → Bool} {l : List Int} {k : Nat} {x : Int} (h : l[k]? = some x) : (l.drop k).any p = (p x || (l.drop (k + 1)).any p) := by rw [aM h]; rfl
theorem minusPartial_any (hT : Wt T K.n) (hX : Xr S N0 K T w) (hP : Pm K pq fm sd F f w) {q : Nat} (hq : q < K.n) :
    Calls Tryz.prog 161 #[aa pq, .int .i64 q] w fun e w' => rT w w' e (rsMP T f q) ∧ Below w.heap.size w w' := by
 have hB := ae w (.cells stepZ.toArray 32)
 have hQ : Fx w.heap.size 32 stepZ (w.alloc (.cells stepZ.toArray 32)) := heap_alloc_new w _
 have Ai := hX.go hB
 have Ak := hP.go hB
 have p0 := Ak.bx.get (i := 0) rfl
 have b5 := Ai.bx.get (i := 5) rfl
 obtain ⟨a, c, cr, Az, -⟩ := LL.row Ai.t hq
 have CW := hide (iq (c := c) hT Ai Ak Az (Nat.le_trans bg hT.rl) (fun r hr => dZ (bN hr)) (t := 4) (.inr (.inr (.inr rfl))))
 have HX := hide Ai
 have HP := hide Ak
 have HT := hide hT
 have Ao := hide hq
 have HB := hide hB
 have HQ := hide hQ
 obtain ⟨⟨ch, bo⟩, Au⟩ : ∃ z, refsM T f (ag T kT q) 4 = z := ⟨_, rfl⟩
 rw [Au] at CW
 have HR : Hid (rsMP T f q = if bo then (3, -1, ch) else if (row T.foes q).any fun z => hb (f z) 1 then (4, gn (fun z => hb (f z) 1) (row T.foes q), []) else dr T f q (aG T q)) := hide (by unfold rsMP; rw [Au])
 generalize rsMP T f q = o at *
 clear hT hX hP Ai Ak Az hB hQ Au
 go_enter Tryz.func161, Tryz.ntmps161
 go_upto_region 1 with fail
 generalize w.alloc (.cells #[.int .i64 0, .int .i64 0, .int .i64 0, .int .i64 0, .slice none 0 0] 32) = W at *
 cases bo with
 | true =>
  have HE : Hid (o = (3, -1, ch)) := hide (by rw [HR.out]; rfl)
  clear HR
  go_wp2_with (go_at_call 187; refine CW.out.mono ?_; rintro _ w3 ⟨⟨_, rfl, va, vc, rfl, hv⟩, Ae⟩; have HV := hide (show Own2 W w3 _ _ from ⟨va, vc, rfl, hv⟩); have Ag := hide (HB.out.trans (Ae.mono HB.out.size)); have Aa := hide (HQ.out.keep (Ae.block _ HQ.out.lt)); have z0 := Aa.out.frz 0; have z1 := Aa.out.frz 1; have z2 := Aa.out.frz 2; have z3 := Aa.out.frz 3; have z4 := Aa.out.frz 4; have y0 := Aa.out.get (i := 0) rfl; have y1 := Aa.out.get (i := 1) rfl; have y2 := Aa.out.get (i := 2) rfl; have y3 := Aa.out.get (i := 3) rfl; have y4 := Aa.out.get (i := 4) rfl; clear Ae hv CW p0 b5 cr)
  have HG := hide (kH (v0 := .int .i64 0) (v1 := .int .i64 0) (v2 := .int .i64 3) (v3 := .int .i64 (-1)) (v4 := .slice va (List.length ch) vc) Aa.out)
  have Af := hide (eU (v0 := .int .i64 0) (v1 := .int .i64 0) (v2 := .int .i64 3) (v3 := .int .i64 (-1)) (v4 := .slice va (List.length ch) vc) (b := w.heap.size) Ag.out (Nat.le_refl _))
  have AI := hide (pN (v0 := .int .i64 0) (v1 := .int .i64 0) (v2 := .int .i64 3) (v3 := .int .i64 (-1)) (v4 := .slice va (List.length ch) vc) (b := w.heap.size) (HV.out.down (w0 := w) HB.out.size) (by
   obtain ⟨ca, cc, e2, h⟩ := HV.out
   intro e
   rw [e2] at e
   have := (h.lt _ e).1
   have := HQ.out.lt
   omega))
  clear z0 z1 z2 z3 z4 y0 y1 y2 y3 y4 Aa Ag HV
  refine bodyPost_ret (results_cell_row rfl _ _ w.heap.size 32 #[.int .i64 0, .int .i64 0, .int .i64 3, .int .i64 (-1), .slice va (List.length ch) vc] _ _ rfl HG.out Tryz.underlying32 rfl (by kernel_rfl)) rfl ?_
  rw [HE.out]
  exact ⟨⟨_, rfl, AI.out⟩, Af.out⟩
 | false =>
  have Ap : Hid (o = if (row T.foes q).any fun z => hb (f z) 1 then (4, gn (fun z => hb (f z) 1) (row T.foes q), []) else dr T f q (aG T q)) := hide (by rw [HR.out]; rfl)
  clear HR
  go_upto_region 4 with (go_at_call 187; refine CW.out.mono ?_; rintro _ w3 ⟨⟨_, rfl, va, vc, rfl, hv⟩, Ae⟩; have Ag := hide (HB.out.trans (Ae.mono HB.out.size)); have Ah := hide (HX.out.go Ae); have Aq := hide (HP.out.go Ae); have Aa := hide (HQ.out.keep (Ae.block _ HQ.out.lt)); clear Ae hv CW p0 b5 cr)
  clear HX HP HQ HB
  have p0 := Aq.out.bx.get (i := 0) rfl
  have b1 := Ah.out.bx.get (i := 1) rfl
  have AG : q < T.foes.length := by rw [HT.out.fl]; exact Ao.out
  obtain ⟨l2, Ar⟩ := am AG
  have Aj := bn Ar
  obtain ⟨gf, of, AN, AL, Ax, AM, cf, -, Av, Ay⟩ := bH Ah.out.ta.foes Ar
  rw [Ax] at b1
  have HI := hide Ay
  have AH : Hid (∀ z ∈ l2, 0 ≤ z ∧ z < (K.n : Int)) := hide (by have := HT.out.fo q Ao.out; rw [Aj] at this; exact this)
  rw [Aj] at Ap
  have AE := hide Ah.out.n0
  have AK := Ah.out.ta.foes.lim
  obtain ⟨m, hm⟩ : ∃ m, l2.length = m := ⟨_, rfl⟩
  have HM := hide hm
  rw [hm] at cf Av
  have AB : Hid (o = if (l2.drop 0).any (fun z => hb (f z) 1) then (4, gn (fun z => hb (f z) 1) (l2.drop 0), []) else dr T f q (aG T q)) := hide (by rw [List.drop_zero]; exact Ap.out)
  clear Aj Ay Ar Ax hm Ap
  go_wp2_with fail
  clear p0 b1 cf
  go_loopw [39] (fun x wr => ∃ k : Nat, k ≤ m ∧ x = .int .i64 k ∧ Hid (o = if (l2.drop k).any (fun z => hb (f z) 1) then (4, gn (fun z => hb (f z) 1) (l2.drop k), []) else dr T f q (aG T q)) ∧ Hid (Below w3.heap.size w3 wr)) (fun x _ => m - (intOf x).toNat)
  case atStart => exact ⟨0, by omega, rfl, AB, hide (Below.refl _ _)⟩
  clear AB
  obtain ⟨k, hk, rfl, HO, Ad⟩ := hrel
  by_cases hlt : k < m
  ·obtain ⟨y, hy⟩ := am (l := l2) (i := k) (by rw [HM.out]; exact hlt)
   obtain ⟨g, og, rfl, AF, AA⟩ := ji HI.out hy
   have cy : wr.cell? ⟨g, og + k, none⟩ = some (.int .i64 y) := (World.cell?_of_block (Ad.out.block g (Nat.lt_of_lt_of_le AF AE.out))).trans AA
   have Aw := AH.out y (List.mem_of_getElem? hy)
   obtain ⟨z, rfl⟩ := Int.eq_ofNat_of_zero_le Aw.1
   have C := hide (dc (Aq.out.go Ad.out) (q := z) (by omega) (t := 1) (.inl rfl))
   have An := hide (pb (p := fun z => hb (f z) 1) hy)
   have Al := hide (vS (p := fun z => hb (f z) 1) hy)
   clear hy Aw AA
   cases hbz : hb (f z) 1 with
   | false =>
    rw [hbz] at C
    have HE : Hid (o = if (l2.drop (k + 1)).any (fun z => hb (f z) 1) then (4, gn (fun z => hb (f z) 1) (l2.drop (k + 1)), []) else dr T f q (aG T q)) := hide (by rw [HO.out, An.out, Al.out]; simp only [hbz]; rfl)
    clear hbz An Al HO
    go_wp2_with (go_at_call 67; refine C.out.mono ?_; rintro _ w2 ⟨rfl, hw⟩; have Am := hide (Ad.out.trans (hw.mono Ad.out.size)); clear hw C)
    go_roundw
    case rel => exact ⟨k + 1, by omega, by go_num, HE, Am⟩
    case measure => simp [intOf]; omega
   | true =>
    rw [hbz] at C
    have HE : Hid (o = (4, (z : Int), [])) := hide (by rw [HO.out, An.out, Al.out]; simp only [hbz]; rfl)
    clear hbz An Al HO
    go_upto_region 8 with (go_at_call 67; refine C.out.mono ?_; rintro _ w2 ⟨rfl, hw⟩; have Am := hide (Ad.out.trans (hw.mono Ad.out.size)); clear hw C)
    have Ab := hide (Aa.out.keep (Am.out.block _ Aa.out.lt))
    have Af := hide (Ag.out.trans (Am.out.mono Ag.out.size))
    have z0 := Ab.out.frz 0
    have z1 := Ab.out.frz 1
    have z2 := Ab.out.frz 2
    have z3 := Ab.out.frz 3
    have z4 := Ab.out.frz 4
    have y0 := Ab.out.get (i := 0) rfl
    have y1 := Ab.out.get (i := 1) rfl
    have y2 := Ab.out.get (i := 2) rfl
    have y3 := Ab.out.get (i := 3) rfl
    have y4 := Ab.out.get (i := 4) rfl
    go_wp2_with fail
    have HG := hide (kH (v0 := .int .i64 0) (v1 := .int .i64 0) (v2 := .int .i64 4) (v3 := .int .i64 z) (v4 := .slice none 0 0) Ab.out)
    have At := hide (eU (v0 := .int .i64 0) (v1 := .int .i64 0) (v2 := .int .i64 4) (v3 := .int .i64 z) (v4 := .slice none 0 0) (b := w.heap.size) Af.out (Nat.le_refl _))
    clear z0 z1 z2 z3 z4 y0 y1 y2 y3 y4 Ab Af
    refine bodyPost_ret (results_cell_row rfl _ _ w.heap.size 32 #[.int .i64 0, .int .i64 0, .int .i64 4, .int .i64 z, .slice none 0 0] _ _ rfl HG.out Tryz.underlying32 rfl (by kernel_rfl)) rfl ?_
    rw [HE.out]
    exact ⟨⟨_, rfl, Own2.nil⟩, At.out⟩
  have HE : Hid (o = dr T f q (aG T q)) := hide (by rw [HO.out, List.drop_eq_nil_of_le (by rw [HM.out]; omega)]; rfl)
  have C := hide (pE HT.out (Ah.out.go Ad.out) (Aq.out.go Ad.out) Ao.out)
  have Af := hide (Ag.out.trans (Ad.out.mono Ag.out.size))
  have Ab := hide (Aa.out.keep (Ad.out.block _ Aa.out.lt))
  obtain ⟨⟨h1, h2, h3⟩, ho⟩ : ∃ z, dr T f q (aG T q) = z := ⟨_, rfl⟩
  rw [ho] at C HE
  have AD := hide HE.out
  clear HO ho HE
  go_wp2_with (go_at_call 189; refine C.out.mono ?_; rintro _ w5 ⟨⟨_, rfl, va, vc, rfl, hv⟩, As⟩; have HV := hide (show Own2 wr w5 _ _ from ⟨va, vc, rfl, hv⟩); have AC := hide (Af.out.trans (As.mono Af.out.size)); have Ac := hide (Ab.out.keep (As.block _ Ab.out.lt)); have z0 := Ac.out.frz 0; have z1 := Ac.out.frz 1; have z2 := Ac.out.frz 2; have z3 := Ac.out.frz 3; have z4 := Ac.out.frz 4; have y0 := Ac.out.get (i := 0) rfl; have y1 := Ac.out.get (i := 1) rfl; have y2 := Ac.out.get (i := 2) rfl; have y3 := Ac.out.get (i := 3) rfl; have y4 := Ac.out.get (i := 4) rfl; clear hv As C)
  have HG := hide (kH (v0 := .int .i64 0) (v1 := .int .i64 0) (v2 := .int .i64 h1) (v3 := .int .i64 h2) (v4 := .slice va (List.length h3) vc) Ac.out)
  have At := hide (eU (v0 := .int .i64 0) (v1 := .int .i64 0) (v2 := .int .i64 h1) (v3 := .int .i64 h2) (v4 := .slice va (List.length h3) vc) (b := w.heap.size) AC.out (Nat.le_refl _))
  have AJ := hide (pN (v0 := .int .i64 0) (v1 := .int .i64 0) (v2 := .int .i64 h1) (v3 := .int .i64 h2) (v4 := .slice va (List.length h3) vc) (b := w.heap.size) (HV.out.down (w0 := w) Af.out.size) (by
   obtain ⟨ca, cc, e2, h⟩ := HV.out
   intro e
   rw [e2] at e
   have := (h.lt _ e).1
   have := Ab.out.lt
   omega))
  clear z0 z1 z2 z3 z4 y0 y1 y2 y3 y4 Ac AC HV
  refine bodyPost_ret (results_cell_row rfl _ _ w.heap.size 32 #[.int .i64 0, .int .i64 0, .int .i64 h1, .int .i64 h2, .slice va (List.length h3) vc] _ _ rfl HG.out Tryz.underlying32 rfl (by kernel_rfl)) rfl ?_
  rw [AD.out]
  exact ⟨⟨_, rfl, AJ.out⟩, At.out⟩
end
def Gy {α : Type} (T k : Nat) (c : (Nat → Prop) → World → α → List Value → Prop) (B : Nat) (l : List α) (mv : Value) (wr : World) : Prop :=
 ∃ (Z : Nat → Prop) (xs : List Value), wr.ownsRow B T k mv l.length xs ∧ (∀ g, Z g → B ≤ g ∧ g < wr.heap.size ∧ mv.ownBlock ≠ some g) ∧ ∀ i x, l[i]? = some x → c Z wr x ((xs.drop (i * k)).take k)
section
variable {α : Type} {T k B : Nat} {c : (Nat → Prop) → World → α → List Value → Prop} {l : List α} {mv : Value} {wr wd w4 : World}
theorem Gy.nil : Gy T k c B [] (.slice none 0 0) wr := ⟨fun _ => False, [], ⟨by simp, .inl ⟨rfl, rfl⟩⟩, fun _ h => h.elim, fun i x hi => by simp at hi⟩
theorem Gy.keep (hc : ∀ Z Z' w w' x xs, Ag Z Z' w w' → c Z w x xs → c Z' w' x xs) (h : Gy T k c B l mv wr) (hb : ∀ g, B ≤ g → g < wr.heap.size → wd.heap[g]? = wr.heap[g]?) (hs : wr.heap.size ≤ wd.heap.size) : Gy T k c B l mv wd := by
 obtain ⟨Z, xs, Aa, hz, Ab⟩ := h
 exact ⟨Z, xs, owns_keep Aa fun g hg => hb g (Aa.lt g hg).1 (Aa.lt g hg).2, fun g hg => ⟨(hz g hg).1, Nat.lt_of_lt_of_le (hz g hg).2.1 hs, (hz g hg).2.2⟩, fun i x hi => hc _ _ _ _ _ _ (fun g hg => ⟨hg, hb g (hz g hg).1 (hz g hg).2.1⟩) (Ab i x hi)⟩
theorem Gy.slice (h : Gy T k c B l mv wr) : ∃ a cc, mv = .slice a l.length cc := by
 obtain ⟨Z, xs, Aa, -⟩ := h
 exact bf Aa
theorem Gy.grow {n : Nat} {Z Zn : Nat → Prop} {xs ys : List Value} {x : α} {ob : Obj} {g4 cap4 : Nat}
    (hc : ∀ Z Z' w w' x xs, Ag Z Z' w w' → c Z w x xs → c Z' w' x xs) (hlen : l.length = n) (hrow : wr.ownsRow B T k mv n xs) (hz : ∀ g, Z g → B ≤ g ∧ g < wr.heap.size ∧ mv.ownBlock ≠ some g) (hold : ∀ i x, l[i]? = some x → c Z wr x ((xs.drop (i * k)).take k))
    (hb : ∀ g, B ≤ g → g < wr.heap.size → wd.heap[g]? = wr.heap[g]?) (hs : wr.heap.size ≤ wd.heap.size) (hB : B ≤ wr.heap.size) (hzn : ∀ g, Zn g → wr.heap.size ≤ g ∧ g < wd.heap.size) (hnew : c Zn wd x ys) (hk : ys.length = k) (hown : w4.ownsRow B T k (.slice (some ⟨g4, 0, none⟩) (n + 1) cap4) (n + 1) (xs ++ ys))
    (hg : (mv.ownBlock = some g4 ∧ (wd.alloc ob).grownBy w4 (some g4)) ∨ (g4 = wd.heap.size + 1 ∧ (wd.alloc ob).grownBy w4 none)) : Gy T k c B (l ++ [x]) (.slice (some ⟨g4, 0, none⟩) (n + 1) cap4) w4 := by
 have Aa : ∀ g, mv.ownBlock = some g → B ≤ g ∧ g < wr.heap.size := fun g e => hrow.lt g e
 have hf : Fr (fun k => B ≤ k) wd w4 := dj rfl hg fun g e => (Aa g e).1
 have Ae := hf.size
 have hx : xs.length = n * k := hrow.1
 have Ac : Ag Z (fun g => Z g ∨ Zn g) wr w4 := fun g hZ => ⟨.inl hZ, by
  obtain ⟨h1, h2, h3⟩ := hz g hZ
  rw [eO rfl hg (by omega) h3, hb g h1 h2]⟩
 have Ab : Ag Zn (fun g => Z g ∨ Zn g) wd w4 := fun g hZ => ⟨.inr hZ, eO rfl hg (hzn g hZ).2 fun e => by have := (Aa g e).2; have := (hzn g hZ).1; omega⟩
 refine ⟨fun g => Z g ∨ Zn g, xs ++ ys, by rw [List.length_append, hlen]; exact hown, ?_, ?_⟩
 ·intro g hZ
  simp only [Value.ownBlock, ne_eq, Option.some.injEq]
  rcases hZ with hZ | hZ
  ·obtain ⟨h1, h2, h3⟩ := hz g hZ
   refine ⟨h1, by omega, fun e => ?_⟩
   rcases hg with ⟨h4, _⟩ | ⟨h4, _⟩
   ·exact h3 (by rw [h4, e])
   omega
  obtain ⟨h1, h2⟩ := hzn g hZ
  refine ⟨by omega, by omega, fun e => ?_⟩
  rcases hg with ⟨h4, _⟩ | ⟨h4, _⟩
  ·have := (Aa _ h4).2; omega
  omega
 intro i y hi
 by_cases hin : i < n
 ·rw [List.getElem?_append_left (by omega)] at hi
  have h1 : (i + 1) * k ≤ n * k := Nat.mul_le_mul_right k hin
  rw [Nat.add_mul] at h1
  rw [List.drop_append_of_le_length (by omega), List.take_append_of_le_length (by simp; omega)]
  exact hc _ _ _ _ _ _ Ac (hold i y hi)
 have Ad : i = n := by
  have : i < (l ++ [x]).length := by
   apply Classical.byContradiction
   intro hn
   rw [List.getElem?_eq_none (by omega)] at hi
   cases hi
  simp at this
  omega
 subst Ad
 rw [List.getElem?_append_right (by omega)] at hi
 simp [hlen] at hi
 subst hi
 rw [← hx, List.drop_left, ← hk, List.take_length]
 exact hc _ _ _ _ _ _ Ab hnew
end
def pu (_ : World) (x : Int × Int) (xs : List Value) : Prop := xs = [.int .i64 x.1, .int .i64 x.2]
def i5 (Z : Nat → Prop) (w : World) (s : StM) (xs : List Value) : Prop := ∃ v, xs = [.int .i64 s.tag, .int .i64 s.lit, .int .i64 s.how, .int .i64 s.rule, v] ∧ RZ Z 2 pu w s.ch v
theorem gN : ∀ Z Z' w w' x xs, Ag Z Z' w w' → i5 Z w x xs → i5 Z' w' x xs := fun _ _ _ _ _ _ hag ⟨v, e, h⟩ => ⟨v, e, RZ.keep h hag fun _ _ h => h⟩
theorem uN {l : List (Int × Int)} {i : Nat} {x : Int × Int} (h : l[i]? = some x) : ((prs l).drop (i * 2)).take 2 = [.int .i64 x.1, .int .i64 x.2] := by
 apply List.ext_getElem?
 intro j
 rw [List.getElem?_take]
 by_cases hj : j < 2
 ·rw [if_pos hj, List.getElem?_drop]
  have p := nV h
  match j, hj with
  | 0, _ => exact p.1
  | 1, _ => exact p.2
 rw [if_neg hj, List.getElem?_eq_none (by simp; omega)]
theorem rQ {Z : Nat → Prop} {b : Nat} {w : World} {v : Value} {l : List (Int × Int)} (h : w.ownsRow b 100 2 v l.length (prs l)) (hz : ∀ g, v.ownBlock = some g → Z g) (hl : l.length ≤ 140737488351232) : RZ Z 2 pu w l v :=
 RZ.of_owns h hz hl fun _ _ hi => uN hi
def vC (s : StM) : Prop := s.ch.length ≤ 140737488351232 ∧ eA s.tag ∧ eA s.how
theorem qO {T B : Nat} {l : List StM} {a : Option Addr} {n c : Nat} {w : World} (h : Gy T 5 i5 B l (.slice a n c) w) {i : Nat} {s : StM} (hi : l[i]? = some s) : ∃ (g : Nat) (ca : Option Addr) (cc : Nat), a = some ⟨g, 0, none⟩ ∧ B ≤ g ∧ g < w.heap.size ∧ (∀ j u, [Value.int .i64 s.tag, .int .i64 s.lit, .int .i64 s.how, .int .i64 s.rule, .slice ca s.ch.length cc][j]? = some u → w.cell? ⟨g, i * 5 + j, none⟩ = some u) ∧ ChN w.heap.size w ca s.ch ∧ n = l.length ∧ s.ch.length ≤ cc := by
 obtain ⟨Z, xs, Aa, hz, Ad⟩ := h
 obtain ⟨v, Ag, hv⟩ := Ad i s hi
 obtain ⟨ca, cc, rfl, Ae, -, Af⟩ := hv
 have Ai := (List.getElem?_eq_some_iff.1 hi).1
 rcases Aa.2 with ⟨-, h0⟩ | ⟨g, cap, Aj, e, hB, hg, -, -, -, -⟩
 ·omega
 cases e
 refine ⟨g, ca, cc, rfl, (Aa.lt g rfl).1, (Aa.lt g rfl).2, fun j u hj => ?_, fun k x hk => ?_, rfl, Ae⟩
 ·have hx : xs[i * 5 + j]? = some u := by
   rw [← Ag, List.getElem?_take] at hj
   split at hj
   ·rw [List.getElem?_drop] at hj; exact hj
   cases hj
  have hc := Aa.cells (g := g) rfl _ _ hx
  rw [← hc]
  congr 1
  simp [Addr.add]
 obtain ⟨g2, o2, ys, e2, hZ, Ah, Ab, Ac⟩ := Af k x hk
 unfold pu at Ac
 subst Ac
 exact ⟨g2, o2, e2, (hz g2 hZ).2.1, by have := Ab 0 _ rfl; simpa using this, by have := Ab 1 _ rfl; simpa using this⟩
theorem tQ {T B : Nat} {l : List StM} {a : Option Addr} {n c : Nat} {w : World} (h : Gy T 5 i5 B l (.slice a n c) w) (hok : ∀ s ∈ l, vC s) : Sts w.heap.size w l a := by
 intro i s hi
 obtain ⟨g, ca, cc, e, h1, h2, h3, h4, -, -⟩ := qO h hi
 obtain ⟨k1, k2, k3⟩ := hok s (List.mem_of_getElem? hi)
 exact ⟨g, 0, ca, cc, e, h2, by have := h3 0 _ rfl; simpa using this, by have := h3 1 _ rfl; simpa using this, by have := h3 2 _ rfl; simpa using this, by have := h3 3 _ rfl; simpa using this, by have := h3 4 _ rfl; simpa using this, k1, h4, k2, k3⟩
end Go.Proofs.YtmlhcncagdfjfaaGreat.De
