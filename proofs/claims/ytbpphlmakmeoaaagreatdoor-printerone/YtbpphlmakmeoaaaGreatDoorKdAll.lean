import Derived.Test.YtbpphlmakmeoaaaGreatDoorWrAll
set_option maxRecDepth 100000
set_option maxHeartbeats 3200000
namespace Go.Proofs.YtbpphlmakmeoaaaGreatDoor.Sy
open Go.RowKit
abbrev Any (_ : Nat) : Prop := True
inductive Kd where
 | val (v : Value)
 | strs (l : List ee)
 | moneys (l : List Int)
 | terms (l : List ft)
 | prems (l : List f9)
 | lit (l : jQ)
 | guard (g : jf)
 | term (t : ft)
 | part (m : Told)
 | parts (ms : List Told)
 | any
def Kd.holds : Kd → World → Value → Prop
 | .val v, _, x => x = v
 | .strs l, w, x => Strs Any w l x
 | .moneys l, w, x => Moneys Any w l x
 | .terms l, w, x => Terms Any w l x
 | .prems l, w, x => Prems Any w l x
 | .lit l, w, x => vG Any w l x
 | .guard g, w, x => tK Any w g x
 | .term t, w, x => kg Any w t x
 | .part m, w, x => Tells m w x
 | .parts ms, w, x => Parts w ms x
 | .any, _, _ => True
theorem eM {w w' : World} (h : Keeps w w') : Kp ei Any w w' := Kp.of_keeps h (by decide) (by decide)
theorem Kd.keep {k : Kd} {w w' : World} {x : Value} (hk : Keeps w w') (h : k.holds w x) : k.holds w' x := by
 have hi := eM hk
 cases k with
 | val v => exact h
 | strs l => exact Strs.keep (T := ei) h hi (by decide)
 | moneys l => exact Moneys.keep (T := ei) h hi (by decide)
 | terms l => exact Terms.keep (T := ei) h hi (by decide) (by decide)
 | prems l => exact Prems.keep h hi
 | lit l => obtain ⟨av, h1, h2⟩ := h; exact ⟨av, h1, h2.keep (T := ei) hi (by decide)⟩
 | guard g => obtain ⟨lv, rv, h1, h2, h3⟩ := h; exact ⟨lv, rv, h1, h2.keep (T := ei) hi (by decide) (by decide), h3.keep (T := ei) hi (by decide) (by decide)⟩
 | term t => obtain ⟨av, h1, h2⟩ := h; exact ⟨av, h1, h2.keep (T := ei) hi (by decide)⟩
 | part m => exact Tells.keep h hk
 | parts ms => exact Parts.keep h hk
 | any => trivial
def Gk (ks : List Kd) (s : Nat) (w : World) (v : Value) : Prop := (ks.getD s .any).holds w v
def Grows (w w' : World) : Prop := Below w.heap.size w w'
theorem Gk.keep {ks : List Kd} (s : Nat) (w w' : World) (v : Value) (h : Grows w w') (hg : Gk ks s w v) : Gk ks s w' v := Kd.keep (Keeps.of_below h) hg
def rN (_ : List PanicEntry) (_ : World) : Prop := False
section
variable {P : Program} {ops : Array Oper} {Q : Exit → Act → World → Prop} {E : List PanicEntry → World → Prop} {T : World → World → Prop} {I : Bool → World → Prop} {G : Nat → World → Value → Prop} {z : Nat}
end
end Go.Proofs.YtbpphlmakmeoaaaGreatDoor.Sy
namespace Go.Proofs.YtbpphlmakmeoaaaGreatDoor.Sy
open Go.RowKit
section
variable {P : Program} {E : List PanicEntry → World → Prop} {T : World → World → Prop} {I : Bool → World → Prop} {G : Nat → World → Value → Prop} {z : Nat}
def oE (P : Program) (E : List PanicEntry → World → Prop) (T : World → World → Prop) (I : Bool → World → Prop) (G : Nat → World → Value → Prop) (z : Nat) : Nat → List Oper → Prop
 | _, [] => True
 | i, o :: r => kK P E T I G z i o ∧ oE P E T I G z (i + 1) r
theorem rS : ∀ (l : List Oper) (k : Nat), oE P E T I G z k l → ∀ (i : Nat) (o : Oper), l[i]? = some o → kK P E T I G z (k + i) o
 | [], _, _, i, o, h => by simp at h
 | x :: r, k, h, 0, o, ho => by simp at ho; subst ho; exact h.1
 | x :: r, k, h, i + 1, o, ho => by
  have := rS r (k + 1) h.2 i o (by simpa using ho)
  rwa [show k + 1 + i = k + (i + 1) by omega] at this
theorem ia {l : List Oper} (h : oE P E T I G z 0 l) : ∀ (i : Nat) (o : Oper), l.toArray[i]? = some o → kK P E T I G z i o := fun i o ho => by
 have := rS l 0 h i o (by simpa using ho)
 rwa [Nat.zero_add] at this
end
def K3 (ops : Array Oper) (B : List Nat) : Bool := (List.range ops.size).all fun j => match ops[j]? with
 | none => true
 | some o => (jA o).all fun s => B.contains s || (List.range ops.size).any fun j => decide (gT ops j = some s)
def D4 (ops : Array Oper) (B : List Nat) : Bool := B.all fun s => (List.range ops.size).all fun j => !decide (gT ops j = some s)
theorem jh {ops : Array Oper} {B : List Nat} (h : K3 ops B = true) : ∀ (j : Nat) (o : Oper), ops[j]? = some o → ∀ s ∈ jA o, s ∈ B ∨ ∃ j, gT ops j = some s := by
 intro j o ho s hs
 have h1 := List.all_eq_true.1 h j (List.mem_range.2 (Array.getElem?_eq_some_iff.1 ho).1)
 rw [ho] at h1
 have h2 := List.all_eq_true.1 h1 s hs
 rcases (Bool.or_eq_true_iff.1 h2 : _ ∨ _) with h3 | h3
 · exact .inl (by simpa using h3)
 · obtain ⟨j, _, h4⟩ := List.any_eq_true.1 h3
   exact .inr ⟨j, by simpa using h4⟩
theorem eZ {ops : Array Oper} {B : List Nat} (h : D4 ops B = true) : ∀ s ∈ B, ∀ j, gT ops j ≠ some s := by
 intro s hs j hj
 have hl : j < ops.size := by
  unfold gT at hj
  by_cases hl : j < ops.size
  · exact hl
  · rw [Array.getElem?_eq_none (by omega)] at hj; cases hj
 have h1 := List.all_eq_true.1 (List.all_eq_true.1 h s hs) j (List.mem_range.2 hl)
 simp [hj] at h1
abbrev nj (w0 : World) (_ : Bool) (w : World) : Prop := Grows w0 w
theorem Grows.refl (w : World) : Grows w w := Below.refl _ _
theorem Grows.trans {a b c : World} (h : Grows a b) (k : Grows b c) : Grows a c := Below.trans h (Below.mono k h.size)
theorem Grows.keeps {a b : World} (h : Grows a b) : Keeps a b := Keeps.of_below h
theorem Grows.drew (w : World) : Grows w { w with drawn := w.drawn + 1 } := Below.drew (Below.refl _ w)
theorem Grows.alloc (w : World) (o : Obj) : Grows w (w.alloc o) := (Below.refl _ _).alloc (Nat.le_refl _) _
theorem Grows.cell {a b : World} (h : Grows a b) {p : Addr} {v : Value} (hc : a.cell? p = some v) : b.cell? p = some v := (World.cell?_of_block (h.block p.block (World.block_lt_of_cell? a p hc))).trans hc
theorem ef {P : Program} {E : List PanicEntry → World → Prop} {ρ : Operand → Value} {o : Oper} {w w' : World} {v : Value} {R : Value → World → Prop} (h : (execOp ρ o).run P w = .ok (.value v) w') (hr : R v w') : lC P E ρ o w R := by
 unfold lC; rw [h]; exact hr
theorem es {P : Program} {E : List PanicEntry → World → Prop} {ρ : Operand → Value} {o : Oper} {w w' : World} {f : FuncId} {args : Array Value} {R : Value → World → Prop} {K : Ending → World → Prop} (h : (execOp ρ o).run P w = .ok (.enter f args) w') (hc : Calls P f args w' K)
    (hr : ∀ e w'', K e w'' → ∃ v, e = .returned v ∧ R v w'') : lC P E ρ o w R := by
 unfold lC; rw [h]
 refine hc.mono fun e w'' he => ?_
 obtain ⟨v, rfl, hv⟩ := hr e w'' he
 exact hv
end Go.Proofs.YtbpphlmakmeoaaaGreatDoor.Sy
namespace Go.Proofs.YtbpphlmakmeoaaaGreatDoor.Sy
open Go.RowKit
abbrev fC (x : ee) : Prop := x.length ≤ 140737488355328
abbrev ic (n : Int) : Prop := -9223372036854775808 ≤ n ∧ n ≤ 9223372036854775807
structure jX (l : List ee) : Prop where
 len : l.length ≤ 1000000000
 all : ∀ x ∈ l, fC x
structure ng (a : jQ) : Prop where
 pred : fC a.pred
 args : jX a.args
structure lu (a : ft) : Prop where
 coef : ic a.coef
 pred : fC a.pred
 args : jX a.args
 value : ic a.value
structure lD (l : List ft) : Prop where
 len : l.length ≤ 1000000000
 all : ∀ x ∈ l, lu x
structure mF (g : jf) : Prop where
 left : lD g.left
 op : ic g.op
 right : lD g.right
structure rr (p : f9) : Prop where
 kind : ic p.kind
 lit : ng p.lit
 guard : mF p.guard
 a : fC p.a
 b : fC p.b
structure mC (l : List f9) : Prop where
 len : l.length ≤ 1000000000
 all : ∀ x ∈ l, rr x
structure lr (r : gI) : Prop where
 name : fC r.name
 source : fC r.source
 body : mC r.body
 arrow : ic r.arrow
 head : ng r.head
structure kB (p : fZ) : Prop where
 name : fC p.name
 sort : ic p.sort
 kinds : jX p.kinds
 values : p.values.length ≤ 1000000000
structure kn (t : gx) : Prop where
 name : fC t.name
 kind : fC t.kind
 preds : jX t.preds
theorem j0 {P : Program} {fn : Func} {t : Nat} {R : Ending → World → Prop} {a : Act} {w : World} (hr : fn.results = #[.tmp t]) (hd : a.defers = []) (h : R (.returned (a.tmps.getD t undef)) w) : Code.ret.wp P (bodyPost P fn R) a w :=
 wp_ret ⟨hd, a.tmps.getD t undef, by simp [results, hr], h⟩
theorem fG (W : World) (x : ee) (sv : Value) (h : Strs Any W [x] sv) (hx : fC x) : Calls Tryz.prog 73 #[sv] W (fp (some x) W) := by
 have := iV W [x] sv h (by simp) (by intro y hy; simp at hy; subst hy; exact hx)
 simpa [eX] using this
def AllTell (W : World) : List Told → List Value → Prop
 | [], [] => True
 | m :: ms, v :: vs => Tells m W v ∧ AllTell W ms vs
 | _, _ => False
theorem AllTell.at {W : World} : ∀ {ms : List Told} {vs : List Value}, AllTell W ms vs → ∀ (i : Nat) (m : Told), ms[i]? = some m → ∃ v, vs[i]? = some v ∧ Tells m W v
 | [], _, _, i, m, h => by simp at h
 | _ :: _, [], h, _, _, _ => by cases h
 | m0 :: ms, v :: vs, h, 0, m, hm => by simp at hm; subst hm; exact ⟨v, rfl, h.1⟩
 | m0 :: ms, v :: vs, h, i + 1, m, hm => by
  obtain ⟨u, h1, h2⟩ := h.2.at i m (by simpa using hm)
  exact ⟨u, by simpa using h1, h2⟩
theorem fF (W : World) (ms : List Told) (vs : List Value) (hl : vs.length = ms.length) (hm : vs.length ≤ maxLen) (h : AllTell W ms vs) : Parts (W.alloc (.cells vs.toArray 86)) ms (.slice (some ⟨W.heap.size, 0, none⟩) vs.length vs.length) :=
 rE W ms vs hl hm h.at
theorem nS (w : World) (x : ee) (hx : fC x) : Calls Tryz.prog 139 #[.string ⟨x.toArray⟩] w (fp (some x) w) := by
 have C := ec (fG _ x _ (fh w [x] (by unfold maxLen; simp)) hx)
 have HB := ec (Grows.alloc w (.cells #[.string ⟨x.toArray⟩] 9))
 go_enter Tryz.func139, Tryz.ntmps139
 go_wp2_with fail
 refine C.out.mono ?_
 rintro _ w1 ⟨v, rfl, hv, hb⟩
 obtain ⟨k, Aa, rfl, hf, hc⟩ := hv
 have HF : Hid (fp (some x) w (.returned (.func (.func k) #[] Aa)) w1) := ec ⟨_, rfl, ⟨k, Aa, rfl, hf, hc⟩, Grows.trans HB.out hb⟩
 clear hf hc hb C
 go_wp2_with fail
 go_ret
 exact HF.out
theorem jM (w : World) (m : Told) (v : Value) (hv : Tells m w v) : Calls Tryz.prog 72 #[v] w (fp (fu m) w) := by
 have C := ec (fG _ [46, 10] _ (fh w [[46, 10]] (by unfold maxLen; simp)) (by decide))
 have HB := ec (Grows.alloc w (.cells #[.string ⟨#[46, 10]⟩] 9))
 have HV := ec hv
 obtain ⟨k, Ab, rfl, _, _⟩ := hv
 go_enter Tryz.func72, Tryz.ntmps72
 go_wp2_with fail
 refine C.out.mono ?_
 rintro _ w1 ⟨v, rfl, hv, hb⟩
 have hg := Grows.trans HB.out hb
 have HR := ec (hM _ [m, some [46, 10]] _ (fF w1 [m, some [46, 10]] [.func (.func k) #[] Ab, v] rfl (by unfold maxLen; simp) ⟨HV.out.keep hg.keeps, hv, trivial⟩) (by simp))
 obtain ⟨k2, Ac, rfl, _, _⟩ := hv
 have HG := ec (Grows.trans hg (Grows.alloc w1 (.cells #[.func (.func k) #[] Ab, .func (.func k2) #[] Ac] 86)))
 clear hb hg C
 go_wp2_with fail
 refine HR.out.mono ?_
 rintro _ w2 ⟨v, rfl, hv, hb⟩
 obtain ⟨k3, Aa, rfl, hf, hc⟩ := hv
 have HF : Hid (fp (fu m) w (.returned (.func (.func k3) #[] Aa)) w2) := ec ⟨_, rfl, ⟨k3, Aa, rfl, hf, hc⟩, Grows.trans HG.out hb⟩
 clear hf hc hb HR
 go_wp2_with fail
 go_ret
 exact HF.out
end Go.Proofs.YtbpphlmakmeoaaaGreatDoor.Sy
namespace Go.Proofs.YtbpphlmakmeoaaaGreatDoor.Sy
open Go.RowKit
theorem wJ {P : Program} {E : List PanicEntry → World → Prop} {ρ : Operand → Value} {o : Oper} {w : World} {R R' : Value → World → Prop} (h : lC P E ρ o w R) (hr : ∀ v w', R v w' → R' v w') : lC P E ρ o w R' := by
 unfold lC at *
 generalize (execOp ρ o).run P w = r at *
 cases r with
 | ok n w' =>
  cases n <;> simp only at h ⊢
  case value v => exact hr _ _ h
  case skip => exact hr _ _ h
  case enter f args =>
   refine Calls.mono h fun e w'' he => ?_
   cases e with
   | returned v => exact hr _ _ he
   | panicked c => exact he
   | outgrown => exact he
  all_goals exact h
 | halt x w' => exact h
def RoundI (R : Nat) (told : ee) (m : Told) (w : World) (b : Bool) (W : World) : Prop := match b with
 | false => Grows w W ∧ Wr R told w
 | true => ∃ bs, m = some bs ∧ Wr R (told ++ bs) W ∧ Kw R w W
def mq (R : Nat) (m : Told) (w : World) (c : List PanicEntry) (W : World) : Prop := c = [{ v := .iface 33 (.int .i64 52), recovered := false }] ∧ m = none ∧ Kw R w W
theorem RoundI.grow {R : Nat} {told : ee} {m : Told} {w : World} {b : Bool} {W W' : World} (h : RoundI R told m w b W) (hg : Grows W W') : RoundI R told m w b W' := by
 cases b with
 | false => exact ⟨Grows.trans h.1 hg, h.2⟩
 | true =>
  obtain ⟨bs, h1, h2, h3⟩ := h
  exact ⟨bs, h1, Wr.below h2 hg, h3.trans (Kw.of_below hg (Nat.le_of_lt h2.lt))⟩
theorem RoundI.keeps {R : Nat} {told : ee} {m : Told} {w : World} {b : Bool} {W : World} (h : RoundI R told m w b W) : Keeps w W := by
 cases b with
 | false => exact h.1.keeps
 | true => obtain ⟨bs, h1, h2, h3⟩ := h; exact h3.keeps
theorem eS {E : List PanicEntry → World → Prop} {G : Nat → World → Value → Prop} {z i : Nat} {o : Oper} {R : Nat} {told : ee} {m : Told} {w : World} (hi : i ≠ z)
    (h : ∀ (ρ : Operand → Value) (W : World), (∀ v, ρ (.const v) = v) → (∀ f, ρ (.func f) = .func (.func f) #[] #[]) → Keeps w W → (∀ s ∈ jA o, G s W (ρ (.tmp s))) → lC Tryz.prog E ρ o W fun v W' => Grows W W' ∧ ∀ d, o.dst = some d → G d W' v) :
    kK Tryz.prog E Keeps (RoundI R told m w) G z i o := by
 intro ρ W b hc hf _ hI hg
 refine wJ (h ρ W hc hf hI.keeps hg) ?_
 rintro v W' ⟨h1, h2⟩
 refine ⟨h1.keeps, ?_, h2⟩
 rw [decide_eq_false hi, Bool.or_false]
 exact hI.grow h1
theorem kV {G : Nat → World → Value → Prop} {i : Nat} {o : Oper} {R : Nat} {told : ee} {m : Told} {w : World} {s1 s2 : Nat} {ms : List Told} (h1 : s1 ∈ jA o) (h2 : s2 ∈ jA o) (hm : ez ms = m) (hl : ms.length ≤ 1000)
    (hG1 : ∀ W v, G s1 W v → v = .pointer (some ⟨R, 0, none⟩)) (hG2 : ∀ W v, G s2 W v → Parts W ms v) (hd : ∀ d, o.dst = some d → ∀ W v, G d W v)
    (hrun : ∀ (ρ : Operand → Value) (W : World) (pa : Option Addr) (n pc : Nat), (∀ f, ρ (.func f) = .func (.func f) #[] #[]) → ρ (.tmp s1) = .pointer (some ⟨R, 0, none⟩) → ρ (.tmp s2) = .slice pa n pc → (execOp ρ o).run Tryz.prog W = .ok (.enter 68 #[.pointer (some ⟨R, 0, none⟩), .slice pa n pc]) W) :
    kK Tryz.prog (mq R m w) Keeps (RoundI R told m w) G i i o := by
 intro ρ W b hc hf hz hI hg
 have hb := hz rfl
 subst hb
 obtain ⟨Ad, hW⟩ := hI
 have g1 := hG1 _ _ (hg s1 h1)
 have g2 := hG2 _ _ (hg s2 h2)
 obtain ⟨pa, pc, e2⟩ := ed g2
 have hT := gW R told W (hW.below Ad) ms _ g2 (by omega)
 rw [e2] at hT
 unfold lC
 rw [hrun ρ W pa _ pc hf g1 e2]
 refine hT.mono ?_
 intro e W' he
 have Ac : Kw R w W := Kw.of_below Ad (Nat.le_of_lt hW.lt)
 rcases he.split with ⟨bs, Ab, rfl, Ae, Aa⟩ | ⟨Ab, rfl, Aa⟩
 · refine ⟨Aa.keeps, ?_, fun d h => hd d h _ _⟩
   rw [decide_eq_true rfl, Bool.or_true]
   exact ⟨bs, by rw [← hm, Ab], Ae, Ac.trans Aa⟩
 · exact ⟨rfl, by rw [← hm, Ab], Ac.trans Aa⟩
theorem eC {α : Type} {n : Nat} {l : List α} (h : l.length = n + 1) : ∃ x r, l = x :: r ∧ r.length = n := by
 cases l with
 | nil => simp at h
 | cons x r => exact ⟨x, r, rfl, by simpa using h⟩
theorem vk {tm : Array Value} (h : tm.size = 25) : ∃ x0 x1 x2 x3 x4 x5 x6 x7 x8 x9 x10 x11 x12 x13 x14 x15 x16 x17 x18 x19 x20 x21 x22 x23 x24, tm = #[x0, x1, x2, x3, x4, x5, x6, x7, x8, x9, x10, x11, x12, x13, x14, x15, x16, x17, x18, x19, x20, x21, x22, x23, x24] := by
 obtain ⟨l0⟩ := tm
 have h0 : l0.length = 25 := h
 clear h
 obtain ⟨x0, l1, rfl, h1⟩ := eC h0
 obtain ⟨x1, l2, rfl, h2⟩ := eC h1
 obtain ⟨x2, l3, rfl, h3⟩ := eC h2
 obtain ⟨x3, l4, rfl, h4⟩ := eC h3
 obtain ⟨x4, l5, rfl, h5⟩ := eC h4
 obtain ⟨x5, l6, rfl, h6⟩ := eC h5
 obtain ⟨x6, l7, rfl, h7⟩ := eC h6
 obtain ⟨x7, l8, rfl, h8⟩ := eC h7
 obtain ⟨x8, l9, rfl, h9⟩ := eC h8
 obtain ⟨x9, AB, rfl, Am⟩ := eC h9
 obtain ⟨x10, Av, rfl, Ab⟩ := eC Am
 obtain ⟨x11, AA, rfl, Ag⟩ := eC Ab
 obtain ⟨x12, Az, rfl, Ad⟩ := eC Ag
 obtain ⟨x13, Ar, rfl, An⟩ := eC Ad
 obtain ⟨x14, AF, rfl, Aq⟩ := eC An
 obtain ⟨x15, Aw, rfl, Aa⟩ := eC Aq
 obtain ⟨x16, Au, rfl, Al⟩ := eC Aa
 obtain ⟨x17, AE, rfl, Ae⟩ := eC Al
 obtain ⟨x18, AC, rfl, Ai⟩ := eC Ae
 obtain ⟨x19, AD, rfl, Aj⟩ := eC Ai
 obtain ⟨x20, Ax, rfl, Ao⟩ := eC Aj
 obtain ⟨x21, As, rfl, Ap⟩ := eC Ao
 obtain ⟨x22, Ay, rfl, Ac⟩ := eC Ap
 obtain ⟨x23, At, rfl, Af⟩ := eC Ac
 obtain ⟨x24, Ah, rfl, Ak⟩ := eC Af
 have e : Ah = [] := List.length_eq_zero_iff.1 Ak
 subst e
 exact ⟨x0, x1, x2, x3, x4, x5, x6, x7, x8, x9, x10, x11, x12, x13, x14, x15, x16, x17, x18, x19, x20, x21, x22, x23, x24, rfl⟩
theorem o5 (R : Nat) (told : ee) (w : World) (h : Wr R told w) (l : List ee) (sv : Value) (b1 b2 : Nat) (h1 : w.heap[b1]? = some (.cells #[sv] 22 (0, 0))) (h2 : w.heap[b2]? = some (.cells #[.func (.func 139) #[] #[]] 152 (0, 0))) (hp : Strs Any w l sv) (hl : jX l) :
    Calls Tryz.prog 257 #[.pointer (some ⟨R, 0, none⟩), .pointer (some ⟨b1, 0, none⟩), .pointer (some ⟨b2, 0, none⟩)] w (EndsW R told (fd (l.map some)) w) := by
 have c1 := fv h1
 have HP := ec hp
 have HW := ec h
 have HL := ec hl
 have AJ := hl.len
 have H2 := ec (fv h2)
 obtain ⟨pa, pc, rfl⟩ := ed hp
 have H2b := ec h2
 clear h1 h2 hp h hl
 go_enter Tryz.func257, Tryz.ntmps257
 go_wp2_with fail
 go_loopw [8] (fun x wr => ∃ (k : Nat) (Ab : ee), k ≤ l.length ∧ x = .int .i64 k ∧ Hid (Wr R (told ++ Ab) wr) ∧ Hid (Kw R w wr) ∧ Hid (fd (l.map some) = Told.app (some Ab) (hC (decide (0 < k)) ((l.drop k).map some)))) (fun x _ => l.length - (intOf x).toNat)
 case atStart => exact ⟨0, [], by omega, rfl, ec (by simpa using HW.out), ec (Kw.refl R w), ec (by rw [iG]; rfl)⟩
 case round =>
  obtain ⟨k, Ab, hk, rfl, HR, HK, HO⟩ := hrel
  by_cases hlt : k < l.length
  · obtain ⟨t, ht⟩ : ∃ t, l[k]? = some t := ⟨l[k], by simp [hlt]⟩
    have HT := ec (List.mem_of_getElem? ht)
    have HD : Hid ((l.drop k).map some = some t :: (l.drop (k + 1)).map some) := ec (by rw [List.drop_eq_getElem_cons hlt, (List.getElem?_eq_some_iff.1 ht).2]; rfl)
    obtain ⟨ga, xa, ya, e1, _, h1, h2⟩ := Rows.at (Strs.keep (T := ei) HP.out (eM HK.out.keeps) (by decide)) ht
    simp only [Value.slice.injEq] at e1
    obtain ⟨rfl, _, rfl⟩ := e1
    unfold cS at h1
    subst h1
    have a0 : wr.cell? ⟨ga, k, none⟩ = some (.string ⟨t.toArray⟩) := by have := h2 0 _ rfl; simpa using this
    have Aw : Hid (wr.cell? ⟨b2, 0, none⟩ = some (.func (.func 139) #[] #[])) := ec (fv (HK.out.keep _ _ _ _ H2b.out (by decide) (by decide)))
    clear h2 ht
    go_wp2_with fail
    rename_i K hK
    refine gE (B := [0, 2, 4, 5]) (mq R (ez [ey (decide (0 < k)) (some [44, 32]), some t]) wr) Keeps (RoundI R (told ++ Ab) (ez [ey (decide (0 < k)) (some [44, 32]), some t]) wr) (Gk [.val (.pointer (some ⟨R, 0, none⟩)), .any, .val (.pointer (some ⟨b2, 0, none⟩)), .any, .val (.int .i64 k), .val (.string ⟨t.toArray⟩), .any, .any, .any, .any, .any, .any, .any, .val (.pointer (some ⟨R, 0, none⟩)), .val (.int .i64 k), .val (.bool (decide (0 < k))), .strs [[44, 32]], .part (some [44, 32]), .part (ey (decide (0 < k)) (some [44, 32])), .val (.func (.func 139) #[] #[]), .val (.string ⟨t.toArray⟩), .part (some t), .parts [ey (decide (0 < k)) (some [44, 32]), some t]]) 10 (by kernel_rfl) (by kernel_rfl) (eZ (by kernel_rfl)) (jh (by kernel_rfl)) (fun s w w' v h hg => Kd.keep h hg) ⟨Grows.drew wr, HR.out⟩ ?hb (ia ⟨?_, ?_, ?_, ?_, ?_, ?_, ?_, ?_, ?_, ?_, ?_, trivial⟩) ?hE ?hend
    case hb =>
     intro s hs
     simp only [List.mem_cons, List.not_mem_nil, or_false] at hs
     rcases hs with rfl | rfl | rfl | rfl <;> rfl
    case hE =>
     rintro c a' w' Ac ⟨rfl, hm, hk'⟩
     refine ⟨Ac, EndsW.none ?_ (HK.out.trans hk')⟩
     rw [HO.out, HD.out]
     show Told.app (some Ab) (Told.app (Told.app (ey (decide (0 < k)) (some [44, 32])) (some t)) _) = none
     have hm' : Told.app (ey (decide (0 < k)) (some [44, 32])) (some t) = none := by
      have := hm
      simpa [ez, j1] using this
     rw [hm']
     rfl
    case hend =>
     rintro ⟨tm, df⟩ w' Ad Ac ⟨bs, hm, Ah, Ai⟩ Aa _
     simp only at Ac Ad
     subst Ac
     obtain ⟨x0, x1, x2, x3, x4, x5, x6, x7, x8, x9, Ay, AB, AM, AH, AE, Av, At, AG, AL, Ar, Au, Ao, AN, Ax, AK, rfl⟩ := vk Ad
     have e0 := Aa 0 (eZ (B := [0]) (by kernel_rfl) 0 (by simp))
     have e1 := Aa 1 (eZ (B := [1]) (by kernel_rfl) 1 (by simp))
     have e2 := Aa 2 (eZ (B := [2]) (by kernel_rfl) 2 (by simp))
     have e3 := Aa 3 (eZ (B := [3]) (by kernel_rfl) 3 (by simp))
     have e6 := Aa 6 (eZ (B := [6]) (by kernel_rfl) 6 (by simp))
     have e7 := Aa 7 (eZ (B := [7]) (by kernel_rfl) 7 (by simp))
     have e8 := Aa 8 (eZ (B := [8]) (by kernel_rfl) 8 (by simp))
     simp at e0 e1 e2 e3 e6 e7 e8
     subst e0 e1 e2 e3 e6 e7 e8
     have Am := ec Ah
     have Al := ec (HK.out.trans Ai)
     have Ak : Hid (fd (l.map some) = Told.app (some (Ab ++ bs)) (hC (decide (0 < k + 1)) ((l.drop (k + 1)).map some))) := ec (by
      rw [HO.out, HD.out]
      show Told.app (some Ab) (Told.app (Told.app (ey (decide (0 < k)) (some [44, 32])) (some t)) (hC true _)) = _
      have hm' : Told.app (ey (decide (0 < k)) (some [44, 32])) (some t) = some bs := by
       have := hm
       simpa [ez, j1] using this
      rw [hm', ← gA]
      simp [Told.app])
     clear Ad hm Ah Ai Aa HR HK HO
     refine hK _ _ ?_
     go_wp2_with fail
     go_roundw
     case rel => exact ⟨k + 1, Ab ++ bs, by omega, by go_num, by rw [← List.append_assoc]; exact Am, Al, Ak⟩
     case measure => simp [intOf]; omega
    · exact eS (by decide) fun ρ W hc hf hI hg => ef (v := ρ (.tmp 0)) (w' := W) rfl ⟨Grows.refl _, fun d hd => by cases hd; exact (show ρ (.tmp 0) = _ from hg 0 (by decide))⟩
    · exact eS (by decide) fun ρ W hc hf hI hg => ef (v := ρ (.tmp 4)) (w' := W) rfl ⟨Grows.refl _, fun d hd => by cases hd; exact (show ρ (.tmp 4) = _ from hg 4 (by decide))⟩
    · refine eS (by decide) fun ρ W hc hf hI hg => ?_
      have An : ρ (.tmp 14) = .int .i64 k := hg 14 (by decide)
      have k0 := hc (.int .i64 0)
      refine ef (v := .bool (decide (0 < k))) (w' := W) ?_ ⟨Grows.refl _, fun d hd => by cases hd; exact rfl⟩
      clear hg hc hf
      go_simp
    · refine eS (by decide) fun ρ W hc hf hI hg => ?_
      have k0 := hc (.string ⟨#[44, 32]⟩)
      refine ef (v := .slice (some ⟨W.heap.size, 0, none⟩) 1 1) (w' := W.alloc (.cells #[.string ⟨#[44, 32]⟩] 9)) ?_ ⟨Grows.alloc _ _, fun d hd => by cases hd; exact fh W [[44, 32]] (by unfold maxLen; simp)⟩
      clear hg hc hf
      go_simp
    · refine eS (by decide) fun ρ W hc hf hI hg => ?_
      have Aj : Strs Any W [[44, 32]] (ρ (.tmp 16)) := hg 16 (by decide)
      have k0 := hf 73
      refine es (f := 73) (args := #[ρ (.tmp 16)]) (w' := W) ?_ (fG W [44, 32] _ Aj (by decide)) ?_
      · clear hg hc hf Aj
        go_simp
      · rintro e W' ⟨v, rfl, hv, hb⟩
        exact ⟨v, rfl, hb, fun d hd => by cases hd; exact hv⟩
    · refine eS (by decide) fun ρ W hc hf hI hg => ?_
      have AC : ρ (.tmp 15) = .bool (decide (0 < k)) := hg 15 (by decide)
      have Ag : Tells (some [44, 32]) W (ρ (.tmp 17)) := hg 17 (by decide)
      have k0 := hf 71
      refine es (f := 71) (args := #[.bool (decide (0 < k)), ρ (.tmp 17)]) (w' := W) ?_ (iw W (decide (0 < k)) _ _ Ag) ?_
      · clear hg hc hf Ag
        go_simp
      · rintro e W' ⟨v, rfl, hv, hb⟩
        exact ⟨v, rfl, hb, fun d hd => by cases hd; exact hv⟩
    · refine eS (by decide) fun ρ W hc hf hI hg => ?_
      have g2 : ρ (.tmp 2) = .pointer (some ⟨b2, 0, none⟩) := hg 2 (by decide)
      have d0 := fv (hI _ _ _ _ (HK.out.keep _ _ _ _ H2b.out (by decide) (by decide)) (by decide) (by decide))
      refine ef (v := .func (.func 139) #[] #[]) (w' := W) ?_ ⟨Grows.refl _, fun d hd => by cases hd; exact rfl⟩
      clear hg hc hf
      go_simp
    · exact eS (by decide) fun ρ W hc hf hI hg => ef (v := ρ (.tmp 5)) (w' := W) rfl ⟨Grows.refl _, fun d hd => by cases hd; exact (show ρ (.tmp 5) = _ from hg 5 (by decide))⟩
    · refine eS (by decide) fun ρ W hc hf hI hg => ?_
      have AD : ρ (.tmp 19) = .func (.func 139) #[] #[] := hg 19 (by decide)
      have Ap : ρ (.tmp 20) = .string ⟨t.toArray⟩ := hg 20 (by decide)
      have k1 := fA Tryz.func139 (by kernel_rfl) (by kernel_rfl)
      refine es (f := 139) (args := #[.string ⟨t.toArray⟩]) (w' := W) ?_ (nS W t (HL.out.all t HT.out)) ?_
      · clear hg hc hf
        go_simp
      · rintro e W' ⟨v, rfl, hv, hb⟩
        exact ⟨v, rfl, hb, fun d hd => by cases hd; exact hv⟩
    · refine eS (by decide) fun ρ W hc hf hI hg => ?_
      have Af : Tells (ey (decide (0 < k)) (some [44, 32])) W (ρ (.tmp 18)) := hg 18 (by decide)
      have Ae : Tells (some t) W (ρ (.tmp 21)) := hg 21 (by decide)
      have hP := fF W [ey (decide (0 < k)) (some [44, 32]), some t] [ρ (.tmp 18), ρ (.tmp 21)] rfl (by unfold maxLen; simp) ⟨Af, Ae, trivial⟩
      obtain ⟨Aq, AF, As, -, -⟩ := Af
      obtain ⟨AA, Az, AI, -, -⟩ := Ae
      refine ef (v := .slice (some ⟨W.heap.size, 0, none⟩) 2 2) (w' := W.alloc (.cells #[ρ (.tmp 18), ρ (.tmp 21)] 86)) ?_ ⟨Grows.alloc _ _, fun d hd => by cases hd; exact hP⟩
      clear hg hc hf hP
      go_simp
    · refine kV (s1 := 13) (s2 := 22) (ms := [ey (decide (0 < k)) (some [44, 32]), some t]) (by decide) (by decide) rfl (by simp) (fun W v h => h) (fun W v h => h) (fun d hd W v => by cases hd; trivial) ?_
      intro ρ W pa n pc hf g1 g2
      have k0 := hf 68
      clear hf
      go_simp
  · go_wp2_with fail
    go_end0
    have e : l.drop k = [] := List.drop_eq_nil_iff.2 (by omega)
    refine EndsW.some (bs := Ab) ?_ HR.out HK.out
    rw [HO.out, e]
    show some (Ab ++ []) = _
    simp
theorem nU (R : Nat) (told : ee) (w : World) (h : Wr R told w) (l : List Int) (sv : Value) (b1 b2 : Nat) (h1 : w.heap[b1]? = some (.cells #[sv] 126 (0, 0))) (h2 : w.heap[b2]? = some (.cells #[.func (.func 142) #[] #[]] 212 (0, 0))) (hp : Moneys Any w l sv) (hl : l.length ≤ 1000000000) :
    Calls Tryz.prog 202 #[.pointer (some ⟨R, 0, none⟩), .pointer (some ⟨b1, 0, none⟩), .pointer (some ⟨b2, 0, none⟩)] w (EndsW R told (fd (l.map XP.money)) w) := by
 have c1 := fv h1
 have HP := ec hp
 have HW := ec h
 have HL := ec hl
 have AJ := hl
 have H2 := ec (fv h2)
 obtain ⟨pa, pc, rfl⟩ := ed hp
 have H2b := ec h2
 clear h1 h2 hp h hl
 go_enter Tryz.func202, Tryz.ntmps202
 go_wp2_with fail
 go_loopw [8] (fun x wr => ∃ (k : Nat) (Ab : ee), k ≤ l.length ∧ x = .int .i64 k ∧ Hid (Wr R (told ++ Ab) wr) ∧ Hid (Kw R w wr) ∧ Hid (fd (l.map XP.money) = Told.app (some Ab) (hC (decide (0 < k)) ((l.drop k).map XP.money)))) (fun x _ => l.length - (intOf x).toNat)
 case atStart => exact ⟨0, [], by omega, rfl, ec (by simpa using HW.out), ec (Kw.refl R w), ec (by rw [iG]; rfl)⟩
 case round =>
  obtain ⟨k, Ab, hk, rfl, HR, HK, HO⟩ := hrel
  by_cases hlt : k < l.length
  · obtain ⟨t, ht⟩ : ∃ t, l[k]? = some t := ⟨l[k], by simp [hlt]⟩
    have HT := ec (List.mem_of_getElem? ht)
    have HD : Hid ((l.drop k).map XP.money = XP.money t :: (l.drop (k + 1)).map XP.money) := ec (by rw [List.drop_eq_getElem_cons hlt, (List.getElem?_eq_some_iff.1 ht).2]; rfl)
    obtain ⟨ga, xa, ya, e1, _, h1, h2⟩ := Rows.at (Moneys.keep (T := ei) HP.out (eM HK.out.keeps) (by decide)) ht
    simp only [Value.slice.injEq] at e1
    obtain ⟨rfl, _, rfl⟩ := e1
    unfold cI at h1
    subst h1
    have a0 : wr.cell? ⟨ga, k, none⟩ = some (.int .i64 t) := by have := h2 0 _ rfl; simpa using this
    have Aw : Hid (wr.cell? ⟨b2, 0, none⟩ = some (.func (.func 142) #[] #[])) := ec (fv (HK.out.keep _ _ _ _ H2b.out (by decide) (by decide)))
    clear h2 ht
    go_wp2_with fail
    rename_i K hK
    refine gE (B := [0, 2, 4, 5]) (mq R (ez [ey (decide (0 < k)) (some [44, 32]), XP.money t]) wr) Keeps (RoundI R (told ++ Ab) (ez [ey (decide (0 < k)) (some [44, 32]), XP.money t]) wr) (Gk [.val (.pointer (some ⟨R, 0, none⟩)), .any, .val (.pointer (some ⟨b2, 0, none⟩)), .any, .val (.int .i64 k), .val (.int .i64 t), .any, .any, .any, .any, .any, .any, .any, .val (.pointer (some ⟨R, 0, none⟩)), .val (.int .i64 k), .val (.bool (decide (0 < k))), .strs [[44, 32]], .part (some [44, 32]), .part (ey (decide (0 < k)) (some [44, 32])), .val (.func (.func 142) #[] #[]), .val (.int .i64 t), .part (XP.money t), .parts [ey (decide (0 < k)) (some [44, 32]), XP.money t]]) 10 (by kernel_rfl) (by kernel_rfl) (eZ (by kernel_rfl)) (jh (by kernel_rfl)) (fun s w w' v h hg => Kd.keep h hg) ⟨Grows.drew wr, HR.out⟩ ?hb (ia ⟨?_, ?_, ?_, ?_, ?_, ?_, ?_, ?_, ?_, ?_, ?_, trivial⟩) ?hE ?hend
    case hb =>
     intro s hs
     simp only [List.mem_cons, List.not_mem_nil, or_false] at hs
     rcases hs with rfl | rfl | rfl | rfl <;> rfl
    case hE =>
     rintro c a' w' Ac ⟨rfl, hm, hk'⟩
     refine ⟨Ac, EndsW.none ?_ (HK.out.trans hk')⟩
     rw [HO.out, HD.out]
     show Told.app (some Ab) (Told.app (Told.app (ey (decide (0 < k)) (some [44, 32])) (XP.money t)) _) = none
     have hm' : Told.app (ey (decide (0 < k)) (some [44, 32])) (XP.money t) = none := by
      have := hm
      simpa [ez, j1] using this
     rw [hm']
     rfl
    case hend =>
     rintro ⟨tm, df⟩ w' Ad Ac ⟨bs, hm, Ah, Ai⟩ Aa _
     simp only at Ac Ad
     subst Ac
     obtain ⟨x0, x1, x2, x3, x4, x5, x6, x7, x8, x9, Ay, AB, AM, AH, AE, Av, At, AG, AL, Ar, Au, Ao, AN, Ax, AK, rfl⟩ := vk Ad
     have e0 := Aa 0 (eZ (B := [0]) (by kernel_rfl) 0 (by simp))
     have e1 := Aa 1 (eZ (B := [1]) (by kernel_rfl) 1 (by simp))
     have e2 := Aa 2 (eZ (B := [2]) (by kernel_rfl) 2 (by simp))
     have e3 := Aa 3 (eZ (B := [3]) (by kernel_rfl) 3 (by simp))
     have e6 := Aa 6 (eZ (B := [6]) (by kernel_rfl) 6 (by simp))
     have e7 := Aa 7 (eZ (B := [7]) (by kernel_rfl) 7 (by simp))
     have e8 := Aa 8 (eZ (B := [8]) (by kernel_rfl) 8 (by simp))
     simp at e0 e1 e2 e3 e6 e7 e8
     subst e0 e1 e2 e3 e6 e7 e8
     have Am := ec Ah
     have Al := ec (HK.out.trans Ai)
     have Ak : Hid (fd (l.map XP.money) = Told.app (some (Ab ++ bs)) (hC (decide (0 < k + 1)) ((l.drop (k + 1)).map XP.money))) := ec (by
      rw [HO.out, HD.out]
      show Told.app (some Ab) (Told.app (Told.app (ey (decide (0 < k)) (some [44, 32])) (XP.money t)) (hC true _)) = _
      have hm' : Told.app (ey (decide (0 < k)) (some [44, 32])) (XP.money t) = some bs := by
       have := hm
       simpa [ez, j1] using this
      rw [hm', ← gA]
      simp [Told.app])
     clear Ad hm Ah Ai Aa HR HK HO
     refine hK _ _ ?_
     go_wp2_with fail
     go_roundw
     case rel => exact ⟨k + 1, Ab ++ bs, by omega, by go_num, by rw [← List.append_assoc]; exact Am, Al, Ak⟩
     case measure => simp [intOf]; omega
    · exact eS (by decide) fun ρ W hc hf hI hg => ef (v := ρ (.tmp 0)) (w' := W) rfl ⟨Grows.refl _, fun d hd => by cases hd; exact (show ρ (.tmp 0) = _ from hg 0 (by decide))⟩
    · exact eS (by decide) fun ρ W hc hf hI hg => ef (v := ρ (.tmp 4)) (w' := W) rfl ⟨Grows.refl _, fun d hd => by cases hd; exact (show ρ (.tmp 4) = _ from hg 4 (by decide))⟩
    · refine eS (by decide) fun ρ W hc hf hI hg => ?_
      have An : ρ (.tmp 14) = .int .i64 k := hg 14 (by decide)
      have k0 := hc (.int .i64 0)
      refine ef (v := .bool (decide (0 < k))) (w' := W) ?_ ⟨Grows.refl _, fun d hd => by cases hd; exact rfl⟩
      clear hg hc hf
      go_simp
    · refine eS (by decide) fun ρ W hc hf hI hg => ?_
      have k0 := hc (.string ⟨#[44, 32]⟩)
      refine ef (v := .slice (some ⟨W.heap.size, 0, none⟩) 1 1) (w' := W.alloc (.cells #[.string ⟨#[44, 32]⟩] 9)) ?_ ⟨Grows.alloc _ _, fun d hd => by cases hd; exact fh W [[44, 32]] (by unfold maxLen; simp)⟩
      clear hg hc hf
      go_simp
    · refine eS (by decide) fun ρ W hc hf hI hg => ?_
      have Aj : Strs Any W [[44, 32]] (ρ (.tmp 16)) := hg 16 (by decide)
      have k0 := hf 73
      refine es (f := 73) (args := #[ρ (.tmp 16)]) (w' := W) ?_ (fG W [44, 32] _ Aj (by decide)) ?_
      · clear hg hc hf Aj
        go_simp
      · rintro e W' ⟨v, rfl, hv, hb⟩
        exact ⟨v, rfl, hb, fun d hd => by cases hd; exact hv⟩
    · refine eS (by decide) fun ρ W hc hf hI hg => ?_
      have AC : ρ (.tmp 15) = .bool (decide (0 < k)) := hg 15 (by decide)
      have Ag : Tells (some [44, 32]) W (ρ (.tmp 17)) := hg 17 (by decide)
      have k0 := hf 71
      refine es (f := 71) (args := #[.bool (decide (0 < k)), ρ (.tmp 17)]) (w' := W) ?_ (iw W (decide (0 < k)) _ _ Ag) ?_
      · clear hg hc hf Ag
        go_simp
      · rintro e W' ⟨v, rfl, hv, hb⟩
        exact ⟨v, rfl, hb, fun d hd => by cases hd; exact hv⟩
    · refine eS (by decide) fun ρ W hc hf hI hg => ?_
      have g2 : ρ (.tmp 2) = .pointer (some ⟨b2, 0, none⟩) := hg 2 (by decide)
      have d0 := fv (hI _ _ _ _ (HK.out.keep _ _ _ _ H2b.out (by decide) (by decide)) (by decide) (by decide))
      refine ef (v := .func (.func 142) #[] #[]) (w' := W) ?_ ⟨Grows.refl _, fun d hd => by cases hd; exact rfl⟩
      clear hg hc hf
      go_simp
    · exact eS (by decide) fun ρ W hc hf hI hg => ef (v := ρ (.tmp 5)) (w' := W) rfl ⟨Grows.refl _, fun d hd => by cases hd; exact (show ρ (.tmp 5) = _ from hg 5 (by decide))⟩
    · refine eS (by decide) fun ρ W hc hf hI hg => ?_
      have AD : ρ (.tmp 19) = .func (.func 142) #[] #[] := hg 19 (by decide)
      have Ap : ρ (.tmp 20) = .int .i64 t := hg 20 (by decide)
      have k1 := fA Tryz.func142 (by kernel_rfl) (by kernel_rfl)
      refine es (f := 142) (args := #[.int .i64 t]) (w' := W) ?_ (lk W t) ?_
      · clear hg hc hf
        go_simp
      · rintro e W' ⟨v, rfl, hv, hb⟩
        exact ⟨v, rfl, hb, fun d hd => by cases hd; exact hv⟩
    · refine eS (by decide) fun ρ W hc hf hI hg => ?_
      have Af : Tells (ey (decide (0 < k)) (some [44, 32])) W (ρ (.tmp 18)) := hg 18 (by decide)
      have Ae : Tells (XP.money t) W (ρ (.tmp 21)) := hg 21 (by decide)
      have hP := fF W [ey (decide (0 < k)) (some [44, 32]), XP.money t] [ρ (.tmp 18), ρ (.tmp 21)] rfl (by unfold maxLen; simp) ⟨Af, Ae, trivial⟩
      obtain ⟨Aq, AF, As, -, -⟩ := Af
      obtain ⟨AA, Az, AI, -, -⟩ := Ae
      refine ef (v := .slice (some ⟨W.heap.size, 0, none⟩) 2 2) (w' := W.alloc (.cells #[ρ (.tmp 18), ρ (.tmp 21)] 86)) ?_ ⟨Grows.alloc _ _, fun d hd => by cases hd; exact hP⟩
      clear hg hc hf hP
      go_simp
    · refine kV (s1 := 13) (s2 := 22) (ms := [ey (decide (0 < k)) (some [44, 32]), XP.money t]) (by decide) (by decide) rfl (by simp) (fun W v h => h) (fun W v h => h) (fun d hd W v => by cases hd; trivial) ?_
      intro ρ W pa n pc hf g1 g2
      have k0 := hf 68
      clear hf
      go_simp
  · go_wp2_with fail
    go_end0
    have e : l.drop k = [] := List.drop_eq_nil_iff.2 (by omega)
    refine EndsW.some (bs := Ab) ?_ HR.out HK.out
    rw [HO.out, e]
    show some (Ab ++ []) = _
    simp
end Go.Proofs.YtbpphlmakmeoaaaGreatDoor.Sy
