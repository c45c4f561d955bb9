import Derived.Test.YtbpphlmakmeoaaaGreatDoorGrammar
import Derived.Test.YtbpphlmakmeoaaaGreatDoorData
import Derived.Test.YtbpphlmakmeoaaaGreatDoorAddAll
import Derived.Test.YtbpphlmakmeoaaaGreatDoorMoPrint
import Derived.Lib.Builder
import Derived.Lib.AppendStr
import Derived.Lib.UnsafeStr
import Derived.Orders
import Derived.Test.YtbpphlmakmeoaaaGreatDoorSameAll
import Derived.Test.YtbpphlmakmeoaaaGreatDoorCa
import Derived.Lib.ItoaLen
set_option maxRecDepth 100000
set_option maxHeartbeats 1600000
namespace Go.Proofs.YtbpphlmakmeoaaaGreatDoor.Sy
abbrev Told := Option ee
def Told.app (a b : Told) : Told := a.bind fun x => b.map fun y => x ++ y
def ez : List Told → Told
 | [] => some []
 | a :: r => Told.app a (ez r)
def ey (b : Bool) (t : Told) : Told := if b = true then t else some []
def eX (l : List ee) : Told := some l.flatten
def hC : Bool → List Told → Told
 | _, [] => some []
 | c, a :: r => Told.app (Told.app (ey c (some [44, 32])) a) (hC true r)
def fd (l : List Told) : Told := hC false l
def fu (t : Told) : Told := ez [t, some [46, 10]]
def eu (l : List Told) : Told := ez (l.map fu)
def eY (n : Int) (all : List ee) : Told := if n < 1 then none else all[(n - 1).toNat]?
structure Px where
 money : Int → Told
 day : Int → Told
 int : Int → Told
def hU (l : List ee) : Told := fd (l.map some)
def iA (l : List ee) : Told := ey (decide (0 < l.length)) (ez [some [40], hU l, some [41]])
section
variable (X : Px)
def kr (l : jQ) : Told := ez [ey l.neg (some [45]), some l.pred, iA l.args, ey l.hasValue (ez [some [32, 61, 32], X.money l.value])]
def gQ (t : ft) : Told :=
 if t.pred = [] then X.money t.value else ez [ey (!decide (t.coef = 1)) (ez [X.int t.coef, some [42]]), some t.pred, iA t.args]
def lJ (v : Int) : Int := if v = -9223372036854775808 then v else -v
def jK (t : ft) : ft := ⟨lJ t.coef, t.pred, t.args, lJ t.value⟩
def nl (t : ft) : Bool := if t.pred = [] then decide (t.value < 0) else decide (t.coef < 0)
def nc (t : ft) : Told := if nl t = true then Told.app (some [32, 45, 32]) (gQ X (jK t)) else Told.app (some [32, 43, 32]) (gQ X t)
def iI : Bool → List ft → Told
 | _, [] => some []
 | first, t :: r => Told.app (if first = true then gQ X t else nc X t) (iI false r)
def gF (l : List ft) : Told := iI X true l
def N5 : List ee := [[60], [60, 61], [61, 61], [60, 62], [62, 61], [62]]
def td (g : jf) : Told := ez [some [123], gF X g.left, some [32], eY g.op N5, some [32], gF X g.right, some [125]]
def fI (p : f9) : Told :=
 if p.kind = 1 then kr X p.lit else if p.kind = 2 then td X p.guard else if p.kind = 3 then eX [p.a, [32, 33, 61, 32], p.b] else none
def zX : List ee := [[45, 62], [61, 62], [126, 62]]
def it (r : gI) : Told :=
 ez [eX [[114, 117, 108, 101, 32], r.name, [32, 111, 102, 32], r.source, [32, 97, 116, 32]], X.day r.day, ey (!decide (r.till = 0)) (ez [some [32, 117, 110, 116, 105, 108, 32], X.day r.till]), some [32, 58, 32],
  fd (r.body.map (fI X)), ey (decide (0 < r.body.length)) (some [32]), eY r.arrow zX, some [32], kr X r.head]
def ii (x : ee) : Told := eX [[107, 105, 110, 100, 32], x]
def gm (m : ee × ee) : Told := eX [[109, 101, 109, 98, 101, 114, 32], m.1, [32, 58, 32], m.2]
def D6 : List ee := [[112, 114, 101, 100, 32], [110, 117, 109, 98, 101, 114, 32], [97, 109, 111, 117, 110, 116, 32]]
def iv (p : fZ) : Told :=
 ez [eY p.sort D6, some p.name, iA p.kinds, ey (decide (p.sort = 3)) (ez [some [32, 58, 32], fd (p.values.map X.money)])]
def gM (l : List ee) : Told := ez [some [99, 108, 97, 115, 115, 32], hU l]
def gy (s : ee × Int) : Told := ez [eX [[115, 111, 117, 114, 99, 101, 32], s.1, [32, 114, 97, 110, 107, 32]], X.int s.2]
def gn (e : ee × ee) : Told := eX [[101, 120, 99, 101, 112, 116, 105, 111, 110, 32], e.1, [32, 116, 111, 32], e.2]
def gV (t : gx) : Told := ez [eX [[116, 111, 116, 97, 108, 32], t.name, [40], t.kind, [41, 32, 58, 32]], hU t.preds, ey t.hasCap (ez [some [32, 99, 97, 112, 32], X.money t.cap])]
def je (S : StatM) : Told :=
 ez [ey (!decide (S.title = [])) (fu (eX [[115, 116, 97, 116, 117, 116, 101, 32, 34], S.title, [34]])), eu (S.kinds.map ii), eu (S.members.map gm), eu (S.preds.map (iv X)),
  eu (S.classes.map gM), eu (S.sources.map (gy X)), eu (S.rules.map (it X)), eu (S.excepts.map gn), eu (S.totals.map (gV X))]
end
end Go.Proofs.YtbpphlmakmeoaaaGreatDoor.Sy
namespace Go.Proofs.YtbpphlmakmeoaaaGreatDoor.Sy
open Go.RowKit
structure Wr (R : Nat) (told : ee) (w : World) : Prop where
 ex : ∃ (p v : Value) (bs : ee) (lg : Bool), w.heap[R]? = some (.cells #[p, v, .bool lg] 144 (0, 0)) ∧ (p = .pointer none ∨ p = .pointer (some ⟨R, 0, none⟩)) ∧ w.ownsRow (R + 1) 5 1 v bs.length (Lib.byteCells bs) ∧
  (bs = [] → v = .slice none 0 0) ∧ lg = decide (65536 < told.length) ∧ (lg = false → bs = told) ∧ bs.length ≤ 65536
 tab : Mo.Tab w
 pos : 0 < R
structure Kw (R : Nat) (w w' : World) : Prop where
 os : w'.os = w.os
 tape : w'.tape = w.tape
 output : w'.output = w.output
 size : w.heap.size ≤ w'.heap.size
 low : ∀ k, k < R → w'.heap[k]? = w.heap[k]?
 keep : ∀ (g : Nat) (cur : Array Value) (t : Nat) (z : Nat × Nat), w.heap[g]? = some (.cells cur t z) → t ≠ 144 → t ≠ 5 → w'.heap[g]? = some (.cells cur t z)
def Keeps (w w' : World) : Prop := ∀ (g : Nat) (cur : Array Value) (t : Nat) (z : Nat × Nat), w.heap[g]? = some (.cells cur t z) → t ≠ 144 → t ≠ 5 → w'.heap[g]? = some (.cells cur t z)
theorem Keeps.refl (w : World) : Keeps w w := fun _ _ _ _ h _ _ => h
theorem Keeps.trans {a b c : World} (h : Keeps a b) (k : Keeps b c) : Keeps a c := fun g cur t z hg h1 h2 => k g cur t z (h g cur t z hg h1 h2) h1 h2
theorem Keeps.of_below {w w' : World} (h : Below w.heap.size w w') : Keeps w w' := by
 intro g Aa t z hg _ _
 rw [h.block g (by
  apply Classical.byContradiction
  intro hn
  rw [Array.getElem?_eq_none (by omega)] at hg
  cases hg), hg]
theorem Kw.keeps {R : Nat} {w w' : World} (h : Kw R w w') : Keeps w w' := h.keep
theorem Kw.refl (R : Nat) (w : World) : Kw R w w := ⟨rfl, rfl, rfl, Nat.le_refl _, fun _ _ => rfl, fun _ _ _ _ h _ _ => h⟩
theorem Kw.trans {R : Nat} {a b c : World} (h : Kw R a b) (k : Kw R b c) : Kw R a c :=
 ⟨k.os.trans h.os, k.tape.trans h.tape, k.output.trans h.output, Nat.le_trans h.size k.size, fun i hi => (k.low i hi).trans (h.low i hi), h.keeps.trans k.keeps⟩
theorem Kw.of_below {R : Nat} {w w' : World} (h : Below w.heap.size w w') (hR : R ≤ w.heap.size) : Kw R w w' :=
 ⟨h.os, h.tape, h.output, h.size, fun k hk => h.block k (by omega), Keeps.of_below h⟩
theorem Kp.of_keeps {T : List Nat} {Z : Nat → Prop} {w w' : World} (h : Keeps w w') (h1 : 144 ∉ T) (h2 : 5 ∉ T) : Kp T Z w w' :=
 fun g cur t _ hg hm => h g cur t (0, 0) hg (fun e => h1 (e ▸ hm)) (fun e => h2 (e ▸ hm))
theorem Wr.lt {R : Nat} {told : ee} {w : World} (h : Wr R told w) : R < w.heap.size := by
 obtain ⟨p, v, bs, lg, hb, _⟩ := h.ex
 exact eN hb
theorem Wr.below {R : Nat} {told : ee} {w w' : World} (h : Wr R told w) (hb : Below w.heap.size w w') : Wr R told w' := by
 obtain ⟨p, v, bs, lg, h1, h2, h3, h4⟩ := h.ex
 refine ⟨⟨p, v, bs, lg, (hb.block R h.lt).trans h1, h2, ?_, h4⟩, h.tab.below hb (Nat.le_refl _), h.pos⟩
 refine ⟨h3.1, ?_⟩
 rcases h3.2 with h5 | ⟨g, Ab, Aa, h5, h6, h7, h8⟩
 · exact .inl h5
 · exact .inr ⟨g, Ab, Aa, h5, h6, (hb.block g (eN h7)).trans h7, h8⟩
theorem uB : (Tryz.prog.info? 142).map (·.size) = some 2 := by kernel_rfl
theorem zK : liesAt Tryz.prog Tryz.prog.depth 144 (3 / Tryz.prog.cellsOf 144) 0 142 1 = true := by kernel_rfl
theorem wz : (Tryz.prog.info? 5).map (fun i => (i.zero, i.size, i.bytes)) = some (some (.int .u8 0), 1, 1) := by kernel_rfl
theorem uS (b : Nat) (w : World) (h0 : w.cell? ⟨b, 0, none⟩ = some (.pointer (some ⟨b, 0, none⟩))) :
    Calls Tryz.prog 255 #[.pointer (some ⟨b, 0, none⟩)] w fun e w' => e = .returned (.tuple #[]) ∧ w' = w := by
 obtain ⟨j, hj, _⟩ := Option.map_eq_some_iff.1 uB
 go_enter Tryz.func255, Tryz.ntmps255
 go_wp2
 rw [Lib.run_neq_ptr_same w _ Tryz.underlying139 hj]
 go_wp2
 go_end0
 exact ⟨rfl, rfl⟩
theorem ub (b : Nat) (w : World) (h0 : w.cell? ⟨b, 0, none⟩ = some (.pointer none)) (hsh : w.shape? b = some (144, 3)) (hfz : w.frozen? ⟨b, 0, none⟩ = false) :
    Calls Tryz.prog 255 #[.pointer (some ⟨b, 0, none⟩)] w fun e w' => e = .returned (.tuple #[]) ∧ w' = w.setCell ⟨b, 0, none⟩ (.pointer (some ⟨b, 0, none⟩)) := by
 obtain ⟨j, hj, Aa⟩ := Option.map_eq_some_iff.1 uB
 go_enter Tryz.func255, Tryz.ntmps255
 go_wp2
 rw [Lib.run_to_unsafe w ⟨b, 0, none⟩ Tryz.underlying139 Tryz.underlying309 hj (by rw [Aa]; decide) hsh (Nat.zero_lt_succ 2)]
 simp only [Result.andThen]
 rw [Oper.upon_value]
 go_wp2
 rw [run_callFunc_extern Tryz.func301 (by kernel_rfl) (by kernel_rfl) (by kernel_rfl) (e := Extern.AbiNoEscape.same) (by kernel_rfl)]
 rw [Lib.run_noEscape]
 simp only [Result.andThen]
 rw [Oper.upon_value]
 go_wp2
 rw [Lib.run_from_unsafe w ⟨b, 0, none⟩ Tryz.underlying309 Tryz.underlying139 hj hsh zK]
 simp only [Result.andThen]
 rw [Oper.upon_value]
 go_wp2
 go_end0
 exact ⟨rfl, rfl⟩
theorem tn {R : Nat} {w w' : World} (h : Mo.Tab w) (hk : Kw R w w') (hp : 0 < R) : Mo.Tab w' := by
 have Aa : Tryz.prog.globalNamed "internal/strconv.uint64pow10" = some 0 := by kernel_rfl
 unfold Mo.Tab Lib.TabIs World.var? at h ⊢
 rw [Aa] at h ⊢
 simp only [Option.bind_some] at h ⊢
 rw [hk.low 0 hp]
 exact h
theorem lV (R : Nat) (p v : Value) (lg : Bool) (w : World) (hb : w.heap[R]? = some (.cells #[p, v, .bool lg] 144 (0, 0))) (hp : p = .pointer none ∨ p = .pointer (some ⟨R, 0, none⟩)) :
    Calls Tryz.prog 255 #[.pointer (some ⟨R, 0, none⟩)] w fun e w' => e = .returned (.tuple #[]) ∧ w'.heap[R]? = some (.cells #[.pointer (some ⟨R, 0, none⟩), v, .bool lg] 144 (0, 0)) ∧ w'.heap.size = w.heap.size ∧ (∀ k, k ≠ R → w'.heap[k]? = w.heap[k]?) ∧ w'.os = w.os ∧ w'.tape = w.tape ∧ w'.output = w.output := by
 have c0 : w.cell? ⟨R, 0, none⟩ = some p := by rw [cell_of_row w R 0 _ 144 _ hb]; rfl
 rcases hp with rfl | rfl
 · refine (ub R w c0 (by simp [World.shape?, hb]) (frozen_of_row w R 0 _ 144 hb)).mono ?_
   rintro e w' ⟨rfl, rfl⟩
   exact ⟨rfl, heap_setCell_same w R 0 _ 144 _ hb, by simp, fun k hk => heap_setCell_other w ⟨R, 0, none⟩ k _ hk, rfl, rfl, rfl⟩
 · refine (uS R w c0).mono ?_
   rintro e w' ⟨rfl, rfl⟩
   exact ⟨rfl, hb, rfl, fun _ _ => rfl, rfl, rfl, rfl⟩
theorem zM (R : Nat) (p : Value) (a : Option Addr) (n c : Nat) (lg : Bool) (w : World) (hb : w.heap[R]? = some (.cells #[p, .slice a n c, .bool lg] 144 (0, 0))) :
    Calls Tryz.prog 199 #[.pointer (some ⟨R, 0, none⟩)] w fun e w' => e = .returned (.int .i64 n) ∧ w' = w := by
 obtain ⟨z0, z1, z2, z3⟩ := fj hb
 clear hb
 go_enter Tryz.func199, Tryz.ntmps199
 go_wp2
 go_ret
 exact ⟨rfl, rfl⟩
theorem Kw.of_write {R : Nat} {w w1 w2 : World} {p v v' : Value} {lg : Bool} {o : Obj} {bs : ee} (h0 : w.heap[R]? = some o) (h1 : w1.heap[R]? = some (.cells #[p, v, .bool lg] 144 (0, 0))) (hs : w1.heap.size = w.heap.size) (hk : ∀ k, k ≠ R → w1.heap[k]? = w.heap[k]?) (hos : w1.os = w.os) (ht : w1.tape = w.tape) (hout : w1.output = w.output)
    (hcell : ∃ cur, o = .cells cur 144 (0, 0)) (hown : w1.ownsRow (R + 1) 5 1 v bs.length (Lib.byteCells bs)) (hg : w1.grownBy w2 v.ownBlock) : Kw R w (w2.setCell ⟨R, 1, none⟩ v') := by
 have Ac := eN h0
 have hv : ∀ g, v.ownBlock = some g → R < g ∧ ∃ cur, w1.heap[g]? = some (.cells cur 5 (0, 0)) := by
  intro g Aa
  rcases hown.2 with ⟨e, _⟩ | ⟨g', Ad, cur, e, h5, h6, _⟩
  · rw [e] at Aa; cases Aa
  · rw [e] at Aa; cases Aa; exact ⟨h5, cur, h6⟩
 refine ⟨?_, ?_, ?_, ?_, fun k hkR => ?_, fun g cur t z hgc h3 h4 => ?_⟩
 · exact hg.os.trans hos
 · exact hg.tape.trans ht
 · exact hg.output.trans hout
 · have := hg.size
   simp
   omega
 · rw [heap_setCell_other w2 ⟨R, 1, none⟩ k v' (by show k ≠ R; omega), hg.block k (by omega) (fun e => by have := (hv k e.symm).1; omega)]
   exact hk k (by omega)
 · have Ab : g ≠ R := by
    rintro rfl
    obtain ⟨cu, rfl⟩ := hcell
    rw [h0] at hgc
    cases hgc
    exact h3 rfl
   have h7 : w1.heap[g]? = some (.cells cur t z) := (hk g Ab).trans hgc
   rw [heap_setCell_other w2 ⟨R, 1, none⟩ g v' Ab, hg.block g (eN h7) (fun e => by
    obtain ⟨_, cu, h8⟩ := hv g e.symm
    rw [h7] at h8
    cases h8
    exact h4 rfl)]
   exact h7
theorem xN (R : Nat) (p v : Value) (bs s : ee) (lg : Bool) (w : World) (hb : w.heap[R]? = some (.cells #[p, v, .bool lg] 144 (0, 0))) (hp : p = .pointer none ∨ p = .pointer (some ⟨R, 0, none⟩))
    (hown : w.ownsRow (R + 1) 5 1 v bs.length (Lib.byteCells bs)) (hnil : bs = [] → v = .slice none 0 0) (hlen : bs.length + s.length ≤ 65536) :
    Calls Tryz.prog 200 #[.pointer (some ⟨R, 0, none⟩), .string ⟨s.toArray⟩] w fun e w' => ∃ x, e = .returned x ∧ (∃ v', w'.heap[R]? = some (.cells #[.pointer (some ⟨R, 0, none⟩), v', .bool lg] 144 (0, 0)) ∧ w'.ownsRow (R + 1) 5 1 v' (bs ++ s).length (Lib.byteCells (bs ++ s)) ∧ (bs ++ s = [] → v' = .slice none 0 0)) ∧ Kw R w w' := by
 obtain ⟨i0, hi, Aq, Am, As⟩ := info_parts wz
 have CK := ec (lV R p v lg w hb hp)
 have HB := ec hb
 have HO := ec hown
 have HN := ec hnil
 clear hb hp hown hnil
 go_enter Tryz.func200, Tryz.ntmps200
 go_wp2_with fail
 refine CK.out.mono ?_
 rintro e w1 ⟨rfl, h1, Aj, hk, Ak, ht, Ai⟩
 have At := eN h1
 have Ae : w1.ownsRow (R + 1) 5 1 v bs.length (Lib.byteCells bs) := by
  refine ⟨HO.out.1, ?_⟩
  rcases HO.out.2 with h5 | ⟨g, Aa, Af, h5, h6, h7, h8⟩
  · exact .inl h5
  · exact .inr ⟨g, Aa, Af, h5, h6, (hk g (by omega)).trans h7, h8⟩
 obtain ⟨z0, z1, z2, z3⟩ := fj h1
 have Ad := ec Ae
 have H1 := ec h1
 have HS := ec Aj
 have HK := ec hk
 have HE := ec (And.intro Ak (And.intro ht Ai))
 clear Ae h1 Aj hk Ak ht Ai CK
 have Ar : (⟨s.toArray⟩ : ByteArray).size = s.length := by simp [ByteArray.size]
 go_wp2_with (at_builtin; refine Lib.wpList_append_own_string _ rfl _ _ 140 9 rfl (R + 1) 5 i0 Tryz.underlying140 Tryz.underlying9 hi Aq Am As _ _ _ rfl Ad.out ⟨s.toArray⟩ rfl ?c3 ?c4 ?c5 ?_)
 case c3 => unfold maxLen; omega
 case c4 => omega
 case c5 => omega
 intro v' w2 Ab Ac Ag
 have hv := fun g (e : v.ownBlock = some g) => (Ad.out.lt g e).1
 have Ap : v.ownBlock ≠ some R := fun e => by have := hv R e; omega
 have Ah : w2.heap[R]? = some (.cells #[.pointer (some ⟨R, 0, none⟩), v, .bool lg] 144 (0, 0)) := by
  rw [Ac.block R At (fun e => Ap e.symm)]
  exact H1.out
 obtain ⟨d0, d1, d2, d3⟩ := fj Ah
 have f1 := d3 1
 obtain ⟨ao, n', Aa, rfl⟩ : ∃ ao n' Aa, v' = .slice ao n' Aa := by
  rcases Ab.2 with ⟨hv, _⟩ | ⟨g, Aa, Af, hv, _⟩
  · exact ⟨_, _, _, hv⟩
  · exact ⟨_, _, _, hv⟩
 have An := ec (Kw.of_write (v' := .slice ao n' Aa) HB.out H1.out HS.out HK.out HE.out.1 HE.out.2.1 HE.out.2.2 ⟨_, rfl⟩ Ad.out Ac)
 have Ao := ec (fN (i := 1) (v := .slice ao n' Aa) Ah)
 have Al : Hid ((w2.setCell ⟨R, 1, none⟩ (.slice ao n' Aa)).ownsRow (R + 1) 5 1 (.slice ao n' Aa) (bs ++ s).length (Lib.byteCells (bs ++ s))) := ec (by
  have e1 : (bs ++ s).length = bs.length + (⟨s.toArray⟩ : ByteArray).size := by rw [Ar]; simp
  rw [e1, Lib.byteCells_append]
  refine ⟨Ab.1, ?_⟩
  rcases Ab.2 with h5 | ⟨g, Aa, Af, h5, h6, h7, h8⟩
  · exact .inl h5
  · exact .inr ⟨g, Aa, Af, h5, h6, fD h7 (by show g ≠ R; omega), h8⟩)
 have Au : Hid (bs ++ s = [] → (Value.slice ao n' Aa) = .slice none 0 0) := ec (fun e => by
  have e1 := List.append_eq_nil_iff.1 e
  exact Ag.2 ⟨HN.out e1.1, e1.2⟩)
 clear Ab Ac Ag hv Ah
 go_wp2
 go_ret2
 exact ⟨_, rfl, ⟨_, Ao.out, Al.out, Au.out⟩, An.out⟩
def EndsW (R : Nat) (told : ee) (m : Told) (w : World) (e : Ending) (w' : World) : Prop := match m with
 | some bs => e = .returned (.tuple #[]) ∧ Wr R (told ++ bs) w' ∧ Kw R w w'
 | none => e = .panicked [{ v := .iface 33 (.int .i64 52), recovered := false }] ∧ Kw R w w'
theorem Kw.setR {R : Nat} {w : World} {cur : Array Value} (hb : w.heap[R]? = some (.cells cur 144 (0, 0))) (i : Nat) (v : Value) : Kw R w (w.setCell ⟨R, i, none⟩ v) :=
 ⟨rfl, rfl, rfl, by simp, fun k hk => heap_setCell_other w ⟨R, i, none⟩ k v (by show k ≠ R; omega), fun g cu t z hg h1 _ => fD hg (by
  rintro rfl
  rw [hb] at hg
  cases hg
  exact h1 rfl)⟩
theorem oC {R i : Nat} {w : World} {v x : Value} {n : Nat} {xs : List Value} (h : w.ownsRow (R + 1) 5 1 v n xs) : (w.setCell ⟨R, i, none⟩ x).ownsRow (R + 1) 5 1 v n xs := by
 refine ⟨h.1, ?_⟩
 rcases h.2 with h5 | ⟨g, Ab, Aa, h5, h6, h7, h8⟩
 · exact .inl h5
 · exact .inr ⟨g, Ab, Aa, h5, h6, fD h7 (by show g ≠ R; omega), h8⟩
theorem ln (R : Nat) (told s : ee) (w : World) (h : Wr R told w) (hs : s.length ≤ 140737488355328) :
    Calls Tryz.prog 134 #[.pointer (some ⟨R, 0, none⟩), .string ⟨s.toArray⟩] w (EndsW R told (some s) w) := by
 obtain ⟨p, v, bs, lg, hb, hp, Aa, Ac, Af, Ae, Ad⟩ := h.ex
 have Ab := ec (And.intro h.tab h.pos)
 have Ah : (⟨s.toArray⟩ : ByteArray).size = s.length := by simp [ByteArray.size]
 obtain ⟨z0, z1, z2, z3⟩ := fj hb
 have f2 := z3 2
 cases lg with
 | true =>
  have HT : Hid (65536 < told.length) := ec (by simpa using Af.symm)
  have HB := ec hb
  have HO := ec Aa
  have HR := ec (And.intro hp (And.intro Ac Ad))
  clear h hb hp Aa Ac Af Ae Ad
  go_enter Tryz.func134, Tryz.ntmps134
  go_wp2_with fail
  go_end0
  refine ⟨rfl, ⟨⟨p, v, bs, true, fN (i := 2) (v := .bool true) HB.out, HR.out.1, oC HO.out, HR.out.2.1, ?_, fun e => (by cases e), HR.out.2.2⟩, tn Ab.out.1 (Kw.setR HB.out _ _) Ab.out.2, Ab.out.2⟩, Kw.setR HB.out _ _⟩
  have := HT.out
  simp
  omega
 | false =>
  have hbs' := Ae rfl
  subst hbs'
  obtain ⟨a, c, rfl⟩ : ∃ a c, v = .slice a bs.length c := by
   rcases Aa.2 with ⟨e, e0⟩ | ⟨g, Ai, Ag, e, _⟩
   · exact ⟨none, 0, by rw [e, e0]⟩
   · exact ⟨_, _, e⟩
  have CL := ec (zM R p a bs.length c false w hb)
  by_cases hl : bs.length + s.length ≤ 65536
  · have hw := fN (i := 2) (v := .bool false) hb
    have CW := ec (xN R p _ bs s false _ hw hp (oC Aa) Ac hl)
    have HK := ec (Kw.setR hb 2 (.bool false))
    have d2 : (w.setCell ⟨R, 2, none⟩ (.bool false)).cell? ⟨R, 2, none⟩ = some (.bool false) := (fj hw).2.2.1
    have hq : ¬ (65536 - (bs.length : Int) < (s.length : Int)) := by omega
    have hq' : decide (65536 - (bs.length : Int) < (s.length : Int)) = false := decide_eq_false hq
    clear h hb hp Aa Ac Af Ae Ad hw
    go_enter Tryz.func134, Tryz.ntmps134
    go_wp2_with fail
    refine CL.out.mono ?_
    rintro _ w1 ⟨rfl, rfl⟩
    go_wp2_with fail
    refine CW.out.mono ?_
    rintro _ w2 ⟨x, rfl, ⟨v', h1, h2, h3⟩, hk⟩
    have HF : Hid (EndsW R bs (some s) w1 (.returned (.tuple #[])) w2) := ec ⟨rfl, ⟨⟨_, v', bs ++ s, false, h1, .inr rfl, h2, h3, by simp; omega, fun _ => rfl, by simpa using hl⟩, tn Ab.out.1 (HK.out.trans hk) Ab.out.2, Ab.out.2⟩, HK.out.trans hk⟩
    clear h1 h2 h3 hk
    go_wp2_with fail
    go_end0
    exact HF.out
  · have hw := fN (i := 2) (v := .bool true) hb
    have d2 : (w.setCell ⟨R, 2, none⟩ (.bool true)).cell? ⟨R, 2, none⟩ = some (.bool true) := (fj hw).2.2.1
    have HF : Hid (EndsW R bs (some s) w (.returned (.tuple #[])) (w.setCell ⟨R, 2, none⟩ (.bool true))) := ec ⟨rfl, ⟨⟨p, _, bs, true, hw, hp, oC Aa, Ac, by simp; omega, fun e => (by cases e), Ad⟩, tn Ab.out.1 (Kw.setR hb _ _) Ab.out.2, Ab.out.2⟩, Kw.setR hb _ _⟩
    have hq : 65536 - (bs.length : Int) < (s.length : Int) := by omega
    have hq' : decide (65536 - (bs.length : Int) < (s.length : Int)) = true := decide_eq_true hq
    clear h hb hp Aa Ac Af Ae hw
    go_enter Tryz.func134, Tryz.ntmps134
    go_wp2_with fail
    refine CL.out.mono ?_
    rintro _ w1 ⟨rfl, rfl⟩
    go_wp2_with fail
    go_end0
    exact HF.out
end Go.Proofs.YtbpphlmakmeoaaaGreatDoor.Sy
namespace Go.Proofs.YtbpphlmakmeoaaaGreatDoor.Sy
open Go
def lC (P : Program) (E : List PanicEntry → World → Prop) (ρ : Operand → Value) (o : Oper) (w : World) (R : Value → World → Prop) : Prop :=
 match (execOp ρ o).run P w with
 | .ok (.value v) w' => R v w'
 | .ok .skip w' => R undef w'
 | .ok (.enter f args) w' => Calls P f args w' fun
     | .returned v, w'' => R v w''
     | .panicked c, w'' => E c w''
     | .outgrown, _ => False
 | _ => False
def jA (o : Oper) : List Tmp := o.op.operands.toList.filterMap fun x => match x with
 | .tmp t => some t
 | _ => none
def gT (ops : Array Oper) (j : Nat) : Option Tmp := (ops[j]?).bind (·.dst)
def J7 (ops : Array Oper) (n i : Nat) : Bool := match ops[i]? with
 | none => true
 | some o => o.guard.isNone && o.after.all (fun e => decide (e.on < i)) &&
     (jA o).all (fun s => (List.range ops.size).all fun j => !(decide (gT ops j = some s)) || o.after.any (fun e => decide (e.on = j) && Region.binds .any e)) &&
     (match o.dst with
      | none => true
      | some d => decide (d < n) && (List.range ops.size).all fun j => decide (j = i) || !(decide (gT ops j = some d)))
def nR (ops : Array Oper) (n : Nat) : Bool := (List.range ops.size).all (J7 ops n)
section
variable {P : Program} {ops : Array Oper} {Q : Exit → Act → World → Prop} {E : List PanicEntry → World → Prop} {T : World → World → Prop} {I : Bool → World → Prop} {G : Nat → World → Value → Prop} {z : Nat}
def kK (P : Program) (E : List PanicEntry → World → Prop) (T : World → World → Prop) (I : Bool → World → Prop) (G : Nat → World → Value → Prop) (z i : Nat) (o : Oper) : Prop :=
 ∀ (ρ : Operand → Value) (w : World) (b : Bool), (∀ v, ρ (.const v) = v) → (∀ f, ρ (.func f) = .func (.func f) #[] #[]) → (i = z → b = false) → I b w → (∀ s ∈ jA o, G s w (ρ (.tmp s))) →
  lC P E ρ o w fun v w' => T w w' ∧ I (b || decide (i = z)) w' ∧ ∀ d, o.dst = some d → G d w' v
structure Jn (ops : Array Oper) (I : Bool → World → Prop) (G : Nat → World → Value → Prop) (z : Nat) (B : List Nat) (a0 : Act) (listed : Array Bool) (a : Act) (w : World) : Prop where
 size : a.tmps.size = a0.tmps.size
 defers : a.defers = a0.defers
 lsz : listed.size = ops.size
 inv : I (listed.getD z false) w
 base : ∀ s ∈ B, G s w (a.tmps.getD s undef)
 got : ∀ j d, gT ops j = some d → listed.getD j false = true → G d w (a.tmps.getD d undef)
 old : ∀ s, (∀ j, gT ops j ≠ some s) → a.tmps.getD s undef = a0.tmps.getD s undef
theorem oG {n i : Nat} {o : Oper} (h : nR ops n = true) (hi : ops[i]? = some o) :
    o.guard = none ∧ (∀ e ∈ o.after, e.on < i) ∧ (∀ s ∈ jA o, ∀ j, gT ops j = some s → ∃ e ∈ o.after, e.on = j ∧ Region.binds .any e = true) ∧ (∀ d, o.dst = some d → d < n ∧ ∀ j, j ≠ i → gT ops j ≠ some d) := by
 have Aa : i < ops.size := (Array.getElem?_eq_some_iff.1 hi).1
 have h1 := List.all_eq_true.1 h i (List.mem_range.2 Aa)
 unfold J7 at h1
 rw [hi] at h1
 simp only [Bool.and_eq_true] at h1
 obtain ⟨⟨⟨h2, h3⟩, h4⟩, h5⟩ := h1
 have hj : ∀ j s, gT ops j = some s → j < ops.size := by
  intro j s hs
  unfold gT at hs
  by_cases hl : j < ops.size
  · exact hl
  · rw [Array.getElem?_eq_none (by omega)] at hs; cases hs
 refine ⟨by simpa using h2, fun e he => by simpa using Array.all_eq_true_iff_forall_mem.1 h3 e he, fun s hs j hd => ?_, fun d hd => ?_⟩
 · have h6 := List.all_eq_true.1 (List.all_eq_true.1 h4 s hs) j (List.mem_range.2 (hj j s hd))
   simp only [hd, decide_true, Bool.not_true, Bool.false_or] at h6
   obtain ⟨k, hk, h7⟩ := Array.any_eq_true.1 h6
   have he : o.after[k] ∈ o.after := Array.getElem_mem hk
   generalize o.after[k] = e at h7 he
   simp only [Bool.and_eq_true, decide_eq_true_eq] at h7
   exact ⟨e, he, h7.1, h7.2⟩
 · rw [hd] at h5
   simp only [Bool.and_eq_true, decide_eq_true_eq] at h5
   refine ⟨h5.1, fun j hji hdj => ?_⟩
   have h6 := List.all_eq_true.1 h5.2 j (List.mem_range.2 (hj j d hdj))
   simp [hji, hdj] at h6
theorem mQ {α : Type} (a : Array α) (i : Nat) (v d : α) (h : i < a.size) : (a.setIfInBounds i v).getD i d = v := by
 simp [h]
theorem kH {α : Type} (a : Array α) (i j : Nat) (v d : α) (h : i ≠ j) : (a.setIfInBounds i v).getD j d = a.getD j d := by
 simp only [Array.getD_eq_getD_getElem?]
 rw [Array.getElem?_setIfInBounds_ne h]
theorem Jn.put {B : List Nat} {a0 a : Act} {listed : Array Bool} {w w' : World} {i : Nat} {o : Oper} {v : Value} (hJ : Jn ops I G z B a0 listed a w) (hok : nR ops a0.tmps.size = true) (hi : ops[i]? = some o) (hun : listed.getD i true = false)
    (hB : ∀ s ∈ B, ∀ j, gT ops j ≠ some s) (hG : ∀ s w w' v, T w w' → G s w v → G s w' v) (hT : T w w') (hI : I (listed.getD z false || decide (i = z)) w') (hg : ∀ d, o.dst = some d → G d w' v) :
    Jn ops I G z B a0 (listed.setIfInBounds i true) (a.put o.dst v) w' := by
 obtain ⟨-, -, -, h4⟩ := oG hok hi
 have Ac : i < ops.size := (Array.getElem?_eq_some_iff.1 hi).1
 have Ab : gT ops i = o.dst := by unfold gT; rw [hi]; rfl
 have Aa : ∀ s, o.dst ≠ some s → (a.put o.dst v).tmps.getD s undef = a.tmps.getD s undef := by
  intro s hs
  cases hd : o.dst with
  | none => rfl
  | some d =>
   rw [hd] at hs
   exact kH _ _ _ _ _ (fun e => hs (by rw [e]))
 refine ⟨?_, ?_, by simpa using hJ.lsz, ?_, fun s hs => ?_, fun j d hj hl => ?_, fun s hs => ?_⟩
 · cases hd : o.dst with
   | none => exact hJ.size
   | some d => simpa [Act.put] using hJ.size
 · cases hd : o.dst with
   | none => exact hJ.defers
   | some d => exact hJ.defers
 · by_cases hz : i = z
   · subst hz
     rw [mQ _ _ _ _ (by rw [hJ.lsz]; exact Ac)]
     simpa using hI
   · rw [kH _ _ _ _ _ hz]
     simpa [hz] using hI
 · rw [Aa s (by rw [← Ab]; exact hB s hs i)]
   exact hG _ _ _ _ hT (hJ.base s hs)
 · by_cases hji : j = i
   · subst hji
     rw [Ab] at hj
     have hd := (h4 d hj).1
     rw [hj]
     show G d w' ((a.tmps.setIfInBounds d v).getD d undef)
     rw [mQ _ _ _ _ (by rw [hJ.size]; exact hd)]
     exact hg d hj
   · rw [kH _ _ _ _ _ (Ne.symm hji)] at hl
     rw [Aa d]
     · exact hG _ _ _ _ hT (hJ.got j d hj hl)
     · intro e
       exact (h4 d e).2 j hji hj
 · rw [Aa s (by rw [← Ab]; exact hs i)]
   exact hJ.old s hs
theorem Jn.step {B : List Nat} {a0 a : Act} {listed : Array Bool} {w : World} {i : Nat} (hJ : Jn ops I G z B a0 listed a w) (hok : nR ops a0.tmps.size = true)
    (hB : ∀ s ∈ B, ∀ j, gT ops j ≠ some s) (huse : ∀ (j : Nat) (o : Oper), ops[j]? = some o → ∀ s ∈ jA o, s ∈ B ∨ ∃ j, gT ops j = some s) (hG : ∀ s w w' v, T w w' → G s w v → G s w' v) (hstep : ∀ (i : Nat) (o : Oper), ops[i]? = some o → kK P E T I G z i o)
    (hE : ∀ c a w, a.defers = a0.defers → E c w → Q (.panic c) a w) (hr : i ∈ Region.ready .any ops listed) :
    wpOp P ops Q i (fun a' w' => Jn ops I G z B a0 (listed.setIfInBounds i true) a' w') a w := by
 obtain ⟨Aa, o, ho, Ab⟩ := mem_ready.1 hr
 obtain ⟨h1, h2, h3, h4⟩ := oG hok ho
 have Ac : i < ops.size := (Array.getElem?_eq_some_iff.1 ho).1
 have hf : listed.getD i false = false := by
  have : i < listed.size := by rw [hJ.lsz]; exact Ac
  simpa [this] using Aa
 have hd := hstep i o ho a.eval w (listed.getD z false) (fun _ => rfl) (fun _ => rfl) (fun e => by rw [← e]; exact hf) hJ.inv (by
  intro s hs
  rcases huse i o ho s hs with hb | ⟨j, hj⟩
  · exact hJ.base s hb
  · obtain ⟨e, he, e1, e2⟩ := h3 s hs j hj
    have := Ab e he e2
    rw [e1] at this
    exact hJ.got j s hj (by simpa using this))
 unfold wpOp
 simp only [ho]
 have hw : Region.wanted o (yielded ops a.tmps) = true := by unfold Region.wanted; rw [h1]
 rw [if_pos hw]
 refine .inl ?_
 unfold Oper.wp
 unfold lC at hd
 generalize (execOp a.eval o).run P w = r at hd ⊢
 have fin : ∀ v w', (T w w' ∧ I (listed.getD z false || decide (i = z)) w' ∧ ∀ d, o.dst = some d → G d w' v) → Jn ops I G z B a0 (listed.setIfInBounds i true) (a.put o.dst v) w' :=
  fun v w' h => hJ.put hok ho Aa hB hG h.1 h.2.1 h.2.2
 cases r with
 | ok n w' =>
  cases n <;> simp only [Oper.upon] at hd ⊢
  case value v => exact fin v w' hd
  case skip => exact fin _ w' hd
  case enter f args =>
   refine Calls.mono hd fun e w'' he => ?_
   cases e with
   | returned v => exact fin v w'' he
   | panicked c => exact hE _ _ _ hJ.defers he
   | outgrown => exact he.elim
  all_goals exact hd.elim
 | halt x w' => exact hd.elim
def left (listed : Array Bool) : Nat := ((List.range listed.size).filter fun i => !listed.getD i true).length
theorem tw {listed : Array Bool} {i : Nat} (h : listed.getD i true = false) : left (listed.setIfInBounds i true) < left listed := by
 have Aa : i < listed.size := by
  by_cases hl : i < listed.size
  · exact hl
  · simp [hl] at h
 unfold left
 rw [Array.size_setIfInBounds]
 have hp : ∀ j, (!(listed.setIfInBounds i true).getD j true) = (!listed.getD j true && !decide (j = i)) := by
  intro j
  by_cases hj : j = i
  · subst hj; rw [mQ _ _ _ _ Aa]; simp
  · rw [kH _ _ _ _ _ (Ne.symm hj)]; simp [hj]
 simp only [hp]
 rw [show (fun j => !listed.getD j true && !decide (j = i)) = (fun j => (!decide (j = i)) && !listed.getD j true) from funext fun j => Bool.and_comm _ _, ← List.filter_filter]
 refine List.length_filter_lt_length_iff_exists.2 ⟨i, ?_, by simp⟩
 exact List.mem_filter.2 ⟨List.mem_range.2 Aa, by rw [h]; rfl⟩
theorem ph {listed : Array Bool} {n : Nat} (hok : nR ops n = true) (hsz : listed.size = ops.size) (h : Region.ready .any ops listed = []) : ∀ i, i < ops.size → listed.getD i false = true := by
 intro i
 induction i using Nat.strongRecOn with
 | _ i ih =>
  intro hi
  apply Classical.byContradiction
  intro hn
  have ho : ops[i]? = some ops[i] := by simp [hi]
  obtain ⟨-, h2, -, -⟩ := oG hok ho
  have hr : i ∈ Region.ready .any ops listed := mem_ready.2 ⟨by simpa [hsz, hi] using hn, ops[i], ho, fun e he _ => by
   have := ih e.on (h2 e he) (by have := h2 e he; omega)
   simpa using this⟩
  rw [h] at hr
  cases hr
theorem xU {B : List Nat} {a0 : Act} (hok : nR ops a0.tmps.size = true)
    (hB : ∀ s ∈ B, ∀ j, gT ops j ≠ some s) (huse : ∀ (j : Nat) (o : Oper), ops[j]? = some o → ∀ s ∈ jA o, s ∈ B ∨ ∃ j, gT ops j = some s) (hG : ∀ s w w' v, T w w' → G s w v → G s w' v) (hstep : ∀ (i : Nat) (o : Oper), ops[i]? = some o → kK P E T I G z i o)
    (hE : ∀ c a w, a.defers = a0.defers → E c w → Q (.panic c) a w)
    (hend : ∀ listed a w, Jn ops I G z B a0 listed a w → (∀ i, i < ops.size → listed.getD i false = true) → Q .normal a w) :
    ∀ fuel listed a w, left listed ≤ fuel → Jn ops I G z B a0 listed a w → wpAny P .any ops Q fuel listed a w := by
 intro fuel
 induction fuel with
 | zero =>
  intro listed a w hf hJ
  have hr : Region.ready .any ops listed = [] := by
   apply Classical.byContradiction
   intro hn
   obtain ⟨i, hi⟩ := List.exists_mem_of_ne_nil _ hn
   have := tw (mem_ready.1 hi).1
   omega
  exact ⟨hr, hend _ _ _ hJ (ph hok hJ.lsz hr)⟩
 | succ fuel ih =>
  intro listed a w hf hJ
  refine ⟨fun hr => hend _ _ _ hJ (ph hok hJ.lsz hr), fun i hi => ?_⟩
  refine wpOp_mono (fun a' w' h' => ih _ a' w' ?_ h') (hJ.step hok hB huse hG hstep hE hi)
  have := tw (mem_ready.1 hi).1
  omega
theorem gE {id : Nat} {B : List Nat} {a : Act} {w : World} (E : List PanicEntry → World → Prop) (T : World → World → Prop) (I : Bool → World → Prop) (G : Nat → World → Value → Prop) (z : Nat) (hm : P.follows .mixedOrders = true) (hok : nR ops a.tmps.size = true)
    (hB : ∀ s ∈ B, ∀ j, gT ops j ≠ some s) (huse : ∀ (j : Nat) (o : Oper), ops[j]? = some o → ∀ s ∈ jA o, s ∈ B ∨ ∃ j, gT ops j = some s) (hG : ∀ s w w' v, T w w' → G s w v → G s w' v)
    (hI : I false { w with drawn := w.drawn + 1 }) (hb : ∀ s ∈ B, G s { w with drawn := w.drawn + 1 } (a.tmps.getD s undef))
    (hstep : ∀ (i : Nat) (o : Oper), ops[i]? = some o → kK P E T I G z i o)
    (hE : ∀ c a' w, a'.defers = a.defers → E c w → Q (.panic c) a' w)
    (hend : ∀ a' w', a'.tmps.size = a.tmps.size → a'.defers = a.defers → I (decide (z < ops.size)) w' → (∀ s, (∀ j, gT ops j ≠ some s) → a'.tmps.getD s undef = a.tmps.getD s undef) → (∀ j d, gT ops j = some d → G d w' (a'.tmps.getD d undef)) → Q .normal a' w') :
    (Code.region id ops true).wp P Q a w := by
 refine wp_region_any hm (xU (a0 := a) (B := B) (I := I) (z := z) hok hB huse hG hstep hE (fun listed a' w' hJ hall => hend a' w' hJ.size hJ.defers ?_ hJ.old fun j d hd => hJ.got j d hd (hall j ?_)) ops.size _ a _ ?_ ⟨rfl, rfl, by simp, ?_, hb, fun j d hd hl => ?_, fun s hs => rfl⟩)
 · have := hJ.inv
   by_cases hz : z < ops.size
   · rw [hall z hz] at this
     simpa [hz] using this
   · have he : listed.getD z false = false := by simp [hJ.lsz, hz]
     rw [he] at this
     simpa [hz] using this
 · unfold gT at hd
   by_cases hl : j < ops.size
   · exact hl
   · rw [Array.getElem?_eq_none (by omega)] at hd; cases hd
 · unfold left
   refine Nat.le_trans (List.length_filter_le _ _) ?_
   simp
 · by_cases hz : z < ops.size
   · simpa [hz] using hI
   · simpa [hz] using hI
 · exfalso
   by_cases hz : j < ops.size
   · simp [hz] at hl
   · simp [hz] at hl
end
end Go.Proofs.YtbpphlmakmeoaaaGreatDoor.Sy
namespace Go.Proofs.YtbpphlmakmeoaaaGreatDoor.Sy
open Go.RowKit
def Tells (m : Told) (w : World) (v : Value) : Prop :=
 ∃ (k : Nat) (caps : Array Value), v = .func (.func k) #[] caps ∧ (∀ args w', (callFunc k args).run Tryz.prog w' = .ok (.enter k args) w') ∧ ∀ (R : Nat) (told : ee) (w' : World), Keeps w w' → Wr R told w' → Calls Tryz.prog k (#[.pointer (some ⟨R, 0, none⟩)] ++ caps) w' (EndsW R told m w')
theorem Tells.keep {m : Told} {w w' : World} {v : Value} (h : Tells m w v) (hk : Keeps w w') : Tells m w' v := by
 obtain ⟨k, Aa, e, hf, hc⟩ := h
 exact ⟨k, Aa, e, hf, fun R told w2 h2 hW => hc R told w2 (hk.trans h2) hW⟩
def K9 (w : World) (m : Told) (xs : List Value) : Prop := ∃ x, xs = [x] ∧ Tells m w x
abbrev Parts (w : World) (ms : List Told) (v : Value) : Prop := Rows (fun _ => True) 86 1 K9 w ms v
theorem Parts.keep {w w' : World} {ms : List Told} {v : Value} (h : Parts w ms v) (hk : Keeps w w') : Parts w' ms v :=
 Rows.keep (T := [86]) h (Kp.of_keeps hk (by decide) (by decide)) (by decide) fun _ _ h => by
  obtain ⟨x, h1, h2⟩ := h
  exact ⟨x, h1, h2.keep hk⟩
theorem gA (a b c : Told) : Told.app (Told.app a b) c = Told.app a (Told.app b c) := by
 cases a <;> cases b <;> cases c <;> simp [Told.app]
theorem j1 (a : Told) : Told.app a (some []) = a := by cases a <;> simp [Told.app]
theorem iG (a : Told) : Told.app (some []) a = a := by cases a <;> simp [Told.app]
theorem EndsW.some {R : Nat} {told bs : ee} {m : Told} {w : World} {w' : World} (hm : m = .some bs) (hW : Wr R (told ++ bs) w') (hk : Kw R w w') : EndsW R told m w (.returned (.tuple #[])) w' := by
 subst hm; exact ⟨rfl, hW, hk⟩
theorem EndsW.none {R : Nat} {told : ee} {m : Told} {w : World} {w' : World} (hm : m = .none) (hk : Kw R w w') : EndsW R told m w (.panicked [{ v := .iface 33 (.int .i64 52), recovered := false }]) w' := by
 subst hm; exact ⟨rfl, hk⟩
theorem EndsW.split {R : Nat} {told : ee} {m : Told} {w : World} {e : Ending} {w' : World} (h : EndsW R told m w e w') :
    (∃ bs, m = .some bs ∧ e = .returned (.tuple #[]) ∧ Wr R (told ++ bs) w' ∧ Kw R w w') ∨ (m = .none ∧ e = .panicked [{ v := .iface 33 (.int .i64 52), recovered := false }] ∧ Kw R w w') := by
 cases m with
 | none => exact .inr ⟨rfl, h.1, h.2⟩
 | some bs => exact .inl ⟨bs, rfl, h.1, h.2.1, h.2.2⟩
theorem iC {ms : List Told} {k : Nat} {m : Told} (h : ms[k]? = some m) : ez (ms.drop k) = Told.app m (ez (ms.drop (k + 1))) := by
 have hl := (List.getElem?_eq_some_iff.1 h).1
 have he : ms[k] = m := (List.getElem?_eq_some_iff.1 h).2
 rw [List.drop_eq_getElem_cons hl, he]
 rfl
theorem gW (R : Nat) (told : ee) (w : World) (h : Wr R told w) (ms : List Told) (pv : Value) (hp : Parts w ms pv) (hl : ms.length ≤ 1000000000) :
    Calls Tryz.prog 68 #[.pointer (some ⟨R, 0, none⟩), pv] w (EndsW R told (ez ms) w) := by
 have HP := ec hp
 have HW := ec h
 obtain ⟨pa, pc, rfl⟩ := ed hp
 clear hp h
 go_enter Tryz.func68, Tryz.ntmps68
 go_wp2_with fail
 go_loopw [8] (fun x wr => ∃ (k : Nat) (Aa : ee), k ≤ ms.length ∧ x = .int .i64 k ∧ Hid (Wr R (told ++ Aa) wr) ∧ Hid (Kw R w wr) ∧ Hid (ez ms = Told.app (some Aa) (ez (ms.drop k)))) (fun x _ => ms.length - (intOf x).toNat)
 case atStart => exact ⟨0, [], by omega, rfl, ec (by simpa using HW.out), ec (Kw.refl R w), ec (by rw [iG]; rfl)⟩
 case round =>
  obtain ⟨k, Aa, hk, rfl, HR, HK, HO⟩ := hrel
  by_cases hlt : k < ms.length
  · obtain ⟨m, hm⟩ : ∃ t, ms[k]? = some t := ⟨ms[k], by simp [hlt]⟩
    obtain ⟨ga, xa, ya, e1, _, h1, h2⟩ := (HP.out.keep HK.out.keeps).at hm
    simp only [Value.slice.injEq] at e1
    obtain ⟨rfl, _, rfl⟩ := e1
    obtain ⟨x, rfl, f, Ad, rfl, hf, hc⟩ := h1
    have a0 : wr.cell? ⟨ga, k, none⟩ = some (.func (.func f) #[] Ad) := by have := h2 0 _ rfl; simpa using this
    have C := ec (hc R (told ++ Aa) wr (Keeps.refl _) HR.out)
    have HM := ec hm
    clear h2 hc hm
    go_wp2_with fail
    refine C.out.mono ?_
    intro e w2 he
    rcases he.split with ⟨bs, hm, rfl, Ac, Ab⟩ | ⟨hm, rfl, Ab⟩
    · have Af := ec Ac
      have Ae := ec (HK.out.trans Ab)
      have Ag : Hid (ez ms = Told.app (some (Aa ++ bs)) (ez (ms.drop (k + 1)))) := ec (by
       rw [HO.out, iC HM.out, hm, ← gA]
       rfl)
      clear he Ac Ab hm C HR HK HO
      go_wp2_with fail
      go_roundw
      case rel => exact ⟨k + 1, Aa ++ bs, by omega, by go_num, by rw [← List.append_assoc]; exact Af, Ae, Ag⟩
      case measure => simp [intOf]; omega
    · exact ⟨rfl, EndsW.none (by rw [HO.out, iC HM.out, hm]; rfl) (HK.out.trans Ab)⟩
  · go_wp2_with fail
    go_end0
    have e : ms.drop k = [] := List.drop_eq_nil_iff.2 (by omega)
    refine EndsW.some (bs := Aa) ?_ HR.out HK.out
    rw [HO.out, e]
    show some (Aa ++ []) = _
    simp
end Go.Proofs.YtbpphlmakmeoaaaGreatDoor.Sy
namespace Go.Proofs.YtbpphlmakmeoaaaGreatDoor.Sy
open Go.RowKit
theorem fA {P : Program} {f : FuncId} {fn : Func} (hf : P.funcs[f]? = some fn) (hn : (fn.name == "runtime.NumGoroutine") = false) (hb : fn.body.isNone = false) : ∀ args w, (callFunc f args).run P w = .ok (.enter f args) w := by
 intro args w
 have h1 : ¬ fn.name = "runtime.NumGoroutine" := by simpa using hn
 have h2 : ¬ fn.body = none := by
  intro e
  rw [e] at hb
  cases hb
 simp [callFunc, hf, h1, h2]
theorem fv {w : World} {q T : Nat} {a0 : Value} (h : w.heap[q]? = some (.cells #[a0] T (0, 0))) : w.cell? ⟨q, 0, none⟩ = some a0 := cell_of_row w q 0 _ T _ h
def fp (m : Told) (w : World) (e : Ending) (w' : World) : Prop := ∃ v, e = .returned v ∧ Tells m w' v ∧ Below w.heap.size w w'
theorem xB (R : Nat) (told : ee) (w : World) (h : Wr R told w) (ms : List Told) (pv : Value) (b : Nat) (hb : w.heap[b]? = some (.cells #[pv] 208 (0, 0))) (hp : Parts w ms pv) (hl : ms.length ≤ 1000000000) :
    Calls Tryz.prog 131 #[.pointer (some ⟨R, 0, none⟩), .pointer (some ⟨b, 0, none⟩)] w (EndsW R told (ez ms) w) := by
 have C := ec (gW R told w h ms pv hp hl)
 have c0 := fv hb
 obtain ⟨pa, pc, rfl⟩ := ed hp
 clear hb hp h
 go_enter Tryz.func131, Tryz.ntmps131
 go_wp2_with fail
 refine C.out.mono ?_
 intro e w2 he
 rcases he.split with ⟨bs, hm, rfl, Ab, Aa⟩ | ⟨hm, rfl, Aa⟩
 · have HF := ec he
   clear he Ab Aa C
   go_wp2_with fail
   go_end0
   exact HF.out
 · exact ⟨rfl, he⟩
theorem hM (w : World) (ms : List Told) (pv : Value) (hp : Parts w ms pv) (hl : ms.length ≤ 1000000000) : Calls Tryz.prog 70 #[pv] w (fp (ez ms) w) := by
 have HP := ec hp
 obtain ⟨pa, pc, rfl⟩ := ed hp
 have HB : Hid (Below w.heap.size w (w.alloc (.cells #[.slice pa ms.length pc] 208))) := ec ((Below.refl _ _).alloc (Nat.le_refl _) _)
 have HN := ec (heap_alloc_new w (.cells #[.slice pa ms.length pc] 208))
 clear hp
 go_enter Tryz.func70, Tryz.ntmps70
 go_wp2_with fail
 go_ret
 refine ⟨_, rfl, ⟨_, _, rfl, fA Tryz.func131 (by kernel_rfl) (by kernel_rfl), fun R told w2 hk hW => ?_⟩, HB.out⟩
 exact xB R told w2 hW ms _ w.heap.size (hk _ _ _ _ HN.out (by decide) (by decide)) (HP.out.keep ((Keeps.of_below HB.out).trans hk)) hl
theorem uf (R : Nat) (told : ee) (w : World) (h : Wr R told w) (l : List ee) (sv : Value) (b : Nat) (hb : w.heap[b]? = some (.cells #[sv] 22 (0, 0))) (hp : Strs (fun _ => True) w l sv) (hl : l.length ≤ 1000000000) (hs : ∀ x ∈ l, x.length ≤ 140737488355328) :
    Calls Tryz.prog 133 #[.pointer (some ⟨R, 0, none⟩), .pointer (some ⟨b, 0, none⟩)] w (EndsW R told (eX l) w) := by
 have c0 := fv hb
 have HP := ec hp
 have HW := ec h
 have HS := ec hs
 obtain ⟨pa, pc, rfl⟩ := ed hp
 clear hb hp h hs
 go_enter Tryz.func133, Tryz.ntmps133
 go_wp2_with fail
 go_loopw [7] (fun x wr => ∃ (k : Nat), k ≤ l.length ∧ x = .int .i64 k ∧ Hid (Wr R (told ++ (l.take k).flatten) wr) ∧ Hid (Kw R w wr)) (fun x _ => l.length - (intOf x).toNat)
 case atStart => exact ⟨0, by omega, rfl, ec (by simpa using HW.out), ec (Kw.refl R w)⟩
 case round =>
  obtain ⟨k, hk, rfl, HR, HK⟩ := hrel
  by_cases hlt : k < l.length
  · obtain ⟨t, ht⟩ : ∃ t, l[k]? = some t := ⟨l[k], by simp [hlt]⟩
    obtain ⟨ga, xa, ya, e1, _, h1, h2⟩ := Rows.at (Strs.keep (T := [9]) HP.out (Kp.of_keeps HK.out.keeps (by decide) (by decide)) (by decide)) ht
    simp only [Value.slice.injEq] at e1
    obtain ⟨rfl, _, rfl⟩ := e1
    unfold cS at h1
    subst h1
    have a0 : wr.cell? ⟨ga, k, none⟩ = some (.string ⟨t.toArray⟩) := by have := h2 0 _ rfl; simpa using this
    have C := ec (ln R (told ++ (l.take k).flatten) t wr HR.out (HS.out t (List.mem_of_getElem? ht)))
    have HT : Hid ((l.take (k + 1)).flatten = (l.take k).flatten ++ t) := ec (by
     rw [List.take_add_one, ht]
     simp)
    clear h2 ht
    go_wp2_with fail
    refine C.out.mono ?_
    rintro e w2 ⟨rfl, Aa, Ab⟩
    have Ad := ec Aa
    have Ac := ec (HK.out.trans Ab)
    clear Aa Ab C HR HK
    go_wp2_with fail
    go_roundw
    case rel => exact ⟨k + 1, by omega, by go_num, by rw [HT.out, ← List.append_assoc]; exact Ad, Ac⟩
    case measure => simp [intOf]; omega
  · go_wp2_with fail
    go_end0
    refine EndsW.some (bs := l.flatten) rfl ?_ HK.out
    have e : l.take k = l := List.take_of_length_le (by omega)
    have := HR.out
    rwa [e] at this
theorem iV (w : World) (l : List ee) (sv : Value) (hp : Strs (fun _ => True) w l sv) (hl : l.length ≤ 1000000000) (hs : ∀ x ∈ l, x.length ≤ 140737488355328) : Calls Tryz.prog 73 #[sv] w (fp (eX l) w) := by
 have HP := ec hp
 have HS := ec hs
 obtain ⟨pa, pc, rfl⟩ := ed hp
 have HB : Hid (Below w.heap.size w (w.alloc (.cells #[.slice pa l.length pc] 22))) := ec ((Below.refl _ _).alloc (Nat.le_refl _) _)
 have HN := ec (heap_alloc_new w (.cells #[.slice pa l.length pc] 22))
 clear hp hs
 go_enter Tryz.func73, Tryz.ntmps73
 go_wp2_with fail
 go_ret
 refine ⟨_, rfl, ⟨_, _, rfl, fA Tryz.func133 (by kernel_rfl) (by kernel_rfl), fun R told w2 hk hW => ?_⟩, HB.out⟩
 exact uf R told w2 hW l _ w.heap.size (hk _ _ _ _ HN.out (by decide) (by decide)) (HP.out.keep (T := [9]) (Kp.of_keeps ((Keeps.of_below HB.out).trans hk) (by decide) (by decide)) (by decide)) hl HS.out
end Go.Proofs.YtbpphlmakmeoaaaGreatDoor.Sy
namespace Go.Proofs.YtbpphlmakmeoaaaGreatDoor.Sy
open Go.RowKit
noncomputable def XP : Px where
 money m := if (Mo.printM m).2 = 0 then some (strOfNums (Mo.printM m).1).data.toList else none
 day d := if (Ca.printP d).2 = 0 then some (Ca.printP d).1.data.toList else none
 int n := if n < 0 then none else some (Lib.itoa n)
theorem tj {α : Type} {e : Nat} {c : World → α → List Value → Prop} {w : World} {l : List α} {vs : List Value} (hl : vs.length = l.length) (hm : vs.length ≤ maxLen)
    (hc : ∀ (i : Nat) (a : α), l[i]? = some a → ∃ v, vs[i]? = some v ∧ c (w.alloc (.cells vs.toArray e)) a [v]) : Rows (fun _ => True) e 1 c (w.alloc (.cells vs.toArray e)) l (.slice (some ⟨w.heap.size, 0, none⟩) vs.length vs.length) := by
 refine ⟨vs, ⟨⟨by omega, .inr ⟨w.heap.size, vs.length, vs.toArray, by rw [hl], Nat.zero_le _, heap_alloc_new w _, by omega, hm, by simp, ?_⟩⟩, fun _ _ => trivial⟩, fun i a hi => ?_⟩
 · rw [← hl]; simp
 · obtain ⟨v, hv, h⟩ := hc i a hi
   have : (vs.drop (i * 1)).take 1 = [v] := by
    rw [Nat.mul_one]
    have Aa := (List.getElem?_eq_some_iff.1 hv).1
    rw [List.drop_eq_getElem_cons Aa, (List.getElem?_eq_some_iff.1 hv).2]
    rfl
   rw [this]
   exact h
theorem fh (w : World) (l : List ee) (hm : l.length ≤ maxLen) : Strs (fun _ => True) (w.alloc (.cells (l.map fun x => Value.string ⟨x.toArray⟩).toArray 9)) l (.slice (some ⟨w.heap.size, 0, none⟩) l.length l.length) := by
 have := tj (e := 9) (c := cS) (w := w) (l := l) (vs := l.map fun x => Value.string ⟨x.toArray⟩) (by simp) (by simpa using hm) (fun i a hi => ⟨_, by rw [List.getElem?_map, hi]; rfl, rfl⟩)
 simpa using this
theorem rE (w : World) (ms : List Told) (vs : List Value) (hl : vs.length = ms.length) (hm : vs.length ≤ maxLen) (hc : ∀ (i : Nat) (m : Told), ms[i]? = some m → ∃ v, vs[i]? = some v ∧ Tells m w v) : Parts (w.alloc (.cells vs.toArray 86)) ms (.slice (some ⟨w.heap.size, 0, none⟩) vs.length vs.length) :=
 tj hl hm fun i a hi => by
  obtain ⟨v, h1, h2⟩ := hc i a hi
  exact ⟨v, h1, v, rfl, h2.keep (Keeps.of_below ((Below.refl _ _).alloc (Nat.le_refl _) _))⟩
theorem ip (w : World) (m : Told) (v : Value) (h : Tells m w v) : Parts (w.alloc (.cells #[v] 86)) [m] (.slice (some ⟨w.heap.size, 0, none⟩) 1 1) :=
 rE w [m] [v] rfl (by unfold maxLen; simp) (by
  intro i x hi
  match i with
  | 0 => simp at hi; subst hi; exact ⟨v, rfl, h⟩
  | i + 1 => simp at hi)
theorem iJ (m : Told) : ez [m] = m := j1 m
theorem jr (w : World) : Calls Tryz.prog 174 #[] w fun e w' => e = .panicked [{ v := .iface 33 (.int .i64 52), recovered := false }] ∧ w' = w := by
 go_enter Tryz.func174, Tryz.ntmps174
 go_wp2_with fail
 exact eg rfl ⟨rfl, rfl⟩
theorem vC (R : Nat) (told : ee) (w : World) (h : Wr R told w) (b : Bool) (m : Told) (v : Value) (b1 b2 : Nat) (h1 : w.heap[b1]? = some (.cells #[.bool b] 4 (0, 0))) (h2 : w.heap[b2]? = some (.cells #[v] 86 (0, 0))) (hv : Tells m w v) :
    Calls Tryz.prog 132 #[.pointer (some ⟨R, 0, none⟩), .pointer (some ⟨b1, 0, none⟩), .pointer (some ⟨b2, 0, none⟩)] w (EndsW R told (ey b m) w) := by
 have c1 := fv h1
 have c2 := fv h2
 have HW := ec h
 have HV := ec hv
 clear h1 h2 h
 cases b with
 | false =>
  go_enter Tryz.func132, Tryz.ntmps132
  go_wp2_with fail
  go_end0
  exact EndsW.some (bs := []) rfl (by simpa using HW.out) (Kw.refl _ _)
 | true =>
  have hB : Below w.heap.size w (w.alloc (.cells #[v] 86)) := (Below.refl _ _).alloc (Nat.le_refl _) _
  have C := ec (gW R told _ (HW.out.below hB) [m] _ (ip w m v HV.out) (by simp))
  rw [iJ] at C
  have HB := ec hB
  obtain ⟨k, Ad, rfl, _, _⟩ := hv
  clear hB
  go_enter Tryz.func132, Tryz.ntmps132
  go_wp2_with fail
  refine C.out.mono ?_
  intro e w2 he
  have Ab := Kw.of_below HB.out (Nat.le_of_lt HW.out.lt)
  rcases he.split with ⟨bs, hm, rfl, Ac, Aa⟩ | ⟨hm, rfl, Aa⟩
  · have HF : Hid (EndsW R told (ey true m) w (.returned (.tuple #[])) w2) := ec (EndsW.some hm Ac (Ab.trans Aa))
    clear he Ac Aa C Ab
    go_wp2_with fail
    go_end0
    exact HF.out
  · exact ⟨rfl, EndsW.none hm (Ab.trans Aa)⟩
end Go.Proofs.YtbpphlmakmeoaaaGreatDoor.Sy
namespace Go.Proofs.YtbpphlmakmeoaaaGreatDoor.Sy
open Go.RowKit
theorem gL (w : World) (o0 o1 : Obj) : ((w.alloc o0).alloc o1).heap[w.heap.size]? = some o0 ∧ ((w.alloc o0).alloc o1).heap[w.heap.size + 1]? = some o1 := by
 have h := heap_alloc_new (w.alloc o0) o1
 have e : (w.alloc o0).heap.size = w.heap.size + 1 := by simp
 rw [e] at h
 exact ⟨(heap_alloc_old (w.alloc o0) o1 (by rw [e]; omega)).trans (heap_alloc_new w o0), h⟩
theorem str_list (b : ByteArray) : b = ⟨b.data.toList.toArray⟩ := by cases b; simp
theorem str_len (b : ByteArray) : b.data.toList.length = b.size := Array.length_toList
theorem uH (R : Nat) (told : ee) (b : ByteArray) (hb : b.size ≤ 1000) (w : World) (h : Wr R told w) : Calls Tryz.prog 134 #[.pointer (some ⟨R, 0, none⟩), .string b] w (EndsW R told (some b.data.toList) w) := by
 have := ln R told b.data.toList w h (by rw [str_len]; omega)
 rwa [← str_list b] at this
theorem iw (w : World) (b : Bool) (m : Told) (v : Value) (hv : Tells m w v) : Calls Tryz.prog 71 #[.bool b, v] w (fp (ey b m) w) := by
 have HV := ec hv
 obtain ⟨k, Aa, rfl, _, _⟩ := hv
 have Ac : Hid (Below w.heap.size w ((w.alloc (.cells #[.bool b] 4)).alloc (.cells #[.func (.func k) #[] Aa] 86))) := ec (((Below.refl _ _).alloc (Nat.le_refl _) _).alloc (by simp) _)
 have Ab := ec (gL w (.cells #[.bool b] 4) (.cells #[.func (.func k) #[] Aa] 86))
 go_enter Tryz.func71, Tryz.ntmps71
 go_wp2_with fail
 go_ret
 refine ⟨_, rfl, ⟨_, _, rfl, fA Tryz.func132 (by kernel_rfl) (by kernel_rfl), fun R told w2 hk hW => ?_⟩, Ac.out⟩
 have Af := hk _ _ _ _ Ab.out.1 (by decide) (by decide)
 have Ae := hk _ _ _ _ Ab.out.2 (by decide) (by decide)
 have Ad := (Keeps.of_below Ac.out).trans hk
 exact vC R told w2 hW b m _ _ _ Af Ae (HV.out.keep Ad)
theorem px (R : Nat) (told : ee) (w : World) (h : Wr R told w) (n : Int) (hn0 : -9223372036854775808 ≤ n) (hn1 : n ≤ 9223372036854775807) (l : List ee) (sv : Value) (b1 b2 : Nat) (h1 : w.heap[b1]? = some (.cells #[.int .i64 n] 125 (0, 0))) (h2 : w.heap[b2]? = some (.cells #[sv] 22 (0, 0))) (hp : Strs (fun _ => True) w l sv) (hl : l.length ≤ 1000000000) (hs : ∀ x ∈ l, x.length ≤ 140737488355328) :
    Calls Tryz.prog 201 #[.pointer (some ⟨R, 0, none⟩), .pointer (some ⟨b1, 0, none⟩), .pointer (some ⟨b2, 0, none⟩)] w (EndsW R told (eY n l) w) := by
 have c1 := fv h1
 have c2 := fv h2
 have HW := ec h
 have HP := ec hp
 have HS := ec hs
 have CG := ec (jr w)
 obtain ⟨pa, pc, rfl⟩ := ed hp
 clear h1 h2 h hp hs
 by_cases hn : n < 1
 · have HM : Hid (eY n l = none) := ec (if_pos hn)
   go_enter Tryz.func201, Tryz.ntmps201
   go_wp2_with fail
   refine CG.out.mono ?_
   rintro e w1 ⟨rfl, rfl⟩
   exact eg rfl (EndsW.none HM.out (Kw.refl _ _))
 · by_cases hm : (l.length : Int) < n
   · have HM : Hid (eY n l = none) := ec (by unfold eY; rw [if_neg hn]; exact List.getElem?_eq_none (by omega))
     go_enter Tryz.func201, Tryz.ntmps201
     go_wp2_with fail
     refine CG.out.mono ?_
     rintro e w1 ⟨rfl, rfl⟩
     exact eg rfl (EndsW.none HM.out (Kw.refl _ _))
   · obtain ⟨k, rfl⟩ : ∃ k : Nat, n = (k : Int) + 1 := ⟨(n - 1).toNat, by omega⟩
     obtain ⟨t, ht⟩ : ∃ t, l[k]? = some t := ⟨l[k]'(by omega), by simp⟩
     have Ac := (List.getElem?_eq_some_iff.1 ht).1
     have HM : Hid (eY ((k : Int) + 1) l = some t) := ec (by unfold eY; rw [if_neg hn, show ((k : Int) + 1 - 1).toNat = k by omega]; exact ht)
     obtain ⟨ga, xa, ya, e1, _, h1, h2⟩ := Rows.at HP.out ht
     simp only [Value.slice.injEq] at e1
     obtain ⟨rfl, _, rfl⟩ := e1
     unfold cS at h1
     subst h1
     have a0 : w.cell? ⟨ga, k, none⟩ = some (.string ⟨t.toArray⟩) := by have := h2 0 _ rfl; simpa using this
     have C := ec (ln R told t w HW.out (HS.out t (List.mem_of_getElem? ht)))
     have e0 : (k : Int) + 1 - 1 = k := by omega
     clear h2 ht
     go_enter Tryz.func201, Tryz.ntmps201
     go_wp2_with fail
     refine C.out.mono ?_
     rintro e w2 ⟨rfl, Aa, Ab⟩
     have HF : Hid (EndsW R told (eY ((k : Int) + 1) l) w (.returned (.tuple #[])) w2) := ec (EndsW.some HM.out Aa Ab)
     clear Aa Ab C
     go_wp2_with fail
     go_end0
     exact HF.out
theorem sx (w : World) (n : Int) (hn0 : -9223372036854775808 ≤ n) (hn1 : n ≤ 9223372036854775807) (l : List ee) (sv : Value) (hp : Strs (fun _ => True) w l sv) (hl : l.length ≤ 1000000000) (hs : ∀ x ∈ l, x.length ≤ 140737488355328) : Calls Tryz.prog 138 #[.int .i64 n, sv] w (fp (eY n l) w) := by
 have HP := ec hp
 have HS := ec hs
 obtain ⟨pa, pc, rfl⟩ := ed hp
 clear hp hs
 have Ab : Hid (Below w.heap.size w ((w.alloc (.cells #[.int .i64 n] 125)).alloc (.cells #[.slice pa l.length pc] 22))) := ec (((Below.refl _ _).alloc (Nat.le_refl _) _).alloc (by simp) _)
 have Aa := ec (gL w (.cells #[.int .i64 n] 125) (.cells #[.slice pa l.length pc] 22))
 go_enter Tryz.func138, Tryz.ntmps138
 go_wp2_with fail
 go_ret
 refine ⟨_, rfl, ⟨_, _, rfl, fA Tryz.func201 (by kernel_rfl) (by kernel_rfl), fun R told w2 hk hW => ?_⟩, Ab.out⟩
 have Ae := hk _ _ _ _ Aa.out.1 (by decide) (by decide)
 have Ad := hk _ _ _ _ Aa.out.2 (by decide) (by decide)
 have Ac := (Keeps.of_below Ab.out).trans hk
 exact px R told w2 hW n hn0 hn1 l _ _ _ Ae Ad (Strs.keep (T := [9]) HP.out (Kp.of_keeps Ac (by decide) (by decide)) (by decide)) hl HS.out
theorem oF (R : Nat) (told : ee) (w : World) (h : Wr R told w) (n : Int) (hn0 : -9223372036854775808 ≤ n) (hn1 : n ≤ 9223372036854775807) (l : List ee) (sv : Value) (b1 b2 : Nat) (h1 : w.heap[b1]? = some (.cells #[.int .i64 n] 44 (0, 0))) (h2 : w.heap[b2]? = some (.cells #[sv] 22 (0, 0))) (hp : Strs (fun _ => True) w l sv) (hl : l.length ≤ 1000000000) (hs : ∀ x ∈ l, x.length ≤ 140737488355328) :
    Calls Tryz.prog 211 #[.pointer (some ⟨R, 0, none⟩), .pointer (some ⟨b1, 0, none⟩), .pointer (some ⟨b2, 0, none⟩)] w (EndsW R told (eY n l) w) := by
 have c1 := fv h1
 have c2 := fv h2
 have HW := ec h
 have HP := ec hp
 have HS := ec hs
 have CG := ec (jr w)
 obtain ⟨pa, pc, rfl⟩ := ed hp
 clear h1 h2 h hp hs
 by_cases hn : n < 1
 · have HM : Hid (eY n l = none) := ec (if_pos hn)
   go_enter Tryz.func211, Tryz.ntmps211
   go_wp2_with fail
   refine CG.out.mono ?_
   rintro e w1 ⟨rfl, rfl⟩
   exact eg rfl (EndsW.none HM.out (Kw.refl _ _))
 · by_cases hm : (l.length : Int) < n
   · have HM : Hid (eY n l = none) := ec (by unfold eY; rw [if_neg hn]; exact List.getElem?_eq_none (by omega))
     go_enter Tryz.func211, Tryz.ntmps211
     go_wp2_with fail
     refine CG.out.mono ?_
     rintro e w1 ⟨rfl, rfl⟩
     exact eg rfl (EndsW.none HM.out (Kw.refl _ _))
   · obtain ⟨k, rfl⟩ : ∃ k : Nat, n = (k : Int) + 1 := ⟨(n - 1).toNat, by omega⟩
     obtain ⟨t, ht⟩ : ∃ t, l[k]? = some t := ⟨l[k]'(by omega), by simp⟩
     have Ac := (List.getElem?_eq_some_iff.1 ht).1
     have HM : Hid (eY ((k : Int) + 1) l = some t) := ec (by unfold eY; rw [if_neg hn, show ((k : Int) + 1 - 1).toNat = k by omega]; exact ht)
     obtain ⟨ga, xa, ya, e1, _, h1, h2⟩ := Rows.at HP.out ht
     simp only [Value.slice.injEq] at e1
     obtain ⟨rfl, _, rfl⟩ := e1
     unfold cS at h1
     subst h1
     have a0 : w.cell? ⟨ga, k, none⟩ = some (.string ⟨t.toArray⟩) := by have := h2 0 _ rfl; simpa using this
     have C := ec (ln R told t w HW.out (HS.out t (List.mem_of_getElem? ht)))
     have e0 : (k : Int) + 1 - 1 = k := by omega
     clear h2 ht
     go_enter Tryz.func211, Tryz.ntmps211
     go_wp2_with fail
     refine C.out.mono ?_
     rintro e w2 ⟨rfl, Aa, Ab⟩
     have HF : Hid (EndsW R told (eY ((k : Int) + 1) l) w (.returned (.tuple #[])) w2) := ec (EndsW.some HM.out Aa Ab)
     clear Aa Ab C
     go_wp2_with fail
     go_end0
     exact HF.out
theorem rj (w : World) (n : Int) (hn0 : -9223372036854775808 ≤ n) (hn1 : n ≤ 9223372036854775807) (l : List ee) (sv : Value) (hp : Strs (fun _ => True) w l sv) (hl : l.length ≤ 1000000000) (hs : ∀ x ∈ l, x.length ≤ 140737488355328) : Calls Tryz.prog 150 #[.int .i64 n, sv] w (fp (eY n l) w) := by
 have HP := ec hp
 have HS := ec hs
 obtain ⟨pa, pc, rfl⟩ := ed hp
 clear hp hs
 have Ab : Hid (Below w.heap.size w ((w.alloc (.cells #[.int .i64 n] 44)).alloc (.cells #[.slice pa l.length pc] 22))) := ec (((Below.refl _ _).alloc (Nat.le_refl _) _).alloc (by simp) _)
 have Aa := ec (gL w (.cells #[.int .i64 n] 44) (.cells #[.slice pa l.length pc] 22))
 go_enter Tryz.func150, Tryz.ntmps150
 go_wp2_with fail
 go_ret
 refine ⟨_, rfl, ⟨_, _, rfl, fA Tryz.func211 (by kernel_rfl) (by kernel_rfl), fun R told w2 hk hW => ?_⟩, Ab.out⟩
 have Ae := hk _ _ _ _ Aa.out.1 (by decide) (by decide)
 have Ad := hk _ _ _ _ Aa.out.2 (by decide) (by decide)
 have Ac := (Keeps.of_below Ab.out).trans hk
 exact oF R told w2 hW n hn0 hn1 l _ _ _ Ae Ad (Strs.keep (T := [9]) HP.out (Kp.of_keeps Ac (by decide) (by decide)) (by decide)) hl HS.out
theorem su (R : Nat) (told : ee) (w : World) (h : Wr R told w) (n : Int) (hn0 : -9223372036854775808 ≤ n) (hn1 : n ≤ 9223372036854775807) (l : List ee) (sv : Value) (b1 b2 : Nat) (h1 : w.heap[b1]? = some (.cells #[.int .i64 n] 51 (0, 0))) (h2 : w.heap[b2]? = some (.cells #[sv] 22 (0, 0))) (hp : Strs (fun _ => True) w l sv) (hl : l.length ≤ 1000000000) (hs : ∀ x ∈ l, x.length ≤ 140737488355328) :
    Calls Tryz.prog 285 #[.pointer (some ⟨R, 0, none⟩), .pointer (some ⟨b1, 0, none⟩), .pointer (some ⟨b2, 0, none⟩)] w (EndsW R told (eY n l) w) := by
 have c1 := fv h1
 have c2 := fv h2
 have HW := ec h
 have HP := ec hp
 have HS := ec hs
 have CG := ec (jr w)
 obtain ⟨pa, pc, rfl⟩ := ed hp
 clear h1 h2 h hp hs
 by_cases hn : n < 1
 · have HM : Hid (eY n l = none) := ec (if_pos hn)
   go_enter Tryz.func285, Tryz.ntmps285
   go_wp2_with fail
   refine CG.out.mono ?_
   rintro e w1 ⟨rfl, rfl⟩
   exact eg rfl (EndsW.none HM.out (Kw.refl _ _))
 · by_cases hm : (l.length : Int) < n
   · have HM : Hid (eY n l = none) := ec (by unfold eY; rw [if_neg hn]; exact List.getElem?_eq_none (by omega))
     go_enter Tryz.func285, Tryz.ntmps285
     go_wp2_with fail
     refine CG.out.mono ?_
     rintro e w1 ⟨rfl, rfl⟩
     exact eg rfl (EndsW.none HM.out (Kw.refl _ _))
   · obtain ⟨k, rfl⟩ : ∃ k : Nat, n = (k : Int) + 1 := ⟨(n - 1).toNat, by omega⟩
     obtain ⟨t, ht⟩ : ∃ t, l[k]? = some t := ⟨l[k]'(by omega), by simp⟩
     have Ac := (List.getElem?_eq_some_iff.1 ht).1
     have HM : Hid (eY ((k : Int) + 1) l = some t) := ec (by unfold eY; rw [if_neg hn, show ((k : Int) + 1 - 1).toNat = k by omega]; exact ht)
     obtain ⟨ga, xa, ya, e1, _, h1, h2⟩ := Rows.at HP.out ht
     simp only [Value.slice.injEq] at e1
     obtain ⟨rfl, _, rfl⟩ := e1
     unfold cS at h1
     subst h1
     have a0 : w.cell? ⟨ga, k, none⟩ = some (.string ⟨t.toArray⟩) := by have := h2 0 _ rfl; simpa using this
     have C := ec (ln R told t w HW.out (HS.out t (List.mem_of_getElem? ht)))
     have e0 : (k : Int) + 1 - 1 = k := by omega
     clear h2 ht
     go_enter Tryz.func285, Tryz.ntmps285
     go_wp2_with fail
     refine C.out.mono ?_
     rintro e w2 ⟨rfl, Aa, Ab⟩
     have HF : Hid (EndsW R told (eY ((k : Int) + 1) l) w (.returned (.tuple #[])) w2) := ec (EndsW.some HM.out Aa Ab)
     clear Aa Ab C
     go_wp2_with fail
     go_end0
     exact HF.out
theorem um (w : World) (n : Int) (hn0 : -9223372036854775808 ≤ n) (hn1 : n ≤ 9223372036854775807) (l : List ee) (sv : Value) (hp : Strs (fun _ => True) w l sv) (hl : l.length ≤ 1000000000) (hs : ∀ x ∈ l, x.length ≤ 140737488355328) : Calls Tryz.prog 226 #[.int .i64 n, sv] w (fp (eY n l) w) := by
 have HP := ec hp
 have HS := ec hs
 obtain ⟨pa, pc, rfl⟩ := ed hp
 clear hp hs
 have Ab : Hid (Below w.heap.size w ((w.alloc (.cells #[.int .i64 n] 51)).alloc (.cells #[.slice pa l.length pc] 22))) := ec (((Below.refl _ _).alloc (Nat.le_refl _) _).alloc (by simp) _)
 have Aa := ec (gL w (.cells #[.int .i64 n] 51) (.cells #[.slice pa l.length pc] 22))
 go_enter Tryz.func226, Tryz.ntmps226
 go_wp2_with fail
 go_ret
 refine ⟨_, rfl, ⟨_, _, rfl, fA Tryz.func285 (by kernel_rfl) (by kernel_rfl), fun R told w2 hk hW => ?_⟩, Ab.out⟩
 have Ae := hk _ _ _ _ Aa.out.1 (by decide) (by decide)
 have Ad := hk _ _ _ _ Aa.out.2 (by decide) (by decide)
 have Ac := (Keeps.of_below Ab.out).trans hk
 exact su R told w2 hW n hn0 hn1 l _ _ _ Ae Ad (Strs.keep (T := [9]) HP.out (Kp.of_keeps Ac (by decide) (by decide)) (by decide)) hl HS.out
theorem se (R : Nat) (told : ee) (w : World) (h : Wr R told w) (n : Int) (hn0 : -9223372036854775808 ≤ n) (hn1 : n ≤ 9223372036854775807) (b1 : Nat) (h1 : w.heap[b1]? = some (.cells #[.int .i64 n] 2 (0, 0))) :
    Calls Tryz.prog 206 #[.pointer (some ⟨R, 0, none⟩), .pointer (some ⟨b1, 0, none⟩)] w (EndsW R told (XP.int n) w) := by
 have c1 := fv h1
 have HW := ec h
 clear h1 h
 by_cases hn : n < 0
 · have HM : Hid (XP.int n = none) := ec (if_pos hn)
   have CG := ec (jr w)
   go_enter Tryz.func206, Tryz.ntmps206
   go_wp2_with fail
   refine CG.out.mono ?_
   rintro e w1 ⟨rfl, rfl⟩
   exact eg rfl (EndsW.none HM.out (Kw.refl _ _))
 · have HM : Hid (XP.int n = some (Lib.itoa n)) := ec (if_neg hn)
   have CF := ec (Tryz.strconv_FormatInt_10 n hn0 hn1 w HW.out.tab)
   have HL := ec (Lib.itoa_length_le n hn0 hn1)
   go_enter Tryz.func206, Tryz.ntmps206
   go_wp2_with fail
   refine CF.out.mono ?_
   rintro e w1 ⟨rfl, k, os, Ab⟩
   have hB : Below w.heap.size w w1 := by rw [Ab]; exact Mo.below_grow _ w k os (Nat.le_refl _)
   have C := ec (ln R told (Lib.itoa n) w1 (HW.out.below hB) (by have := HL.out; omega))
   have HK := ec (Kw.of_below hB (Nat.le_of_lt HW.out.lt))
   clear Ab hB CF
   go_wp2_with fail
   refine C.out.mono ?_
   rintro e w2 ⟨rfl, Aa, Ac⟩
   have HF : Hid (EndsW R told (XP.int n) w (.returned (.tuple #[])) w2) := ec (EndsW.some HM.out Aa (HK.out.trans Ac))
   clear Aa Ac C
   go_wp2_with fail
   go_end0
   exact HF.out
theorem nY (w : World) (n : Int) (hn0 : -9223372036854775808 ≤ n) (hn1 : n ≤ 9223372036854775807) : Calls Tryz.prog 146 #[.int .i64 n] w (fp (XP.int n) w) := by
 have Aa : Hid (Below w.heap.size w (w.alloc (.cells #[.int .i64 n] 2))) := ec ((Below.refl _ _).alloc (Nat.le_refl _) _)
 have Ab := ec (heap_alloc_new w (.cells #[.int .i64 n] 2))
 go_enter Tryz.func146, Tryz.ntmps146
 go_wp2_with fail
 go_ret
 refine ⟨_, rfl, ⟨_, _, rfl, fA Tryz.func206 (by kernel_rfl) (by kernel_rfl), fun R told w2 hk hW => ?_⟩, Aa.out⟩
 have Ac := hk _ _ _ _ Ab.out (by decide) (by decide)
 have Ad := (Keeps.of_below Aa.out).trans hk
 exact se R told w2 hW n hn0 hn1 _ Ac
theorem nJ (l : List Int) : (strOfNums l).size = l.length := by simp [strOfNums, ByteArray.size]
theorem vz (n : Int) : (strOfNums (Mo.printM n).1).size ≤ 1000 := by
 rw [nJ]
 unfold Mo.printM
 split
 · unfold Mo.textM Mo.centsB
   have h1 := Mo.decD_len 20 (-n / 100)
   have h2 := Mo.decD_len 20 (n / 100)
   split <;> split <;> simp <;> omega
 · simp
theorem xX (n : Int) : (Ca.printP n).1.size ≤ 1000 := by
 unfold Ca.printP
 split
 · rw [nJ]; simp [Ca.dateB]
 · simp [ByteArray.size]
def mh (n : Int) : ByteArray × Int := (strOfNums (Mo.printM n).1, (Mo.printM n).2)
theorem tf (R : Nat) (told : ee) (w : World) (h : Wr R told w) (n : Int) (b1 : Nat) (h1 : w.heap[b1]? = some (.cells #[.int .i64 n] 45 (0, 0))) :
    Calls Tryz.prog 203 #[.pointer (some ⟨R, 0, none⟩), .pointer (some ⟨b1, 0, none⟩)] w (EndsW R told (XP.money n) w) := by
 have c1 := fv h1
 have HW := ec h
 have CP : Hid (Calls Tryz.prog 204 #[.int .i64 n] w fun e w' => e = .returned (.tuple #[.string (mh n).1, .int .i64 (mh n).2]) ∧ Below w.heap.size w w') := ec (Mo.print_any n w HW.out.tab)
 have HL : Hid ((mh n).1.size ≤ 1000) := ec (vz n)
 have HX : Hid (XP.money n = if (mh n).2 = 0 then some (mh n).1.data.toList else none) := ec rfl
 generalize (mh n) = q at CP HL HX
 obtain ⟨q1, q2⟩ := q
 simp only at CP HL HX
 have CS := ec (uH R told q1 HL.out)
 clear h1 h
 by_cases hq : q2 = 0
 · subst hq
   go_enter Tryz.func203, Tryz.ntmps203
   go_wp2_with fail
   refine CP.out.mono ?_
   rintro e w1 ⟨rfl, hB⟩
   have HK := ec (Kw.of_below hB (Nat.le_of_lt HW.out.lt))
   have C := ec (CS.out w1 (HW.out.below hB))
   clear hB CP
   go_wp2_with fail
   refine C.out.mono ?_
   rintro e w2 ⟨rfl, Aa, Ab⟩
   have HF : Hid (EndsW R told (XP.money n) w (.returned (.tuple #[])) w2) := ec (EndsW.some (by rw [HX.out]; simp) Aa (HK.out.trans Ab))
   clear Aa Ab C
   go_wp2_with fail
   go_end0
   exact HF.out
 · go_enter Tryz.func203, Tryz.ntmps203
   go_wp2_with fail
   refine CP.out.mono ?_
   rintro e w1 ⟨rfl, hB⟩
   have HK := ec (Kw.of_below (R := R) hB (Nat.le_of_lt HW.out.lt))
   have CG := ec (jr w1)
   clear hB CP
   go_wp2_with fail
   refine CG.out.mono ?_
   rintro e w2 ⟨rfl, rfl⟩
   exact eg rfl (EndsW.none (by rw [HX.out, if_neg hq]) HK.out)
theorem lk (w : World) (n : Int) : Calls Tryz.prog 142 #[.int .i64 n] w (fp (XP.money n) w) := by
 have Aa : Hid (Below w.heap.size w (w.alloc (.cells #[.int .i64 n] 45))) := ec ((Below.refl _ _).alloc (Nat.le_refl _) _)
 have Ab := ec (heap_alloc_new w (.cells #[.int .i64 n] 45))
 go_enter Tryz.func142, Tryz.ntmps142
 go_wp2_with fail
 go_ret
 refine ⟨_, rfl, ⟨_, _, rfl, fA Tryz.func203 (by kernel_rfl) (by kernel_rfl), fun R told w2 hk hW => ?_⟩, Aa.out⟩
 have Ac := hk _ _ _ _ Ab.out (by decide) (by decide)
 have Ad := (Keeps.of_below Aa.out).trans hk
 exact tf R told w2 hW n _ Ac
theorem xS (R : Nat) (told : ee) (w : World) (h : Wr R told w) (n : Int) (b1 : Nat) (h1 : w.heap[b1]? = some (.cells #[.int .i64 n] 42 (0, 0))) :
    Calls Tryz.prog 208 #[.pointer (some ⟨R, 0, none⟩), .pointer (some ⟨b1, 0, none⟩)] w (EndsW R told (XP.day n) w) := by
 have c1 := fv h1
 have HW := ec h
 have CP : Hid (Calls Tryz.prog 209 #[.int .i64 n] w fun e w' => e = .returned (.tuple #[.string (Ca.printP n).1, .int .i64 (Ca.printP n).2]) ∧ Below w.heap.size w w') := ec (Ca.print_any n w)
 have HL : Hid ((Ca.printP n).1.size ≤ 1000) := ec (xX n)
 have HX : Hid (XP.day n = if (Ca.printP n).2 = 0 then some (Ca.printP n).1.data.toList else none) := ec rfl
 generalize (Ca.printP n) = q at CP HL HX
 obtain ⟨q1, q2⟩ := q
 simp only at CP HL HX
 have CS := ec (uH R told q1 HL.out)
 clear h1 h
 by_cases hq : q2 = 0
 · subst hq
   go_enter Tryz.func208, Tryz.ntmps208
   go_wp2_with fail
   refine CP.out.mono ?_
   rintro e w1 ⟨rfl, hB⟩
   have HK := ec (Kw.of_below hB (Nat.le_of_lt HW.out.lt))
   have C := ec (CS.out w1 (HW.out.below hB))
   clear hB CP
   go_wp2_with fail
   refine C.out.mono ?_
   rintro e w2 ⟨rfl, Aa, Ab⟩
   have HF : Hid (EndsW R told (XP.day n) w (.returned (.tuple #[])) w2) := ec (EndsW.some (by rw [HX.out]; simp) Aa (HK.out.trans Ab))
   clear Aa Ab C
   go_wp2_with fail
   go_end0
   exact HF.out
 · go_enter Tryz.func208, Tryz.ntmps208
   go_wp2_with fail
   refine CP.out.mono ?_
   rintro e w1 ⟨rfl, hB⟩
   have HK := ec (Kw.of_below (R := R) hB (Nat.le_of_lt HW.out.lt))
   have CG := ec (jr w1)
   clear hB CP
   go_wp2_with fail
   refine CG.out.mono ?_
   rintro e w2 ⟨rfl, rfl⟩
   exact eg rfl (EndsW.none (by rw [HX.out, if_neg hq]) HK.out)
theorem ur (w : World) (n : Int) : Calls Tryz.prog 148 #[.int .i64 n] w (fp (XP.day n) w) := by
 have Aa : Hid (Below w.heap.size w (w.alloc (.cells #[.int .i64 n] 42))) := ec ((Below.refl _ _).alloc (Nat.le_refl _) _)
 have Ab := ec (heap_alloc_new w (.cells #[.int .i64 n] 42))
 go_enter Tryz.func148, Tryz.ntmps148
 go_wp2_with fail
 go_ret
 refine ⟨_, rfl, ⟨_, _, rfl, fA Tryz.func208 (by kernel_rfl) (by kernel_rfl), fun R told w2 hk hW => ?_⟩, Aa.out⟩
 have Ac := hk _ _ _ _ Ab.out (by decide) (by decide)
 have Ad := (Keeps.of_below Aa.out).trans hk
 exact xS R told w2 hW n _ Ac
end Go.Proofs.YtbpphlmakmeoaaaGreatDoor.Sy
