import Derived.Test.YtbpphlmakmeoaaaGreatDoorScanAll
import Derived.Test.YtbpphlmakmeoaaaGreatDoorMoves
import Derived.Defers
import Derived.BigQuiet
import Derived.Deep.RegionWith
import Derived.Deep.QuietTactic
import Derived.Laws.Strings
import Derived.KernelRfl
import Derived.Test.YtbpphlmakmeoaaaGreatDoorCa
import Derived.Test.YtbpphlmakmeoaaaGreatDoorMo
import Derived.Test.YtbpphlmakmeoaaaGreatDoorShelf
import Derived.Lib.AtoiErrMem
set_option maxRecDepth 100000
set_option maxHeartbeats 1600000
namespace Go.Proofs.YtbpphlmakmeoaaaGreatDoor.Sy
open Go.RowKit
structure St9 where
 title : Value
 kinds : Value
 members : Value
 preds : Value
 classes : Value
 sources : Value
 rules : Value
 excepts : Value
 totals : Value
def sK (tv : Value) (N : Nat) (s : RS) (st : St9) : Array Value :=
 #[tv, .int .i64 s.n, .int .i64 N, .bool s.full, .bool s.minus, st.title, st.kinds, st.members, st.preds, st.classes, st.sources, st.rules, st.excepts, st.totals]
def kt (L : List fw) : fQ := L.map fun t => (t.kind, t.text)
def TokRow (R : Nat) (w : World) (a : Option Addr) (L : List fw) : Prop :=
 ∀ j t, L[j]? = some t → ∃ b, a = some ⟨b, 0, none⟩ ∧ b < R ∧ w.cell? ⟨b, j * 3, none⟩ = some (.int .i64 t.kind) ∧ w.cell? ⟨b, j * 3 + 1, none⟩ = some (.string ⟨t.text.toArray⟩) ∧ w.cell? ⟨b, j * 3 + 2, none⟩ = some (.int .i64 t.place)
def Vars (R : Nat) (w : World) : Prop :=
 ∃ e1 e2, w.cell? ⟨2, 0, none⟩ = some e1 ∧ w.cell? ⟨3, 0, none⟩ = some e2 ∧ 3 < R ∧ (e1 = .nilIface ∨ ∃ t p, e1 = .iface t p) ∧ (e2 = .nilIface ∨ ∃ t p, e2 = .iface t p)
structure Rd (R : Nat) (L : List fw) (N : Nat) (s : RS) (st : St9) (w : World) : Prop where
 lt : R < w.heap.size
 nle : s.n ≤ L.length
 Lle : L.length ≤ 65536
 Nle : N ≤ 65536
 blk : ∃ a c, w.heap[R]? = some (.cells (sK (.slice a L.length c) N s st) 122 (0, 0)) ∧ TokRow R w a L
 vars : Vars R w
 tle : ∀ t ∈ L, t.text.length ≤ 65536
structure Fq (R : Nat) (w w' : World) : Prop where
 os : w'.os = w.os
 tape : w'.tape = w.tape
 output : w'.output = w.output
 size : w.heap.size ≤ w'.heap.size
 block : ∀ k, k < w.heap.size → k ≠ R → w'.heap[k]? = w.heap[k]?
theorem Fq.refl (R : Nat) (w : World) : Fq R w w := ⟨rfl, rfl, rfl, Nat.le_refl _, fun _ _ _ => rfl⟩
theorem Fq.trans {R : Nat} {a b c : World} (h : Fq R a b) (k : Fq R b c) : Fq R a c :=
 ⟨k.os.trans h.os, k.tape.trans h.tape, k.output.trans h.output, Nat.le_trans h.size k.size, fun i hi hn => (k.block i (Nat.lt_of_lt_of_le hi h.size) hn).trans (h.block i hi hn)⟩
theorem Fq.set {R : Nat} {a w : World} (h : Fq R a w) (i : Nat) (v : Value) : Fq R a (w.setCell ⟨R, i, none⟩ v) :=
 ⟨h.os, h.tape, h.output, by simpa using h.size, fun k hk hn => (heap_setCell_other w ⟨R, i, none⟩ k v hn).trans (h.block k hk hn)⟩
theorem Fq.of_below {R : Nat} {w w' : World} (h : Below w.heap.size w w') : Fq R w w' :=
 ⟨h.os, h.tape, h.output, h.size, fun k hk _ => h.block k hk⟩
theorem Fq.drewN {R : Nat} {w : World} (q : Nat) : Fq R w (w.drewN q) := .of_below (eJ w q)
theorem Vars.keep {R : Nat} {w w' : World} (h : Vars R w) (hb : ∀ k, k < R → w'.heap[k]? = w.heap[k]?) : Vars R w' := by
 obtain ⟨e1, e2, h1, h2, h3, h4⟩ := h
 exact ⟨e1, e2, (World.cell?_of_block (hb 2 (by omega))).trans h1, (World.cell?_of_block (hb 3 (by omega))).trans h2, h3, h4⟩
theorem TokRow.keep {R : Nat} {w w' : World} {a : Option Addr} {L : List fw} (h : TokRow R w a L) (hb : ∀ k, k < R → w'.heap[k]? = w.heap[k]?) : TokRow R w' a L := by
 intro j t hj
 obtain ⟨b, ha, Aa, h1, h2, h3⟩ := h j t hj
 exact ⟨b, ha, Aa, (World.cell?_of_block (hb b Aa)).trans h1, (World.cell?_of_block (hb b Aa)).trans h2, (World.cell?_of_block (hb b Aa)).trans h3⟩
section
variable {R : Nat} {L : List fw} {N : Nat} {s : RS} {st : St9} {w w' : World}
theorem Rd.keep (h : Rd R L N s st w) (hs : w.heap.size ≤ w'.heap.size) (hb : ∀ k, k ≤ R → w'.heap[k]? = w.heap[k]?) : Rd R L N s st w' := by
 obtain ⟨h1, h2, h3, h4, ⟨a, c, h5, h6⟩, h7, h8⟩ := h
 exact ⟨by omega, h2, h3, h4, ⟨a, c, (hb R (Nat.le_refl _)).trans h5, h6.keep fun k hk => hb k (by omega)⟩, h7.keep fun k hk => hb k (by omega), h8⟩
theorem Rd.below (h : Rd R L N s st w) (hb : Below w.heap.size w w') : Rd R L N s st w' :=
 h.keep hb.size fun k hk => hb.block k (by have := h.lt; omega)
theorem Rd.drewN (h : Rd R L N s st w) (q : Nat) : Rd R L N s st (w.drewN q) := h.below (eJ w q)
theorem Rd.put (h : Rd R L N s st w) (s' : RS) (st' : St9) (i : Nat) (v : Value) (hn : s'.n ≤ L.length)
    (hv : ∀ tv, (sK tv N s st).setIfInBounds i v = sK tv N s' st') : Rd R L N s' st' (w.setCell ⟨R, i, none⟩ v) := by
 obtain ⟨h1, h2, h3, h4, ⟨a, c, h5, h6⟩, h7, h8⟩ := h
 have hk : ∀ k, k < R → (w.setCell ⟨R, i, none⟩ v).heap[k]? = w.heap[k]? := fun k hk => heap_setCell_other w ⟨R, i, none⟩ k v (by show k ≠ R; omega)
 exact ⟨by simpa using h1, hn, h3, h4, ⟨a, c, by rw [heap_setCell_same w R i _ 122 v h5, hv], h6.keep hk⟩, h7.keep hk, h8⟩
theorem Rd.setN (h : Rd R L N s st w) (n : Nat) (hn : n ≤ L.length) : Rd R L N { s with n := n } st (w.setCell ⟨R, 1, none⟩ (.int .i64 n)) := h.put _ _ 1 _ hn fun _ => rfl
theorem Rd.setFull (h : Rd R L N s st w) (b : Bool) : Rd R L N { s with full := b } st (w.setCell ⟨R, 3, none⟩ (.bool b)) := h.put _ _ 3 _ h.nle fun _ => rfl
theorem Rd.setMinus (h : Rd R L N s st w) (b : Bool) : Rd R L N { s with minus := b } st (w.setCell ⟨R, 4, none⟩ (.bool b)) := h.put _ _ 4 _ h.nle fun _ => rfl
theorem Rd.frz (h : Rd R L N s st w) (i : Nat) : w.frozen? ⟨R, i, none⟩ = false := by
 obtain ⟨a, c, hb, _⟩ := h.blk
 exact frozen_of_row w R i _ 122 hb
theorem Rd.c1 (h : Rd R L N s st w) : w.cell? ⟨R, 1, none⟩ = some (.int .i64 s.n) := by obtain ⟨a, c, hb, _⟩ := h.blk; rw [cell_of_row w R 1 _ 122 _ hb]; rfl
theorem Rd.c2 (h : Rd R L N s st w) : w.cell? ⟨R, 2, none⟩ = some (.int .i64 N) := by obtain ⟨a, c, hb, _⟩ := h.blk; rw [cell_of_row w R 2 _ 122 _ hb]; rfl
theorem Rd.c3 (h : Rd R L N s st w) : w.cell? ⟨R, 3, none⟩ = some (.bool s.full) := by obtain ⟨a, c, hb, _⟩ := h.blk; rw [cell_of_row w R 3 _ 122 _ hb]; rfl
theorem Rd.c4 (h : Rd R L N s st w) : w.cell? ⟨R, 4, none⟩ = some (.bool s.minus) := by obtain ⟨a, c, hb, _⟩ := h.blk; rw [cell_of_row w R 4 _ 122 _ hb]; rfl
end
end Go.Proofs.YtbpphlmakmeoaaaGreatDoor.Sy
namespace Go.Proofs.YtbpphlmakmeoaaaGreatDoor.Sy
open Go.RowKit
def eI (L : List fw) (N i : Nat) : Nat := match L[i]? with
 | some t => t.place
 | none => N
theorem zy {L : List fw} {i : Nat} {t : fw} (h : L[i]? = some t) : kd (kt L) i = t.kind ∧ tx (kt L) i = t.text := by
 unfold kd tx kt
 simp [h]
theorem xx {L : List fw} {i : Nat} (h : L.length ≤ i) : kd (kt L) i = 0 ∧ tx (kt L) i = [] := by
 unfold kd tx kt
 simp [h]
theorem fm (R : Nat) (L : List fw) (N : Nat) (s : RS) (st : St9) (w : World) (h : Rd R L N s st w) (i : Nat) (hi : i ≤ 1) :
    Calls Tryz.prog 178 #[.pointer (some ⟨R, 0, none⟩), .int .i64 i] w fun e w' =>
     e = .returned (.agg #[.int .i64 (kd (kt L) (s.n + i)), .string ⟨(tx (kt L) (s.n + i)).toArray⟩, .int .i64 (eI L N (s.n + i))]) ∧ Below w.heap.size w w' := by
 have c1 := h.c1
 have c2 := h.c2
 have hn := h.nle
 have hL := h.Lle
 have Aa := h.lt
 obtain ⟨a, c, hb, ht⟩ := h.blk
 have c0 : w.cell? ⟨R, 0, none⟩ = some (.slice a L.length c) := by rw [cell_of_row w R 0 _ 122 _ hb]; rfl
 have HT := ec ht
 clear ht hb h
 by_cases hj : s.n + i < L.length
 · obtain ⟨⟨k, x, p⟩, hx⟩ : ∃ t, L[s.n + i]? = some t := ⟨L[s.n + i], by simp [hj]⟩
   obtain ⟨b, rfl, Ac, t0, t1, t2⟩ := HT.out _ _ hx
   have hk := zy hx
   have hp : eI L N (s.n + i) = p := by unfold eI; rw [hx]
   rw [hk.1, hk.2, hp]
   clear hk hp hx HT
   simp only at t0 t1 t2
   have Ab : b < w.heap.size := by omega
   have o := fun (a : Addr) (ha : a.block < w.heap.size) => World.cell?_of_block (Go.heap_alloc_old w (.cells #[.int .i64 0, .string ⟨#[]⟩, .int .i64 0] 188) ha)
   have c0' := (o ⟨R, 0, none⟩ Aa).trans c0
   have c1' := (o ⟨R, 1, none⟩ Aa).trans c1
   have t0' := (o ⟨b, (s.n + i) * 3, none⟩ Ab).trans t0
   have t1' := (o ⟨b, (s.n + i) * 3 + 1, none⟩ Ab).trans t1
   have t2' := (o ⟨b, (s.n + i) * 3 + 2, none⟩ Ab).trans t2
   clear o c0 c1 c2 t0 t1 t2
   go_enter Tryz.func178, Tryz.ntmps178
   go_wp2_with fail
   go_quiet (fail)
   go_wp2_with fail
   have r0 : ((w.alloc (.cells #[.int .i64 0, .string ⟨#[]⟩, .int .i64 0] 188)).drewN nq).cell? ⟨w.heap.size, 0, none⟩ = some (.int .i64 0) := by simp [go_sem]
   have r1 : ((w.alloc (.cells #[.int .i64 0, .string ⟨#[]⟩, .int .i64 0] 188)).drewN nq).cell? ⟨w.heap.size, 1, none⟩ = some (.string ⟨#[]⟩) := by simp [go_sem]
   have r2 : ((w.alloc (.cells #[.int .i64 0, .string ⟨#[]⟩, .int .i64 0] 188)).drewN nq).cell? ⟨w.heap.size, 2, none⟩ = some (.int .i64 0) := by simp [go_sem]
   have fz : ∀ i, ((w.alloc (.cells #[.int .i64 0, .string ⟨#[]⟩, .int .i64 0] 188)).drewN nq).frozen? ⟨w.heap.size, i, none⟩ = false := fun i => frozen_of_row ((w.alloc (.cells #[.int .i64 0, .string ⟨#[]⟩, .int .i64 0] 188)).drewN nq) w.heap.size i _ 188 (heap_alloc_new w _)
   go_region
   go_wp2_with fail
   simp [bodyPost, results, Tryz.results178, go_sem]
   exact ((((((Below.refl _ w).alloc (Nat.le_refl _) _).trans ((eJ _ _).mono (by simp))).setCell (by simp) _).setCell (by simp) _).setCell (by simp) _)
 · have hk := xx (L := L) (i := s.n + i) (by omega)
   have hp : eI L N (s.n + i) = N := by unfold eI; rw [List.getElem?_eq_none (by omega)]
   rw [hk.1, hk.2, hp]
   clear hk hp HT
   have o := fun (a : Addr) (ha : a.block < w.heap.size) => World.cell?_of_block (Go.heap_alloc_old w (.cells #[.int .i64 0, .string ⟨#[]⟩, .int .i64 0] 188) ha)
   have c0' := (o ⟨R, 0, none⟩ Aa).trans c0
   have c1' := (o ⟨R, 1, none⟩ Aa).trans c1
   have c2' := (o ⟨R, 2, none⟩ Aa).trans c2
   clear o c0 c1 c2
   go_enter Tryz.func178, Tryz.ntmps178
   go_wp2_with fail
   go_quiet (fail)
   go_wp2_with fail
   simp [bodyPost, results, Tryz.results178, go_sem]
   exact ((((((Below.refl _ w).alloc (Nat.le_refl _) _).trans ((eJ _ _).mono (by simp))).setCell (by simp) _).setCell (by simp) _).setCell (by simp) _)
def Ends {α : Type} (R : Nat) (L : List fw) (N : Nat) (st : St9) (w : World) (rep : World → α → Value → Prop) (o : Out α) (e : Ending) (w' : World) : Prop :=
 match o with
 | .ok a t => ∃ v, e = .returned v ∧ rep w' a v ∧ Rd R L N t st w' ∧ Fq R w w'
 | .bad c n => e = .panicked [{ v := .iface 118 (.agg #[.int .i64 c, .int .i64 (eI L N n)]), recovered := false }] ∧ Fq R w w'
theorem Ends.split {α : Type} {R : Nat} {L : List fw} {N : Nat} {st : St9} {w : World} {rep : World → α → Value → Prop} {o : Out α} {e : Ending} {w' : World} (h : Ends R L N st w rep o e w') :
    (∃ a t v, o = .ok a t ∧ e = .returned v ∧ rep w' a v ∧ Rd R L N t st w' ∧ Fq R w w') ∨
    (∃ c n, o = .bad c n ∧ e = .panicked [{ v := .iface 118 (.agg #[.int .i64 c, .int .i64 (eI L N n)]), recovered := false }] ∧ Fq R w w') := by
 cases o with
 | ok a t => obtain ⟨v, h⟩ := h; exact .inl ⟨a, t, v, rfl, h⟩
 | bad c n => exact .inr ⟨c, n, rfl, h⟩
theorem Ends.of_ok {α : Type} {R : Nat} {L : List fw} {N : Nat} {st : St9} {w : World} {rep : World → α → Value → Prop} {o : Out α} {a : α} {t : RS} {v : Value} {w' : World} (ho : .ok a t = o) (hv : rep w' a v)
    (hR : Rd R L N t st w') (hF : Fq R w w') : Ends R L N st w rep o (.returned v) w' := by subst ho; exact ⟨v, rfl, hv, hR, hF⟩
theorem Ends.of_bad {α : Type} {R : Nat} {L : List fw} {N : Nat} {st : St9} {w : World} {rep : World → α → Value → Prop} {o : Out α} {c : Int} {n : Nat} {w' : World} (ho : .bad c n = o)
    (hF : Fq R w w') : Ends R L N st w rep o (.panicked [{ v := .iface 118 (.agg #[.int .i64 c, .int .i64 (eI L N n)]), recovered := false }]) w' := by subst ho; exact ⟨rfl, hF⟩
def nf (_ : World) (a : ee) (v : Value) : Prop := v = .string ⟨a.toArray⟩
def mK (_ : World) (a : Bool) (v : Value) : Prop := v = .bool a
def ti (_ : World) (a : Int) (v : Value) : Prop := v = .int .i64 a
def I0 (_ : World) (a : Nat) (v : Value) : Prop := v = .int .i64 a
def E1 (_ : World) (_ : Unit) (v : Value) : Prop := v = .tuple #[]
def bs (l : ee) : ByteArray := ⟨l.toArray⟩
theorem ws (a b c : Value) (w : World) : (Instr.field 188 (.agg #[a, b, c]) 0).run Tryz.prog w = .ok a w ∧ (Instr.field 188 (.agg #[a, b, c]) 1).run Tryz.prog w = .ok b w ∧ (Instr.field 188 (.agg #[a, b, c]) 2).run Tryz.prog w = .ok c w :=
 ⟨by kernel_rfl, by kernel_rfl, by kernel_rfl⟩
theorem oj (k p : Int) (tb mb : ByteArray) (w : World) :
    Calls Tryz.prog 240 #[.agg #[.int .i64 k, .string tb, .int .i64 p], .string mb] w fun e w' => e = .returned (.bool (decide (k = 6) && (tb.toList == mb.toList))) ∧ Below w.heap.size w w' := by
 go_enter Tryz.func240, Tryz.ntmps240
 by_cases hk : k = 6
 · subst hk
   go_wp2_with fail
   go_ret
   exact ⟨fO rfl, (Below.refl _ w).alloc (Nat.le_refl _) _⟩
 · go_wp2_with fail
   go_ret
   exact ⟨fO (by simp [hk]), (Below.refl _ w).alloc (Nat.le_refl _) _⟩
theorem uR (tb : ByteArray) (w : World) : Calls Tryz.prog 241 #[.string tb] w fun e w' => e = .returned (.bool (decide (tb.toList ∈ pu))) ∧ w' = w := by
 go_enter Tryz.func241, Tryz.ntmps241
 go_wp2
 all_goals go_ret
 all_goals refine ⟨fO ?_, rfl⟩
 all_goals simp_all [pu]
theorem eg {P : Program} {fn : Func} {R : Ending → World → Prop} {chain : List PanicEntry} {a : Act} {w : World} (hd : a.defers = []) (h : R (.panicked chain) w) : bodyPost P fn R (.panic chain) a w := ⟨hd, h⟩
theorem ej {α β : Type} {x : M α} {f : α → M β} {s u : RS} {a : α} {o : Out β} (h : (x >>= f) s = o) (hx : x s = .ok a u) : f a u = o := (hY hx).symm.trans h
theorem el {α β : Type} {x : M α} {f : α → M β} {s : RS} {c : Int} {n : Nat} {o : Out β} (h : (x >>= f) s = o) (hx : x s = .bad c n) : .bad c n = o := (th hx).symm.trans h
theorem gc {α β : Type} {q : RS → α} {f : α → M β} {s : RS} {o : Out β} (h : (gB q >>= f) s = o) : f (q s) s = o := h
theorem io {β : Type} {q : RS → RS} {f : Unit → M β} {s : RS} {o : Out β} (h : (mV q >>= f) s = o) : f () (q s) = o := h
theorem fs {α : Type} {A B : M α} {s : RS} {o : Out α} {c : Bool} (h : (if c = true then A else B) s = o) (hc : c = true) : A s = o := by rw [if_pos hc] at h; exact h
theorem fc {α : Type} {A B : M α} {s : RS} {o : Out α} {c : Bool} (h : (if c = true then A else B) s = o) (hc : c = false) : B s = o := by rw [if_neg (by simp [hc])] at h; exact h
section
variable (R : Nat) (L : List fw) (N : Nat) (s : RS) (st : St9) (w : World)
theorem fS (h : Rd R L N s st w) (c : Int) :
    Calls Tryz.prog 180 #[.pointer (some ⟨R, 0, none⟩), .int .i64 c] w fun e w' =>
     e = .panicked [{ v := .iface 118 (.agg #[.int .i64 c, .int .i64 (eI L N s.n)]), recovered := false }] ∧ Fq R w w' := by
 have CA := ec (fm R L N s st w h 0 (by omega))
 clear h
 rw [show s.n + 0 = s.n from rfl] at CA
 go_enter Tryz.func180, Tryz.ntmps180
 go_wp2_with fail
 refine CA.out.mono ?_
 rintro _ w1 ⟨rfl, hb⟩
 have HB := ec hb
 clear hb
 have f2 := fun a b c w => (ws a b c w).2.2
 go_wp2_with fail
 exact eg rfl ⟨rfl, .of_below HB.out⟩
theorem iK (h : Rd R L N s st w) (hn : s.n < L.length) (o : Out ee) (ho : gZ (kt L) s = o) :
    Calls Tryz.prog 179 #[.pointer (some ⟨R, 0, none⟩)] w (Ends R L N st w nf o) := by
 have c3 := h.c3
 have HO := ec ho
 have H := ec h
 clear h ho
 unfold gZ at HO
 cases hf : s.full with
 | true =>
  rw [hf] at c3
  have ho := HO.out
  rw [if_pos hf] at ho
  have HO := ec ho
  have CF := ec (fS R L N s st w H.out 3)
  clear ho hf
  go_enter Tryz.func179, Tryz.ntmps179
  go_wp2_with fail
  refine CF.out.mono ?_
  rintro _ w1 ⟨rfl, hF⟩
  exact eg rfl (.of_bad HO.out hF)
 | false =>
  rw [hf] at c3
  have ho := HO.out
  rw [if_neg (by simp [hf])] at ho
  have HO := ec ho
  have CA := ec (fm R L N s st w H.out 0 (by omega))
  rw [show s.n + 0 = s.n from rfl] at CA
  have hL := H.out.Lle
  clear ho hf
  go_enter Tryz.func179, Tryz.ntmps179
  go_wp2_with fail
  refine CA.out.mono ?_
  rintro _ w1 ⟨rfl, hb⟩
  have H1 := ec (H.out.below hb)
  have c1 := H1.out.c1
  have f1 := H1.out.frz 1
  have HB := ec hb
  clear hb CA
  have f2 := fun a b c w => (ws a b c w).2.1
  go_wp2_with fail
  go_ret
  have hS := H1.out.setN (s.n + 1) (by omega)
  rw [show ((s.n + 1 : Nat) : Int) = (s.n : Int) + 1 from by omega] at hS
  exact .of_ok HO.out rfl hS ((Fq.of_below HB.out).set 1 _)
theorem zN {K : fQ} {i : Nat} (h : kd K i ≠ 0) : i < K.length := by
 apply Classical.byContradiction
 intro h'
 apply h
 unfold kd
 rw [List.getElem?_eq_none (by omega)]
 rfl
theorem j9 {i k : Nat} (h : kd (kt L) i = k) (hk : k ≠ 0) : i < L.length := by
 have := zN (K := kt L) (i := i) (by omega)
 simpa [kt] using this
theorem ig (t : ee) (h : Rd R L N s st w) (o : Out Bool) (ho : iu (kt L) t s = o) :
    Calls Tryz.prog 181 #[.pointer (some ⟨R, 0, none⟩), .string ⟨t.toArray⟩] w (Ends R L N st w mK o) := by
 have HO := ec ho
 have H := ec h
 clear h ho
 have CA := ec (fm R L N s st w H.out 0 (by omega))
 rw [show s.n + 0 = s.n from rfl] at CA
 have ho := gc HO.out
 have CI := ec (oj (kd (kt L) s.n) (eI L N s.n) ⟨(tx (kt L) s.n).toArray⟩ ⟨t.toArray⟩)
 have HM : Hid ((decide (((kd (kt L) s.n : Nat) : Int) = 6) && ((⟨(tx (kt L) s.n).toArray⟩ : ByteArray).toList == (⟨t.toArray⟩ : ByteArray).toList)) = eT (kt L) s.n t) := by
  unfold Hid eT
  rw [ByteArray.toList_mk, ByteArray.toList_mk]
  rw [show (tx (kt L) s.n == t) = decide (tx (kt L) s.n = t) from Bool.eq_iff_iff.2 (by simp), show decide (((kd (kt L) s.n : Nat) : Int) = 6) = decide (kd (kt L) s.n = 6) from decide_eq_decide.2 (by omega)]
 rw [HM.out] at CI
 clear HO HM
 cases hm : eT (kt L) s.n t with
 | false =>
  rw [hm] at CI
  have HO := ec (fc ho hm)
  clear ho hm
  go_enter Tryz.func181, Tryz.ntmps181
  go_wp2_with fail
  refine CA.out.mono ?_
  rintro _ w1 ⟨rfl, hb⟩
  have HB := ec hb
  clear hb CA
  go_wp2_with fail
  refine (CI.out w1).mono ?_
  rintro _ w2 ⟨rfl, hb⟩
  have Aa := ec (HB.out.trans (hb.mono HB.out.size))
  clear hb CI HB
  go_wp2_with fail
  go_ret
  exact .of_ok HO.out rfl (H.out.below Aa.out) (.of_below Aa.out)
 | true =>
  rw [hm] at CI
  have HO := ec (fs ho hm)
  have Ab : s.n < L.length := j9 (L := L) (k := 6) (by unfold eT at hm; simp at hm; exact hm.1) (by omega)
  clear ho hm
  go_enter Tryz.func181, Tryz.ntmps181
  go_wp2_with fail
  refine CA.out.mono ?_
  rintro _ w1 ⟨rfl, hb⟩
  have HB := ec hb
  clear hb CA
  go_wp2_with fail
  refine (CI.out w1).mono ?_
  rintro _ w2 ⟨rfl, hb⟩
  have Aa := ec (HB.out.trans (hb.mono HB.out.size))
  clear hb CI HB
  have CT := ec (iK R L N s st w2 (H.out.below Aa.out) Ab _ rfl)
  go_wp2_with fail
  refine CT.out.mono ?_
  intro e w3 he
  rcases he.split with ⟨a, t, v, ho, rfl, hv, hR, hF⟩ | ⟨c, n, ho, rfl, hF⟩
  · have Ac := ec (ej HO.out ho)
    have hR := ec hR
    have hF := ec hF
    clear HO he hv ho CT
    go_wp2_with fail
    go_ret
    exact .of_ok Ac.out rfl hR.out ((Fq.of_below Aa.out).trans hF.out)
  · exact eg rfl (.of_bad (el HO.out ho) ((Fq.of_below Aa.out).trans hF))
end
end Go.Proofs.YtbpphlmakmeoaaaGreatDoor.Sy
namespace Go.Proofs.YtbpphlmakmeoaaaGreatDoor.Sy
open Go.RowKit
noncomputable def FN : j5 where
 day t := Ca.parseQ ⟨t.toArray⟩
 money t := Mo.parseM (Mo.strB ⟨t.toArray⟩)
 int t := match Lib.atoiAll t with
  | .ok v => some v
  | _ => none
 point t := decide (0 ≤ Lib.indexByte t 46)
 neg x := IntKind.i64.wrap (-x)
theorem ve {L : List fw} (h : ∀ t ∈ L, t.text.length ≤ 65536) (i : Nat) : (tx (kt L) i).length ≤ 65536 := by
 by_cases hi : i < L.length
 · rw [(zy (t := L[i]) (by simp [hi])).2]
   exact h _ (List.getElem_mem hi)
 · rw [(xx (by omega)).2]
   simp
section
variable (R : Nat) (L : List fw) (N : Nat) (s : RS) (st : St9) (w : World)
theorem gh (t : ee) (h : Rd R L N s st w) (o : Out Bool) (ho : hH (kt L) t s = o) :
    Calls Tryz.prog 126 #[.pointer (some ⟨R, 0, none⟩), .string ⟨t.toArray⟩] w (Ends R L N st w mK o) := by
 have HO := ec ho
 have H := ec h
 have F := ec (Fq.refl R w)
 clear h ho
 have CA := ec (fm R L N s st w H.out 0 (by omega))
 rw [show s.n + 0 = s.n from rfl] at CA
 have ho := gc HO.out
 have HW : Hid (nn (kt L) s.n t = (decide (kd (kt L) s.n = 1) && decide (tx (kt L) s.n = t))) := rfl
 clear HO
 by_cases hk : kd (kt L) s.n = 1
 · have Ae : s.n < L.length := j9 (L := L) hk (by omega)
   by_cases ht : tx (kt L) s.n = t
   · have HO := ec (fs ho (by rw [HW.out, hk, ht]; simp))
     rw [hk, ht] at CA
     clear ho hk ht HW
     go_enter Tryz.func126, Tryz.ntmps126
     go_wp2_with fail
     refine CA.out.mono ?_
     rintro _ w1 ⟨rfl, hb⟩
     have HB := ec (hb.alloc hb.size (.cells #[.int .i64 1, .string ⟨t.toArray⟩, .int .i64 (eI L N s.n)] 188))
     clear hb CA
     have H1 := ec (H.out.below HB.out)
     have F1 := ec (F.out.trans (Fq.of_below HB.out))
     clear H F HB
     have Aa := ec (iK R L N s st _ H1.out Ae _ rfl)
     go_wp2_with fail
     refine Aa.out.mono ?_
     intro e Ag he
     rcases he.split with ⟨Ai, s11, Ah, ho, rfl, Ab, hR, hF⟩ | ⟨c, m, ho, rfl, hF⟩
     rotate_left 1
     · exact eg rfl (.of_bad (el HO.out ho) (F1.out.trans hF))
     have Ac := ec (ej HO.out ho)
     have Ad := ec hR
     have Af := ec (F1.out.trans hF)
     clear he ho hR hF Aa H1 F1 HO
     cases Ab
     go_wp2_with fail
     go_ret
     exact .of_ok Ac.out rfl Ad.out Af.out
   · have HO := ec (fc ho (by rw [HW.out]; simp [ht]))
     rw [hk] at CA
     have ht' : (tx (kt L) s.n == t) = false := by simp [ht]
     clear ho hk ht HW
     go_enter Tryz.func126, Tryz.ntmps126
     go_wp2_with fail
     refine CA.out.mono ?_
     rintro _ w1 ⟨rfl, hb⟩
     have HB := ec (hb.alloc hb.size (.cells #[.int .i64 1, .string ⟨(tx (kt L) s.n).toArray⟩, .int .i64 (eI L N s.n)] 188))
     clear hb CA
     have H1 := ec (H.out.below HB.out)
     have F1 := ec (F.out.trans (Fq.of_below HB.out))
     clear H F HB
     go_wp2_with fail
     go_ret
     exact .of_ok HO.out rfl H1.out F1.out
 · have HO := ec (fc ho (by rw [HW.out]; simp [hk]))
   have hk' : ¬ ((kd (kt L) s.n : Nat) : Int) = 1 := by omega
   clear ho hk HW
   go_enter Tryz.func126, Tryz.ntmps126
   go_wp2_with fail
   refine CA.out.mono ?_
   rintro _ w1 ⟨rfl, hb⟩
   have HB := ec (hb.alloc hb.size (.cells #[.int .i64 (kd (kt L) s.n), .string ⟨(tx (kt L) s.n).toArray⟩, .int .i64 (eI L N s.n)] 188))
   clear hb CA
   have H1 := ec (H.out.below HB.out)
   have F1 := ec (F.out.trans (Fq.of_below HB.out))
   clear H F HB
   go_wp2_with fail
   go_ret
   exact .of_ok HO.out rfl H1.out F1.out
theorem gv (h : Rd R L N s st w) (o : Out ee) (ho : gw (kt L) s = o) :
    Calls Tryz.prog 183 #[.pointer (some ⟨R, 0, none⟩)] w (Ends R L N st w nf o) := by
 have HO := ec ho
 have H := ec h
 have F := ec (Fq.refl R w)
 clear h ho
 have CA := ec (fm R L N s st w H.out 0 (by omega))
 rw [show s.n + 0 = s.n from rfl] at CA
 have ho := gc HO.out
 clear HO
 by_cases hk : kd (kt L) s.n = 1
 · have Af : s.n < L.length := j9 (L := L) hk (by omega)
   have CI := ec (uR ⟨(tx (kt L) s.n).toArray⟩)
   rw [ByteArray.toList_mk] at CI
   rw [hk] at CA
   by_cases hw : tx (kt L) s.n ∈ pu
   · have HO := ec (fc ho (by simp [hk, hw]))
     rw [decide_eq_true hw] at CI
     clear ho hk hw
     go_enter Tryz.func183, Tryz.ntmps183
     go_wp2_with fail
     refine CA.out.mono ?_
     rintro _ w1 ⟨rfl, hb⟩
     have HB := ec (hb.alloc hb.size (.cells #[.int .i64 1, .string ⟨(tx (kt L) s.n).toArray⟩, .int .i64 (eI L N s.n)] 188))
     clear hb CA
     have H1 := ec (H.out.below HB.out)
     have F1 := ec (F.out.trans (Fq.of_below HB.out))
     clear H F HB
     go_wp2_with fail
     refine (CI.out _).mono ?_
     rintro _ w2 ⟨rfl, Ad⟩
     subst w2
     have CF := ec (fS R L N s st _ H1.out 51)
     go_wp2_with fail
     refine CF.out.mono ?_
     rintro _ w9 ⟨rfl, hF⟩
     exact eg rfl (.of_bad HO.out (F1.out.trans hF))
   · have HO := ec (fs ho (by simp [hk, hw]))
     rw [decide_eq_false hw] at CI
     clear ho hk hw
     go_enter Tryz.func183, Tryz.ntmps183
     go_wp2_with fail
     refine CA.out.mono ?_
     rintro _ w1 ⟨rfl, hb⟩
     have HB := ec (hb.alloc hb.size (.cells #[.int .i64 1, .string ⟨(tx (kt L) s.n).toArray⟩, .int .i64 (eI L N s.n)] 188))
     clear hb CA
     have H1 := ec (H.out.below HB.out)
     have F1 := ec (F.out.trans (Fq.of_below HB.out))
     clear H F HB
     go_wp2_with fail
     refine (CI.out _).mono ?_
     rintro _ w2 ⟨rfl, Ad⟩
     subst w2
     have Aa := ec (iK R L N s st _ H1.out Af _ rfl)
     go_wp2_with fail
     refine Aa.out.mono ?_
     intro e Ai he
     rcases he.split with ⟨Aj, s12, Ah, ho, rfl, Ac, hR, hF⟩ | ⟨c, m, ho, rfl, hF⟩
     rotate_left 1
     · exact eg rfl (.of_bad (ho.symm.trans HO.out) (F1.out.trans hF))
     have Ab := ec (ho.symm.trans HO.out)
     have Ag := ec hR
     have Ae := ec (F1.out.trans hF)
     clear he ho hR hF Aa H1 F1 HO
     cases Ac
     go_wp2_with fail
     go_ret
     exact .of_ok Ab.out rfl Ag.out Ae.out
 · have HO := ec (fc ho (by simp [hk]))
   have hk' : ¬ ((kd (kt L) s.n : Nat) : Int) = 1 := by omega
   clear ho hk
   go_enter Tryz.func183, Tryz.ntmps183
   go_wp2_with fail
   refine CA.out.mono ?_
   rintro _ w1 ⟨rfl, hb⟩
   have HB := ec (hb.alloc hb.size (.cells #[.int .i64 (kd (kt L) s.n), .string ⟨(tx (kt L) s.n).toArray⟩, .int .i64 (eI L N s.n)] 188))
   clear hb CA
   have H1 := ec (H.out.below HB.out)
   have F1 := ec (F.out.trans (Fq.of_below HB.out))
   clear H F HB
   have CF := ec (fS R L N s st _ H1.out 51)
   go_wp2_with fail
   refine CF.out.mono ?_
   rintro _ w9 ⟨rfl, hF⟩
   exact eg rfl (.of_bad HO.out (F1.out.trans hF))
theorem rp (h : Rd R L N s st w) (o : Out ee) (ho : la (kt L) s = o) :
    Calls Tryz.prog 300 #[.pointer (some ⟨R, 0, none⟩)] w (Ends R L N st w nf o) := by
 have HO := ec ho
 have H := ec h
 have F := ec (Fq.refl R w)
 clear h ho
 have CA := ec (fm R L N s st w H.out 0 (by omega))
 rw [show s.n + 0 = s.n from rfl] at CA
 have ho := gc HO.out
 clear HO
 have f0 := fun a b c w => (ws a b c w).1
 by_cases hk : kd (kt L) s.n = 2
 · have Ag : s.n < L.length := j9 (L := L) hk (by omega)
   have HO := ec (fs ho (by simp [hk]))
   rw [hk] at CA
   clear ho hk
   go_enter Tryz.func300, Tryz.ntmps300
   go_wp2_with fail
   refine CA.out.mono ?_
   rintro _ w1 ⟨rfl, hb⟩
   have HB := ec hb
   clear hb CA
   have H1 := ec (H.out.below HB.out)
   have F1 := ec (F.out.trans (Fq.of_below HB.out))
   clear H F HB
   have Aa := ec (iK R L N s st _ H1.out Ag _ rfl)
   go_wp2_with fail
   refine Aa.out.mono ?_
   intro e Am he
   rcases he.split with ⟨Ar, s13, Al, ho, rfl, Ac, hR, hF⟩ | ⟨c, m, ho, rfl, hF⟩
   rotate_left 1
   · exact eg rfl (.of_bad (ho.symm.trans HO.out) (F1.out.trans hF))
   have Ae := ec (ho.symm.trans HO.out)
   have Ai := ec hR
   have Aj := ec (F1.out.trans hF)
   clear he ho hR hF Aa H1 F1 HO
   cases Ac
   go_wp2_with fail
   go_ret
   exact .of_ok Ae.out rfl Ai.out Aj.out
 · have HO := ec (fc ho (by simp [hk]))
   have hk' : ¬ ((kd (kt L) s.n : Nat) : Int) = 2 := by omega
   clear ho hk
   go_enter Tryz.func300, Tryz.ntmps300
   go_wp2_with fail
   refine CA.out.mono ?_
   rintro _ w1 ⟨rfl, hb⟩
   have HB := ec hb
   clear hb CA
   have H1 := ec (H.out.below HB.out)
   have F1 := ec (F.out.trans (Fq.of_below HB.out))
   clear H F HB
   have Ab := ec (gv R L N s st _ H1.out _ rfl)
   go_wp2_with fail
   refine Ab.out.mono ?_
   intro e An he
   rcases he.split with ⟨Ao, Aq, Ap, ho, rfl, Ad, hR, hF⟩ | ⟨c, m, ho, rfl, hF⟩
   rotate_left 1
   · exact eg rfl (.of_bad (ho.symm.trans HO.out) (F1.out.trans hF))
   have Af := ec (ho.symm.trans HO.out)
   have Ak := ec hR
   have Ah := ec (F1.out.trans hF)
   clear he ho hR hF Ab H1 F1 HO
   cases Ad
   go_wp2_with fail
   go_ret
   exact .of_ok Af.out rfl Ak.out Ah.out
theorem xf (h : Rd R L N s st w) (o : Out ee) (ho : sP (kt L) s = o) :
    Calls Tryz.prog 127 #[.pointer (some ⟨R, 0, none⟩)] w (Ends R L N st w nf o) := by
 have HO := ec ho
 have H := ec h
 have F := ec (Fq.refl R w)
 clear h ho
 have CA := ec (fm R L N s st w H.out 0 (by omega))
 rw [show s.n + 0 = s.n from rfl] at CA
 have ho := gc HO.out
 clear HO
 have f0 := fun a b c w => (ws a b c w).1
 by_cases hk : kd (kt L) s.n = 5
 · have Af : s.n < L.length := j9 (L := L) hk (by omega)
   have HO := ec (fs ho (by simp [hk]))
   rw [hk] at CA
   clear ho hk
   go_enter Tryz.func127, Tryz.ntmps127
   go_wp2_with fail
   refine CA.out.mono ?_
   rintro _ w1 ⟨rfl, hb⟩
   have HB := ec hb
   clear hb CA
   have H1 := ec (H.out.below HB.out)
   have F1 := ec (F.out.trans (Fq.of_below HB.out))
   clear H F HB
   have Aa := ec (iK R L N s st _ H1.out Af _ rfl)
   go_wp2_with fail
   refine Aa.out.mono ?_
   intro e Aj he
   rcases he.split with ⟨Ai, Ag, Ah, ho, rfl, Ab, hR, hF⟩ | ⟨c, m, ho, rfl, hF⟩
   rotate_left 1
   · exact eg rfl (.of_bad (ho.symm.trans HO.out) (F1.out.trans hF))
   have Ac := ec (ho.symm.trans HO.out)
   have Ae := ec hR
   have Ad := ec (F1.out.trans hF)
   clear he ho hR hF Aa H1 F1 HO
   cases Ab
   go_wp2_with fail
   go_ret
   exact .of_ok Ac.out rfl Ae.out Ad.out
 · have HO := ec (fc ho (by simp [hk]))
   have hk' : ¬ ((kd (kt L) s.n : Nat) : Int) = 5 := by omega
   clear ho hk
   go_enter Tryz.func127, Tryz.ntmps127
   go_wp2_with fail
   refine CA.out.mono ?_
   rintro _ w1 ⟨rfl, hb⟩
   have HB := ec hb
   clear hb CA
   have H1 := ec (H.out.below HB.out)
   have F1 := ec (F.out.trans (Fq.of_below HB.out))
   clear H F HB
   have CF := ec (fS R L N s st _ H1.out 51)
   go_wp2_with fail
   refine CF.out.mono ?_
   rintro _ w9 ⟨rfl, hF⟩
   exact eg rfl (.of_bad HO.out (F1.out.trans hF))
theorem mE (h : Rd R L N s st w) (o : Out Int) (ho : sz FN (kt L) s = o) :
    Calls Tryz.prog 249 #[.pointer (some ⟨R, 0, none⟩)] w (Ends R L N st w ti o) := by
 have HO := ec ho
 have H := ec h
 have F := ec (Fq.refl R w)
 clear h ho
 have CA := ec (fm R L N s st w H.out 0 (by omega))
 rw [show s.n + 0 = s.n from rfl] at CA
 have ho := gc HO.out
 obtain ⟨d, er, hd⟩ : ∃ d er, FN.day (tx (kt L) s.n) = (d, er) := ⟨_, _, rfl⟩
 have CP := ec (Ca.parse_any ⟨(tx (kt L) s.n).toArray⟩)
 rw [show Ca.parseQ ⟨(tx (kt L) s.n).toArray⟩ = (d, er) from hd] at CP
 simp only [Ca.duo] at CP
 clear HO
 by_cases hk : kd (kt L) s.n = 4
 · have Ae : s.n < L.length := j9 (L := L) hk (by omega)
   rw [hk] at CA
   by_cases he : er = 0
   · have HO := ec (gc (fs ho (by simp [hk, hd, he])))
     simp only [hd] at HO
     subst he
     clear ho hk hd
     go_enter Tryz.func249, Tryz.ntmps249
     go_wp2_with fail
     refine CA.out.mono ?_
     rintro _ w1 ⟨rfl, hb⟩
     have HB := ec (hb.alloc hb.size (.cells #[.int .i64 4, .string ⟨(tx (kt L) s.n).toArray⟩, .int .i64 (eI L N s.n)] 188))
     clear hb CA
     have H1 := ec (H.out.below HB.out)
     have F1 := ec (F.out.trans (Fq.of_below HB.out))
     clear H F HB
     go_wp2_with fail
     refine (CP.out _).mono ?_
     rintro _ w2 ⟨rfl, hb⟩
     have H2 := ec (H1.out.below hb)
     have F2 := ec (F1.out.trans (Fq.of_below hb))
     have z0 : w2.cell? ⟨w1.heap.size, 0, none⟩ = _ := (hb.cell (by simp)).trans (cell_of_row _ _ 0 _ 188 _ (heap_alloc_new w1 _))
     simp at z0
     clear hb CP H1 F1
     have Aa := ec (iK R L N s st _ H2.out Ae _ rfl)
     go_wp2_with fail
     refine Aa.out.mono ?_
     intro e Ag he
     rcases he.split with ⟨Aj, Ai, Ah, ho, rfl, Ac, hR, hF⟩ | ⟨c, m, ho, rfl, hF⟩
     rotate_left 1
     · exact eg rfl (.of_bad (el HO.out ho) (F2.out.trans hF))
     have Ab := ec (ej HO.out ho)
     have Af := ec hR
     have Ad := ec (F2.out.trans hF)
     clear he ho hR hF Aa H2 F2 HO
     cases Ac
     go_wp2_with fail
     go_ret
     exact .of_ok Ab.out rfl Af.out Ad.out
   · have HO := ec (fc ho (by simp [hd, he]))
     clear ho hk hd
     go_enter Tryz.func249, Tryz.ntmps249
     go_wp2_with fail
     refine CA.out.mono ?_
     rintro _ w1 ⟨rfl, hb⟩
     have HB := ec (hb.alloc hb.size (.cells #[.int .i64 4, .string ⟨(tx (kt L) s.n).toArray⟩, .int .i64 (eI L N s.n)] 188))
     clear hb CA
     have H1 := ec (H.out.below HB.out)
     have F1 := ec (F.out.trans (Fq.of_below HB.out))
     clear H F HB
     go_wp2_with fail
     refine (CP.out _).mono ?_
     rintro _ w2 ⟨rfl, hb⟩
     have H2 := ec (H1.out.below hb)
     have F2 := ec (F1.out.trans (Fq.of_below hb))
     have z0 : w2.cell? ⟨w1.heap.size, 0, none⟩ = _ := (hb.cell (by simp)).trans (cell_of_row _ _ 0 _ 188 _ (heap_alloc_new w1 _))
     simp at z0
     clear hb CP H1 F1
     have CF := ec (fS R L N s st _ H2.out 51)
     go_wp2_with fail
     refine CF.out.mono ?_
     rintro _ w9 ⟨rfl, hF⟩
     exact eg rfl (.of_bad HO.out (F2.out.trans hF))
 · have HO := ec (fc ho (by simp [hk]))
   have hk' : ¬ ((kd (kt L) s.n : Nat) : Int) = 4 := by omega
   clear ho hk hd
   go_enter Tryz.func249, Tryz.ntmps249
   go_wp2_with fail
   refine CA.out.mono ?_
   rintro _ w1 ⟨rfl, hb⟩
   have HB := ec (hb.alloc hb.size (.cells #[.int .i64 (kd (kt L) s.n), .string ⟨(tx (kt L) s.n).toArray⟩, .int .i64 (eI L N s.n)] 188))
   clear hb CA
   have H1 := ec (H.out.below HB.out)
   have F1 := ec (F.out.trans (Fq.of_below HB.out))
   clear H F HB
   go_wp2_with fail
   refine (CP.out _).mono ?_
   rintro _ w2 ⟨rfl, hb⟩
   have H2 := ec (H1.out.below hb)
   have F2 := ec (F1.out.trans (Fq.of_below hb))
   have z0 : w2.cell? ⟨w1.heap.size, 0, none⟩ = _ := (hb.cell (by simp)).trans (cell_of_row _ _ 0 _ 188 _ (heap_alloc_new w1 _))
   simp at z0
   clear hb CP H1 F1
   have CF := ec (fS R L N s st _ H2.out 51)
   go_wp2_with fail
   refine CF.out.mono ?_
   rintro _ w9 ⟨rfl, hF⟩
   exact eg rfl (.of_bad HO.out (F2.out.trans hF))
end
end Go.Proofs.YtbpphlmakmeoaaaGreatDoor.Sy
namespace Go.Proofs.YtbpphlmakmeoaaaGreatDoor.Sy
open Go.RowKit
section
variable (R : Nat) (L : List fw) (N : Nat) (s : RS) (st : St9) (w : World)
theorem fM (t : ee) (h : Rd R L N s st w) (o : Out Unit) (ho : gp (kt L) t s = o) :
    Calls Tryz.prog 128 #[.pointer (some ⟨R, 0, none⟩), .string ⟨t.toArray⟩] w (Ends R L N st w E1 o) := by
 have HO := ec ho
 have H := ec h
 have F := ec (Fq.refl R w)
 clear h ho
 go_enter Tryz.func128, Tryz.ntmps128
 have Ab := ec (ig R L N s st _ t H.out _ rfl)
 go_wp2_with fail
 refine Ab.out.mono ?_
 intro e Ag he
 rcases he.split with ⟨Af, s11, Ah, ho, rfl, Ae, hR, hF⟩ | ⟨c, m, ho, rfl, hF⟩
 rotate_left 1
 · exact eg rfl (.of_bad (el HO.out ho) (F.out.trans hF))
 have Aa := ec (ej HO.out ho)
 have Ac := ec hR
 have Ad := ec (F.out.trans hF)
 clear he ho hR hF Ab H F HO
 cases Ae
 cases Af with
 | false =>
  have HO := ec (fc Aa.out rfl)
  have CF := ec (fS R L N s11 st _ Ac.out 51)
  go_wp2_with fail
  refine CF.out.mono ?_
  rintro _ w9 ⟨rfl, hF⟩
  exact eg rfl (.of_bad HO.out (Ad.out.trans hF))
 | true =>
  have HO := ec (fs Aa.out rfl)
  go_wp2_with fail
  go_end0
  exact .of_ok HO.out rfl Ac.out Ad.out
theorem j6 (t : ee) (h : Rd R L N s st w) (o : Out Unit) (ho : kq (kt L) t s = o) :
    Calls Tryz.prog 247 #[.pointer (some ⟨R, 0, none⟩), .string ⟨t.toArray⟩] w (Ends R L N st w E1 o) := by
 have HO := ec ho
 have H := ec h
 have F := ec (Fq.refl R w)
 clear h ho
 go_enter Tryz.func247, Tryz.ntmps247
 have Ac := ec (gh R L N s st _ t H.out _ rfl)
 go_wp2_with fail
 refine Ac.out.mono ?_
 intro e Ah he
 rcases he.split with ⟨Af, s12, Ag, ho, rfl, Ae, hR, hF⟩ | ⟨c, m, ho, rfl, hF⟩
 rotate_left 1
 · exact eg rfl (.of_bad (el HO.out ho) (F.out.trans hF))
 have Aa := ec (ej HO.out ho)
 have Ad := ec hR
 have Ab := ec (F.out.trans hF)
 clear he ho hR hF Ac H F HO
 cases Ae
 cases Af with
 | false =>
  have HO := ec (fc Aa.out rfl)
  have CF := ec (fS R L N s12 st _ Ad.out 51)
  go_wp2_with fail
  refine CF.out.mono ?_
  rintro _ w9 ⟨rfl, hF⟩
  exact eg rfl (.of_bad HO.out (Ab.out.trans hF))
 | true =>
  have HO := ec (fs Aa.out rfl)
  go_wp2_with fail
  go_end0
  exact .of_ok HO.out rfl Ad.out Ab.out
theorem jk (h : Rd R L N s st w) (o : Out Bool) (ho : iz (kt L) s = o) :
    Calls Tryz.prog 243 #[.pointer (some ⟨R, 0, none⟩)] w (Ends R L N st w mK o) := by
 have HO := ec ho
 have H := ec h
 have F := ec (Fq.refl R w)
 clear h ho
 go_enter Tryz.func243, Tryz.ntmps243
 have Aa := ec (ig R L N s st _ [44] H.out _ rfl)
 go_wp2_with fail
 refine Aa.out.mono ?_
 intro e Ag he
 rcases he.split with ⟨Ah, s13, Af, ho, rfl, Ab, hR, hF⟩ | ⟨c, m, ho, rfl, hF⟩
 rotate_left 1
 · exact eg rfl (.of_bad (ho.symm.trans HO.out) (F.out.trans hF))
 have Ac := ec (ho.symm.trans HO.out)
 have Ad := ec hR
 have Ae := ec (F.out.trans hF)
 clear he ho hR hF Aa H F HO
 cases Ab
 go_wp2_with fail
 go_ret
 exact .of_ok Ac.out rfl Ad.out Ae.out
theorem us (lo hi : Int) (h : Rd R L N s st w) (o : Out Int) (ho : m9 FN (kt L) lo hi s = o) :
    Calls Tryz.prog 248 #[.pointer (some ⟨R, 0, none⟩), .int .i64 lo, .int .i64 hi] w (Ends R L N st w ti o) := by
 have HO := ec ho
 have H := ec h
 have F := ec (Fq.refl R w)
 clear h ho
 have Am := ve H.out.tle s.n
 have CA := ec (fm R L N s st w H.out 0 (by omega))
 rw [show s.n + 0 = s.n from rfl] at CA
 have ho := gc HO.out
 obtain ⟨pt, hp⟩ : ∃ b, FN.point (tx (kt L) s.n) = b := ⟨_, rfl⟩
 have CP := ec (Tryz.strings_Contains_one ⟨(tx (kt L) s.n).toArray⟩ 46)
 rw [show (decide (0 ≤ Lib.indexByte (⟨(tx (kt L) s.n).toArray⟩ : ByteArray).data.toList 46)) = pt from hp] at CP
 clear HO
 by_cases hk : kd (kt L) s.n = 3
 · have Aj : s.n < L.length := j9 (L := L) hk (by omega)
   rw [hk] at CA
   cases pt with
   | true =>
    have HO := ec (fc ho (by simp [hp]))
    clear ho hk hp
    go_enter Tryz.func248, Tryz.ntmps248
    go_wp2_with fail
    refine CA.out.mono ?_
    rintro _ w1 ⟨rfl, hb⟩
    have HB := ec (hb.alloc hb.size (.cells #[.int .i64 3, .string ⟨(tx (kt L) s.n).toArray⟩, .int .i64 (eI L N s.n)] 188))
    clear hb CA
    have H1 := ec (H.out.below HB.out)
    have F1 := ec (F.out.trans (Fq.of_below HB.out))
    clear H F HB
    go_wp2_with fail
    refine (CP.out _).mono ?_
    rintro _ w2 ⟨rfl, Ad⟩
    subst w2
    have CF := ec (fS R L N s st _ H1.out 51)
    go_wp2_with fail
    refine CF.out.mono ?_
    rintro _ w9 ⟨rfl, hF⟩
    exact eg rfl (.of_bad HO.out (F1.out.trans hF))
   | false =>
    have HO := ec (gc (fs ho (by simp [hk, hp])))
    clear ho hk hp
    cases hi' : Lib.atoiAll (tx (kt L) s.n) with
    | ok v =>
     obtain ⟨Al, Ao⟩ := Lib.atoiAll_bounds hi'
     have HI : Hid (FN.int (tx (kt L) s.n) = some v) := by unfold Hid FN; simp only [hi']
     have CI := ec (Tryz.strconv_Atoi_ok ⟨(tx (kt L) s.n).toArray⟩ (by show (tx (kt L) s.n).length ≤ _; omega) v hi')
     clear hi'
     have Aa : lY FN lo hi (tx (kt L) s.n) = (decide (lo ≤ v) && decide (v ≤ hi)) := by unfold lY; rw [HI.out]
     by_cases h1 : lo ≤ v
     · by_cases h2 : v ≤ hi
       · have HO := ec (gc (fs HO.out (by rw [Aa]; simp [h1, h2])))
         simp only [HI.out, Option.getD] at HO
         have h1' : ¬ v < lo := by omega
         have h2' : ¬ hi < v := by omega
         clear h1 h2 Aa HI
         go_enter Tryz.func248, Tryz.ntmps248
         go_wp2_with fail
         refine CA.out.mono ?_
         rintro _ w1 ⟨rfl, hb⟩
         have HB := ec (hb.alloc hb.size (.cells #[.int .i64 3, .string ⟨(tx (kt L) s.n).toArray⟩, .int .i64 (eI L N s.n)] 188))
         clear hb CA
         have H1 := ec (H.out.below HB.out)
         have F1 := ec (F.out.trans (Fq.of_below HB.out))
         clear H F HB
         go_wp2_with fail
         refine (CP.out _).mono ?_
         rintro _ w2 ⟨rfl, Ad⟩
         subst w2
         go_wp2_with fail
         refine (CI.out _).mono ?_
         rintro _ w3 ⟨rfl, Ac⟩
         have Ab : Hid (Below _ _ w3) := ec (by
          rcases Ac with rfl | ⟨t, rfl⟩
          · exact Below.refl _ _
          · exact Lib.bytesWorld_below _ _ _)
         have H2 := ec (H1.out.below Ab.out)
         have F2 := ec (F1.out.trans (Fq.of_below Ab.out))
         clear Ac CI H1 F1 Ab
         have Af := ec (iK R L N s st _ H2.out Aj _ rfl)
         go_wp2_with fail
         refine Af.out.mono ?_
         intro e An he
         rcases he.split with ⟨Ap, Aq, Ar, ho, rfl, Ag, hR, hF⟩ | ⟨c, m, ho, rfl, hF⟩
         rotate_left 1
         · exact eg rfl (.of_bad (el HO.out ho) (F2.out.trans hF))
         have Ah := ec (ej HO.out ho)
         have Ak := ec hR
         have Ai := ec (F2.out.trans hF)
         clear he ho hR hF Af H2 F2 HO
         cases Ag
         go_wp2_with fail
         go_ret
         exact .of_ok Ah.out rfl Ak.out Ai.out
       · have HO := ec (fc HO.out (by rw [Aa]; simp [h2]))
         have h1' : ¬ v < lo := by omega
         have h2' : hi < v := by omega
         clear h1 h2 Aa HI
         go_enter Tryz.func248, Tryz.ntmps248
         go_wp2_with fail
         refine CA.out.mono ?_
         rintro _ w1 ⟨rfl, hb⟩
         have HB := ec (hb.alloc hb.size (.cells #[.int .i64 3, .string ⟨(tx (kt L) s.n).toArray⟩, .int .i64 (eI L N s.n)] 188))
         clear hb CA
         have H1 := ec (H.out.below HB.out)
         have F1 := ec (F.out.trans (Fq.of_below HB.out))
         clear H F HB
         go_wp2_with fail
         refine (CP.out _).mono ?_
         rintro _ w2 ⟨rfl, Ad⟩
         subst w2
         go_wp2_with fail
         refine (CI.out _).mono ?_
         rintro _ w3 ⟨rfl, Ac⟩
         have Ab : Hid (Below _ _ w3) := ec (by
          rcases Ac with rfl | ⟨t, rfl⟩
          · exact Below.refl _ _
          · exact Lib.bytesWorld_below _ _ _)
         have H2 := ec (H1.out.below Ab.out)
         have F2 := ec (F1.out.trans (Fq.of_below Ab.out))
         clear Ac CI H1 F1 Ab
         have CF := ec (fS R L N s st _ H2.out 4)
         go_wp2_with fail
         refine CF.out.mono ?_
         rintro _ w9 ⟨rfl, hF⟩
         exact eg rfl (.of_bad HO.out (F2.out.trans hF))
     · have HO := ec (fc HO.out (by rw [Aa]; simp [h1]))
       have h1' : v < lo := by omega
       clear h1 Aa HI
       go_enter Tryz.func248, Tryz.ntmps248
       go_wp2_with fail
       refine CA.out.mono ?_
       rintro _ w1 ⟨rfl, hb⟩
       have HB := ec (hb.alloc hb.size (.cells #[.int .i64 3, .string ⟨(tx (kt L) s.n).toArray⟩, .int .i64 (eI L N s.n)] 188))
       clear hb CA
       have H1 := ec (H.out.below HB.out)
       have F1 := ec (F.out.trans (Fq.of_below HB.out))
       clear H F HB
       go_wp2_with fail
       refine (CP.out _).mono ?_
       rintro _ w2 ⟨rfl, Ad⟩
       subst w2
       go_wp2_with fail
       refine (CI.out _).mono ?_
       rintro _ w3 ⟨rfl, Ac⟩
       have Ab : Hid (Below _ _ w3) := ec (by
        rcases Ac with rfl | ⟨t, rfl⟩
        · exact Below.refl _ _
        · exact Lib.bytesWorld_below _ _ _)
       have H2 := ec (H1.out.below Ab.out)
       have F2 := ec (F1.out.trans (Fq.of_below Ab.out))
       clear Ac CI H1 F1 Ab
       have CF := ec (fS R L N s st _ H2.out 4)
       go_wp2_with fail
       refine CF.out.mono ?_
       rintro _ w9 ⟨rfl, hF⟩
       exact eg rfl (.of_bad HO.out (F2.out.trans hF))
    | «syntax» =>
     have HI : Hid (FN.int (tx (kt L) s.n) = none) := by unfold Hid FN; simp only [hi']
     have Aa : lY FN lo hi (tx (kt L) s.n) = false := by unfold lY; rw [HI.out]
     have HO := ec (fc HO.out Aa)
     obtain ⟨e1, e2, v1, v2, v3, v4, v5⟩ := H.out.vars
     have HV := ec v1
     have HE := ec v4
     have CI := ec (fun w => Tryz.strconv_Atoi_syntax ⟨(tx (kt L) s.n).toArray⟩ (by show (tx (kt L) s.n).length ≤ _; omega) hi' e1 w)
     clear hi' Aa HI v1 v2 v3 v4 v5
     go_enter Tryz.func248, Tryz.ntmps248
     go_wp2_with fail
     refine CA.out.mono ?_
     rintro _ w1 ⟨rfl, hb⟩
     have HB := ec (hb.alloc hb.size (.cells #[.int .i64 3, .string ⟨(tx (kt L) s.n).toArray⟩, .int .i64 (eI L N s.n)] 188))
     clear hb CA
     have Ae := ec ((HB.out.cell (p := ⟨2, 0, none⟩) (by have := World.block_lt_of_cell? _ _ HV.out; exact this)).trans HV.out)
     have H1 := ec (H.out.below HB.out)
     have F1 := ec (F.out.trans (Fq.of_below HB.out))
     clear H F HB
     go_wp2_with fail
     refine (CP.out _).mono ?_
     rintro _ w2 ⟨rfl, Ad⟩
     subst w2
     go_wp2_with fail
     refine (CI.out _ Ae.out HE.out).mono ?_
     rintro _ w3 ⟨nb, rfl, _, _, hb⟩
     have H2 := ec (H1.out.below hb)
     have F2 := ec (F1.out.trans (Fq.of_below hb))
     clear hb CI H1 F1
     have CF := ec (fS R L N s st _ H2.out 4)
     go_wp2_with fail
     refine CF.out.mono ?_
     rintro _ w9 ⟨rfl, hF⟩
     exact eg rfl (.of_bad HO.out (F2.out.trans hF))
    | range =>
     have HI : Hid (FN.int (tx (kt L) s.n) = none) := by unfold Hid FN; simp only [hi']
     have Aa : lY FN lo hi (tx (kt L) s.n) = false := by unfold lY; rw [HI.out]
     have HO := ec (fc HO.out Aa)
     obtain ⟨e1, e2, v1, v2, v3, v4, v5⟩ := H.out.vars
     have HV := ec v2
     have HE := ec v5
     have CI := ec (fun w => Tryz.strconv_Atoi_range ⟨(tx (kt L) s.n).toArray⟩ (by show (tx (kt L) s.n).length ≤ _; omega) hi' e2 w)
     clear hi' Aa HI v1 v2 v3 v4 v5
     go_enter Tryz.func248, Tryz.ntmps248
     go_wp2_with fail
     refine CA.out.mono ?_
     rintro _ w1 ⟨rfl, hb⟩
     have HB := ec (hb.alloc hb.size (.cells #[.int .i64 3, .string ⟨(tx (kt L) s.n).toArray⟩, .int .i64 (eI L N s.n)] 188))
     clear hb CA
     have Ae := ec ((HB.out.cell (p := ⟨3, 0, none⟩) (by have := World.block_lt_of_cell? _ _ HV.out; exact this)).trans HV.out)
     have H1 := ec (H.out.below HB.out)
     have F1 := ec (F.out.trans (Fq.of_below HB.out))
     clear H F HB
     go_wp2_with fail
     refine (CP.out _).mono ?_
     rintro _ w2 ⟨rfl, Ad⟩
     subst w2
     go_wp2_with fail
     refine (CI.out _ Ae.out HE.out).mono ?_
     rintro _ w3 ⟨nb, rfl, _, _, hb⟩
     have H2 := ec (H1.out.below hb)
     have F2 := ec (F1.out.trans (Fq.of_below hb))
     clear hb CI H1 F1
     have CF := ec (fS R L N s st _ H2.out 4)
     go_wp2_with fail
     refine CF.out.mono ?_
     rintro _ w9 ⟨rfl, hF⟩
     exact eg rfl (.of_bad HO.out (F2.out.trans hF))
 · have HO := ec (fc ho (by simp [hk]))
   have hk' : ¬ ((kd (kt L) s.n : Nat) : Int) = 3 := by omega
   clear ho hk hp
   go_enter Tryz.func248, Tryz.ntmps248
   go_wp2_with fail
   refine CA.out.mono ?_
   rintro _ w1 ⟨rfl, hb⟩
   have HB := ec (hb.alloc hb.size (.cells #[.int .i64 (kd (kt L) s.n), .string ⟨(tx (kt L) s.n).toArray⟩, .int .i64 (eI L N s.n)] 188))
   clear hb CA
   have H1 := ec (H.out.below HB.out)
   have F1 := ec (F.out.trans (Fq.of_below HB.out))
   clear H F HB
   have CF := ec (fS R L N s st _ H1.out 51)
   go_wp2_with fail
   refine CF.out.mono ?_
   rintro _ w9 ⟨rfl, hF⟩
   exact eg rfl (.of_bad HO.out (F1.out.trans hF))
theorem kM (h : Rd R L N s st w) (o : Out Int) (ho : jy FN (kt L) s = o) :
    Calls Tryz.prog 246 #[.pointer (some ⟨R, 0, none⟩)] w (Ends R L N st w ti o) := by
 have HO := ec ho
 have H := ec h
 have F := ec (Fq.refl R w)
 clear h ho
 go_enter Tryz.func246, Tryz.ntmps246
 have Ah := ec (ig R L N s st _ [45] H.out _ rfl)
 go_wp2_with fail
 refine Ah.out.mono ?_
 intro e AC he
 rcases he.split with ⟨At, Aa, Av, ho, rfl, Aj, hR, hF⟩ | ⟨c, m, ho, rfl, hF⟩
 rotate_left 1
 · exact eg rfl (.of_bad (el HO.out ho) (F.out.trans hF))
 have Ae := ec (ej HO.out ho)
 have Ab := ec hR
 have Ac := ec (F.out.trans hF)
 clear he ho hR hF Ah H F HO
 cases Aj
 cases At with
 | true =>
  have HO := ec (fs Ae.out rfl)
  clear Ae
  have Aq := ve Ab.out.tle Aa.n
  have CA := ec (fm R L N Aa st _ Ab.out 0 (by omega))
  rw [show Aa.n + 0 = Aa.n from rfl] at CA
  have ho := gc HO.out
  clear HO
  by_cases hk : kd (kt L) Aa.n = 3
  · have Af : Aa.n < L.length := j9 (L := L) hk (by omega)
    have ho := gc (fs ho (by simp [hk]))
    rw [hk] at CA
    obtain ⟨d, er, hd⟩ : ∃ d er, FN.money ([45] ++ tx (kt L) Aa.n) = (d, er) := ⟨_, _, rfl⟩
    have Ad : (⟨[45].toArray⟩ ++ ⟨(tx (kt L) Aa.n).toArray⟩ : ByteArray) = ⟨([45] ++ tx (kt L) Aa.n).toArray⟩ := by apply ByteArray.ext; simp
    have CP := ec (fun w => Mo.parse_any (⟨[45].toArray⟩ ++ ⟨(tx (kt L) Aa.n).toArray⟩) w (by rw [Ad]; show ([45] ++ tx (kt L) Aa.n).length ≤ _; simp; omega))
    rw [show Mo.parseM (Mo.strB (⟨[45].toArray⟩ ++ ⟨(tx (kt L) Aa.n).toArray⟩)) = (d, er) from by rw [Ad]; exact hd] at CP
    simp only [Mo.pairV] at CP
    simp only [hd] at ho
    by_cases he : er = 0
    · subst er
      have HO := ec (fs ho (by simp))
      clear ho hk hd Ad
      go_wp2_with fail
      refine CA.out.mono ?_
      rintro _ w1 ⟨rfl, hb⟩
      have HB := ec (hb.alloc hb.size (.cells #[.int .i64 3, .string ⟨(tx (kt L) Aa.n).toArray⟩, .int .i64 (eI L N Aa.n)] 188))
      clear hb CA
      have H1 := ec (Ab.out.below HB.out)
      have F1 := ec (Ac.out.trans (Fq.of_below HB.out))
      clear Ab Ac HB
      go_wp2_with fail
      refine (CP.out _).mono ?_
      rintro _ w2 ⟨rfl, hb⟩
      have H2 := ec (H1.out.below hb)
      have F2 := ec (F1.out.trans (Fq.of_below hb))
      clear hb CP H1 F1
      have Ag := ec (iK R L N Aa st _ H2.out Af _ rfl)
      go_wp2_with fail
      refine Ag.out.mono ?_
      intro e Au he
      rcases he.split with ⟨AD, Ax, AA, ho, rfl, Am, hR, hF⟩ | ⟨c, m, ho, rfl, hF⟩
      rotate_left 1
      · exact eg rfl (.of_bad (el HO.out ho) (F2.out.trans hF))
      have Al := ec (ej HO.out ho)
      have Ar := ec hR
      have As := ec (F2.out.trans hF)
      clear he ho hR hF Ag H2 F2 HO
      cases Am
      go_wp2_with fail
      go_ret
      exact .of_ok Al.out rfl Ar.out As.out
    · have HO := ec (fc ho (by simp [he]))
      clear ho hk hd Ad
      go_wp2_with fail
      refine CA.out.mono ?_
      rintro _ w1 ⟨rfl, hb⟩
      have HB := ec (hb.alloc hb.size (.cells #[.int .i64 3, .string ⟨(tx (kt L) Aa.n).toArray⟩, .int .i64 (eI L N Aa.n)] 188))
      clear hb CA
      have H1 := ec (Ab.out.below HB.out)
      have F1 := ec (Ac.out.trans (Fq.of_below HB.out))
      clear Ab Ac HB
      go_wp2_with fail
      refine (CP.out _).mono ?_
      rintro _ w2 ⟨rfl, hb⟩
      have H2 := ec (H1.out.below hb)
      have F2 := ec (F1.out.trans (Fq.of_below hb))
      clear hb CP H1 F1
      have CF := ec (fS R L N Aa st _ H2.out er)
      go_wp2_with fail
      refine CF.out.mono ?_
      rintro _ w9 ⟨rfl, hF⟩
      exact eg rfl (.of_bad HO.out (F2.out.trans hF))
  · have HO := ec (fc ho (by simp [hk]))
    have hk' : ¬ ((kd (kt L) Aa.n : Nat) : Int) = 3 := by omega
    clear ho hk
    go_wp2_with fail
    refine CA.out.mono ?_
    rintro _ w1 ⟨rfl, hb⟩
    have HB := ec (hb.alloc hb.size (.cells #[.int .i64 (kd (kt L) Aa.n), .string ⟨(tx (kt L) Aa.n).toArray⟩, .int .i64 (eI L N Aa.n)] 188))
    clear hb CA
    have H1 := ec (Ab.out.below HB.out)
    have F1 := ec (Ac.out.trans (Fq.of_below HB.out))
    clear Ab Ac HB
    have CF := ec (fS R L N Aa st _ H1.out 51)
    go_wp2_with fail
    refine CF.out.mono ?_
    rintro _ w9 ⟨rfl, hF⟩
    exact eg rfl (.of_bad HO.out (F1.out.trans hF))
 | false =>
  have HO := ec (fc Ae.out rfl)
  clear Ae
  have Aq := ve Ab.out.tle Aa.n
  have CA := ec (fm R L N Aa st _ Ab.out 0 (by omega))
  rw [show Aa.n + 0 = Aa.n from rfl] at CA
  have ho := gc HO.out
  clear HO
  by_cases hk : kd (kt L) Aa.n = 3
  · have Af : Aa.n < L.length := j9 (L := L) hk (by omega)
    have ho := gc (fs ho (by simp [hk]))
    rw [hk] at CA
    obtain ⟨d, er, hd⟩ : ∃ d er, FN.money ([] ++ tx (kt L) Aa.n) = (d, er) := ⟨_, _, rfl⟩
    have Ad : (⟨[].toArray⟩ ++ ⟨(tx (kt L) Aa.n).toArray⟩ : ByteArray) = ⟨([] ++ tx (kt L) Aa.n).toArray⟩ := by apply ByteArray.ext; simp
    have CP := ec (fun w => Mo.parse_any (⟨[].toArray⟩ ++ ⟨(tx (kt L) Aa.n).toArray⟩) w (by rw [Ad]; show ([] ++ tx (kt L) Aa.n).length ≤ _; simp; omega))
    rw [show Mo.parseM (Mo.strB (⟨[].toArray⟩ ++ ⟨(tx (kt L) Aa.n).toArray⟩)) = (d, er) from by rw [Ad]; exact hd] at CP
    simp only [Mo.pairV] at CP
    simp only [hd] at ho
    by_cases he : er = 0
    · subst er
      have HO := ec (fs ho (by simp))
      clear ho hk hd Ad
      go_wp2_with fail
      refine CA.out.mono ?_
      rintro _ w1 ⟨rfl, hb⟩
      have HB := ec (hb.alloc hb.size (.cells #[.int .i64 3, .string ⟨(tx (kt L) Aa.n).toArray⟩, .int .i64 (eI L N Aa.n)] 188))
      clear hb CA
      have H1 := ec (Ab.out.below HB.out)
      have F1 := ec (Ac.out.trans (Fq.of_below HB.out))
      clear Ab Ac HB
      go_wp2_with fail
      refine (CP.out _).mono ?_
      rintro _ w2 ⟨rfl, hb⟩
      have H2 := ec (H1.out.below hb)
      have F2 := ec (F1.out.trans (Fq.of_below hb))
      clear hb CP H1 F1
      have Ai := ec (iK R L N Aa st _ H2.out Af _ rfl)
      go_wp2_with fail
      refine Ai.out.mono ?_
      intro e Aw he
      rcases he.split with ⟨Az, AB, Ay, ho, rfl, An, hR, hF⟩ | ⟨c, m, ho, rfl, hF⟩
      rotate_left 1
      · exact eg rfl (.of_bad (el HO.out ho) (F2.out.trans hF))
      have Ak := ec (ej HO.out ho)
      have Ao := ec hR
      have Ap := ec (F2.out.trans hF)
      clear he ho hR hF Ai H2 F2 HO
      cases An
      go_wp2_with fail
      go_ret
      exact .of_ok Ak.out rfl Ao.out Ap.out
    · have HO := ec (fc ho (by simp [he]))
      clear ho hk hd Ad
      go_wp2_with fail
      refine CA.out.mono ?_
      rintro _ w1 ⟨rfl, hb⟩
      have HB := ec (hb.alloc hb.size (.cells #[.int .i64 3, .string ⟨(tx (kt L) Aa.n).toArray⟩, .int .i64 (eI L N Aa.n)] 188))
      clear hb CA
      have H1 := ec (Ab.out.below HB.out)
      have F1 := ec (Ac.out.trans (Fq.of_below HB.out))
      clear Ab Ac HB
      go_wp2_with fail
      refine (CP.out _).mono ?_
      rintro _ w2 ⟨rfl, hb⟩
      have H2 := ec (H1.out.below hb)
      have F2 := ec (F1.out.trans (Fq.of_below hb))
      clear hb CP H1 F1
      have CF := ec (fS R L N Aa st _ H2.out er)
      go_wp2_with fail
      refine CF.out.mono ?_
      rintro _ w9 ⟨rfl, hF⟩
      exact eg rfl (.of_bad HO.out (F2.out.trans hF))
  · have HO := ec (fc ho (by simp [hk]))
    have hk' : ¬ ((kd (kt L) Aa.n : Nat) : Int) = 3 := by omega
    clear ho hk
    go_wp2_with fail
    refine CA.out.mono ?_
    rintro _ w1 ⟨rfl, hb⟩
    have HB := ec (hb.alloc hb.size (.cells #[.int .i64 (kd (kt L) Aa.n), .string ⟨(tx (kt L) Aa.n).toArray⟩, .int .i64 (eI L N Aa.n)] 188))
    clear hb CA
    have H1 := ec (Ab.out.below HB.out)
    have F1 := ec (Ac.out.trans (Fq.of_below HB.out))
    clear Ab Ac HB
    have CF := ec (fS R L N Aa st _ H1.out 51)
    go_wp2_with fail
    refine CF.out.mono ?_
    rintro _ w9 ⟨rfl, hF⟩
    exact eg rfl (.of_bad HO.out (F1.out.trans hF))
end
end Go.Proofs.YtbpphlmakmeoaaaGreatDoor.Sy
