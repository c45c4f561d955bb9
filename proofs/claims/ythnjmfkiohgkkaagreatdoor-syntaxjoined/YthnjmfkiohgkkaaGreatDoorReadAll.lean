/- What the memory of a reader is, and what its methods leave as it was; what a call of one ends with: a thing, or a panic with a fault. -/
import Derived.Test.YthnjmfkiohgkkaaGreatDoorTokens
import Derived.Test.YthnjmfkiohgkkaaGreatDoorMoves
import Derived.Defers
import Derived.BigQuiet
import Derived.Deep.RegionWith
import Derived.Deep.QuietTactic
import Derived.Laws.Strings
import Derived.KernelRfl
import Derived.Test.YthnjmfkiohgkkaaGreatDoorCa
import Derived.Test.YthnjmfkiohgkkaaGreatDoorMo
import Derived.Test.YthnjmfkiohgkkaaGreatDoorShelf
import Derived.Lib.AtoiErrMem
namespace Go.Proofs.YthnjmfkiohgkkaaGreatDoor.Sy
open Go.RowKit

/-- The nine cells of a statute. -/
structure St9 where
  title : Value
  kinds : Value
  members : Value
  preds : Value
  classes : Value
  sources : Value
  rules : Value
  excepts : Value
  totals : Value

def cellsR (tv : Value) (N : Nat) (s : RS) (st : St9) : Array Value :=
  #[tv, .int .i64 s.n, .int .i64 N, .bool s.full, .bool s.minus, st.title, st.kinds, st.members, st.preds, st.classes, st.sources, st.rules, st.excepts, st.totals]

def kt (L : List Tok) : Toks := L.map fun t => (t.kind, t.text)

/-- A row of tokens that lies below a block. -/
def TokRow (R : Nat) (w : World) (a : Option Addr) (L : List Tok) : Prop :=
  ∀ j t, L[j]? = some t → ∃ b, a = some ⟨b, 0, none⟩ ∧ b < R ∧ w.cell? ⟨b, j * 3, none⟩ = some (.int .i64 t.kind) ∧ w.cell? ⟨b, j * 3 + 1, none⟩ = some (.string ⟨t.text.toArray⟩) ∧ w.cell? ⟨b, j * 3 + 2, none⟩ = some (.int .i64 t.place)

/-- The variables of the library that a reader comes to. -/
def Vars (R : Nat) (w : World) : Prop :=
  ∃ e1 e2, w.cell? ⟨1, 0, none⟩ = some e1 ∧ w.cell? ⟨2, 0, none⟩ = some e2 ∧ 2 < R ∧ (e1 = .nilIface ∨ ∃ t p, e1 = .iface t p) ∧ (e2 = .nilIface ∨ ∃ t p, e2 = .iface t p)

/-- A reader lies in block R. -/
structure Rd (R : Nat) (L : List Tok) (N : Nat) (s : RS) (st : St9) (w : World) : Prop where
  lt : R < w.heap.size
  nle : s.n ≤ L.length
  Lle : L.length ≤ 65536
  Nle : N ≤ 65536
  blk : ∃ a c, w.heap[R]? = some (.cells (cellsR (.slice a L.length c) N s st) 62 (0, 0)) ∧ TokRow R w a L
  vars : Vars R w
  tle : ∀ t ∈ L, t.text.length ≤ 65536

/-- What a method of a reader leaves as it was. -/
structure Fq (R : Nat) (w w' : World) : Prop where
  os : w'.os = w.os
  tape : w'.tape = w.tape
  output : w'.output = w.output
  size : w.heap.size ≤ w'.heap.size
  block : ∀ k, k < w.heap.size → k ≠ R → w'.heap[k]? = w.heap[k]?

theorem Fq.refl (R : Nat) (w : World) : Fq R w w := ⟨rfl, rfl, rfl, Nat.le_refl _, fun _ _ _ => rfl⟩
theorem Fq.trans {R : Nat} {a b c : World} (h : Fq R a b) (k : Fq R b c) : Fq R a c :=
  ⟨k.os.trans h.os, k.tape.trans h.tape, k.output.trans h.output, Nat.le_trans h.size k.size, fun i hi hn => (k.block i (Nat.lt_of_lt_of_le hi h.size) hn).trans (h.block i hi hn)⟩
theorem Fq.set {R : Nat} {a w : World} (h : Fq R a w) (i : Nat) (v : Value) : Fq R a (w.setCell ⟨R, i, none⟩ v) :=
  ⟨h.os, h.tape, h.output, by simpa using h.size, fun k hk hn => (heap_setCell_other w ⟨R, i, none⟩ k v hn).trans (h.block k hk hn)⟩
theorem Fq.of_below {R : Nat} {w w' : World} (h : Below w.heap.size w w') : Fq R w w' :=
  ⟨h.os, h.tape, h.output, h.size, fun k hk _ => h.block k hk⟩
theorem Fq.drewN {R : Nat} {w : World} (q : Nat) : Fq R w (w.drewN q) := .of_below (below_drewN w q)

theorem Vars.keep {R : Nat} {w w' : World} (h : Vars R w) (hb : ∀ k, k < R → w'.heap[k]? = w.heap[k]?) : Vars R w' := by
  obtain ⟨e1, e2, h1, h2, h3, h4⟩ := h
  exact ⟨e1, e2, (World.cell?_of_block (hb 1 (by omega))).trans h1, (World.cell?_of_block (hb 2 (by omega))).trans h2, h3, h4⟩
theorem TokRow.keep {R : Nat} {w w' : World} {a : Option Addr} {L : List Tok} (h : TokRow R w a L) (hb : ∀ k, k < R → w'.heap[k]? = w.heap[k]?) : TokRow R w' a L := by
  intro j t hj
  obtain ⟨b, ha, hlt, h1, h2, h3⟩ := h j t hj
  exact ⟨b, ha, hlt, (World.cell?_of_block (hb b hlt)).trans h1, (World.cell?_of_block (hb b hlt)).trans h2, (World.cell?_of_block (hb b hlt)).trans h3⟩

section
variable {R : Nat} {L : List Tok} {N : Nat} {s : RS} {st : St9} {w w' : World}

theorem Rd.keep (h : Rd R L N s st w) (hs : w.heap.size ≤ w'.heap.size) (hb : ∀ k, k ≤ R → w'.heap[k]? = w.heap[k]?) : Rd R L N s st w' := by
  obtain ⟨h1, h2, h3, h4, ⟨a, c, h5, h6⟩, h7, h8⟩ := h
  exact ⟨by omega, h2, h3, h4, ⟨a, c, (hb R (Nat.le_refl _)).trans h5, h6.keep fun k hk => hb k (by omega)⟩, h7.keep fun k hk => hb k (by omega), h8⟩
theorem Rd.below (h : Rd R L N s st w) (hb : Below w.heap.size w w') : Rd R L N s st w' :=
  h.keep hb.size fun k hk => hb.block k (by have := h.lt; omega)
theorem Rd.drewN (h : Rd R L N s st w) (q : Nat) : Rd R L N s st (w.drewN q) := h.below (below_drewN w q)
theorem Rd.put (h : Rd R L N s st w) (s' : RS) (st' : St9) (i : Nat) (v : Value) (hn : s'.n ≤ L.length)
    (hv : ∀ tv, (cellsR tv N s st).setIfInBounds i v = cellsR tv N s' st') : Rd R L N s' st' (w.setCell ⟨R, i, none⟩ v) := by
  obtain ⟨h1, h2, h3, h4, ⟨a, c, h5, h6⟩, h7, h8⟩ := h
  have hk : ∀ k, k < R → (w.setCell ⟨R, i, none⟩ v).heap[k]? = w.heap[k]? := fun k hk => heap_setCell_other w ⟨R, i, none⟩ k v (by show k ≠ R; omega)
  exact ⟨by simpa using h1, hn, h3, h4, ⟨a, c, by rw [heap_setCell_same w R i _ 62 v h5, hv], h6.keep hk⟩, h7.keep hk, h8⟩
theorem Rd.setN (h : Rd R L N s st w) (n : Nat) (hn : n ≤ L.length) : Rd R L N { s with n := n } st (w.setCell ⟨R, 1, none⟩ (.int .i64 n)) := h.put _ _ 1 _ hn fun _ => rfl
theorem Rd.setFull (h : Rd R L N s st w) (b : Bool) : Rd R L N { s with full := b } st (w.setCell ⟨R, 3, none⟩ (.bool b)) := h.put _ _ 3 _ h.nle fun _ => rfl
theorem Rd.setMinus (h : Rd R L N s st w) (b : Bool) : Rd R L N { s with minus := b } st (w.setCell ⟨R, 4, none⟩ (.bool b)) := h.put _ _ 4 _ h.nle fun _ => rfl
theorem Rd.frz (h : Rd R L N s st w) (i : Nat) : w.frozen? ⟨R, i, none⟩ = false := by
  obtain ⟨a, c, hb, _⟩ := h.blk
  exact frozen_of_row w R i _ 62 hb
theorem Rd.c1 (h : Rd R L N s st w) : w.cell? ⟨R, 1, none⟩ = some (.int .i64 s.n) := by obtain ⟨a, c, hb, _⟩ := h.blk; rw [cell_of_row w R 1 _ 62 _ hb]; rfl
theorem Rd.c2 (h : Rd R L N s st w) : w.cell? ⟨R, 2, none⟩ = some (.int .i64 N) := by obtain ⟨a, c, hb, _⟩ := h.blk; rw [cell_of_row w R 2 _ 62 _ hb]; rfl
theorem Rd.c3 (h : Rd R L N s st w) : w.cell? ⟨R, 3, none⟩ = some (.bool s.full) := by obtain ⟨a, c, hb, _⟩ := h.blk; rw [cell_of_row w R 3 _ 62 _ hb]; rfl
theorem Rd.c4 (h : Rd R L N s st w) : w.cell? ⟨R, 4, none⟩ = some (.bool s.minus) := by obtain ⟨a, c, hb, _⟩ := h.blk; rw [cell_of_row w R 4 _ 62 _ hb]; rfl
end
end Go.Proofs.YthnjmfkiohgkkaaGreatDoor.Sy

namespace Go.Proofs.YthnjmfkiohgkkaaGreatDoor.Sy
open Go.RowKit

def placeAt (L : List Tok) (N i : Nat) : Nat := match L[i]? with
  | some t => t.place
  | none => N

theorem kt_at {L : List Tok} {i : Nat} {t : Tok} (h : L[i]? = some t) : kd (kt L) i = t.kind ∧ tx (kt L) i = t.text := by
  unfold kd tx kt
  simp [h]
theorem kt_out {L : List Tok} {i : Nat} (h : L.length ≤ i) : kd (kt L) i = 0 ∧ tx (kt L) i = [] := by
  unfold kd tx kt
  simp [h]

set_option maxRecDepth 100000 in
set_option maxHeartbeats 1600000 in
theorem ahead_any (R : Nat) (L : List Tok) (N : Nat) (s : RS) (st : St9) (w : World) (h : Rd R L N s st w) (i : Nat) (hi : i ≤ 1) :
    Calls Tryz.prog 67 #[.pointer (some ⟨R, 0, none⟩), .int .i64 i] w fun e w' =>
      e = .returned (.agg #[.int .i64 (kd (kt L) (s.n + i)), .string ⟨(tx (kt L) (s.n + i)).toArray⟩, .int .i64 (placeAt L N (s.n + i))]) ∧ Below w.heap.size w w' := by
  have c1 := h.c1
  have c2 := h.c2
  have hn := h.nle
  have hL := h.Lle
  have hlt := h.lt
  obtain ⟨a, c, hb, ht⟩ := h.blk
  have c0 : w.cell? ⟨R, 0, none⟩ = some (.slice a L.length c) := by rw [cell_of_row w R 0 _ 62 _ hb]; rfl
  have HT := hide ht
  clear ht hb h
  by_cases hj : s.n + i < L.length
  · obtain ⟨⟨k, x, p⟩, hx⟩ : ∃ t, L[s.n + i]? = some t := ⟨L[s.n + i], by simp [hj]⟩
    obtain ⟨b, rfl, hbR, t0, t1, t2⟩ := HT.out _ _ hx
    have hk := kt_at hx
    have hp : placeAt L N (s.n + i) = p := by unfold placeAt; rw [hx]
    rw [hk.1, hk.2, hp]
    clear hk hp hx HT
    simp only at t0 t1 t2
    have hbl : b < w.heap.size := by omega
    have o := fun (a : Addr) (ha : a.block < w.heap.size) => World.cell?_of_block (Go.heap_alloc_old w (.cells #[.int .i64 0, .string ⟨#[]⟩, .int .i64 0] 50) ha)
    have c0' := (o ⟨R, 0, none⟩ hlt).trans c0
    have c1' := (o ⟨R, 1, none⟩ hlt).trans c1
    have t0' := (o ⟨b, (s.n + i) * 3, none⟩ hbl).trans t0
    have t1' := (o ⟨b, (s.n + i) * 3 + 1, none⟩ hbl).trans t1
    have t2' := (o ⟨b, (s.n + i) * 3 + 2, none⟩ hbl).trans t2
    clear o c0 c1 c2 t0 t1 t2
    go_enter Tryz.func67, Tryz.ntmps67
    go_wp2_with fail
    go_quiet (fail)
    go_wp2_with fail
    have r0 : ((w.alloc (.cells #[.int .i64 0, .string ⟨#[]⟩, .int .i64 0] 50)).drewN nq).cell? ⟨w.heap.size, 0, none⟩ = some (.int .i64 0) := by simp [go_sem]
    have r1 : ((w.alloc (.cells #[.int .i64 0, .string ⟨#[]⟩, .int .i64 0] 50)).drewN nq).cell? ⟨w.heap.size, 1, none⟩ = some (.string ⟨#[]⟩) := by simp [go_sem]
    have r2 : ((w.alloc (.cells #[.int .i64 0, .string ⟨#[]⟩, .int .i64 0] 50)).drewN nq).cell? ⟨w.heap.size, 2, none⟩ = some (.int .i64 0) := by simp [go_sem]
    have fz : ∀ i, ((w.alloc (.cells #[.int .i64 0, .string ⟨#[]⟩, .int .i64 0] 50)).drewN nq).frozen? ⟨w.heap.size, i, none⟩ = false := fun i => frozen_of_row ((w.alloc (.cells #[.int .i64 0, .string ⟨#[]⟩, .int .i64 0] 50)).drewN nq) w.heap.size i _ 50 (heap_alloc_new w _)
    go_region
    go_wp2_with fail
    simp [bodyPost, results, Tryz.results67, go_sem]
    exact ((((((Below.refl _ w).alloc (Nat.le_refl _) _).trans ((below_drewN _ _).mono (by simp))).setCell (by simp) _).setCell (by simp) _).setCell (by simp) _)
  · have hk := kt_out (L := L) (i := s.n + i) (by omega)
    have hp : placeAt L N (s.n + i) = N := by unfold placeAt; rw [List.getElem?_eq_none (by omega)]
    rw [hk.1, hk.2, hp]
    clear hk hp HT
    have o := fun (a : Addr) (ha : a.block < w.heap.size) => World.cell?_of_block (Go.heap_alloc_old w (.cells #[.int .i64 0, .string ⟨#[]⟩, .int .i64 0] 50) ha)
    have c0' := (o ⟨R, 0, none⟩ hlt).trans c0
    have c1' := (o ⟨R, 1, none⟩ hlt).trans c1
    have c2' := (o ⟨R, 2, none⟩ hlt).trans c2
    clear o c0 c1 c2
    go_enter Tryz.func67, Tryz.ntmps67
    go_wp2_with fail
    go_quiet (fail)
    go_wp2_with fail
    simp [bodyPost, results, Tryz.results67, go_sem]
    exact ((((((Below.refl _ w).alloc (Nat.le_refl _) _).trans ((below_drewN _ _).mono (by simp))).setCell (by simp) _).setCell (by simp) _).setCell (by simp) _)

/-- What a call of a reader's method ends with. -/
def Ends {α : Type} (R : Nat) (L : List Tok) (N : Nat) (st : St9) (w : World) (rep : World → α → Value → Prop) (o : Out α) (e : Ending) (w' : World) : Prop :=
  match o with
  | .ok a t => ∃ v, e = .returned v ∧ rep w' a v ∧ Rd R L N t st w' ∧ Fq R w w'
  | .bad c n => e = .panicked [{ v := .iface 58 (.agg #[.int .i64 c, .int .i64 (placeAt L N n)]), recovered := false }] ∧ Fq R w w'

theorem Ends.split {α : Type} {R : Nat} {L : List Tok} {N : Nat} {st : St9} {w : World} {rep : World → α → Value → Prop} {o : Out α} {e : Ending} {w' : World} (h : Ends R L N st w rep o e w') :
    (∃ a t v, o = .ok a t ∧ e = .returned v ∧ rep w' a v ∧ Rd R L N t st w' ∧ Fq R w w') ∨
    (∃ c n, o = .bad c n ∧ e = .panicked [{ v := .iface 58 (.agg #[.int .i64 c, .int .i64 (placeAt L N n)]), recovered := false }] ∧ Fq R w w') := by
  cases o with
  | ok a t => obtain ⟨v, h⟩ := h; exact .inl ⟨a, t, v, rfl, h⟩
  | bad c n => exact .inr ⟨c, n, rfl, h⟩

theorem Ends.of_ok {α : Type} {R : Nat} {L : List Tok} {N : Nat} {st : St9} {w : World} {rep : World → α → Value → Prop} {o : Out α} {a : α} {t : RS} {v : Value} {w' : World} (ho : .ok a t = o) (hv : rep w' a v)
    (hR : Rd R L N t st w') (hF : Fq R w w') : Ends R L N st w rep o (.returned v) w' := by subst ho; exact ⟨v, rfl, hv, hR, hF⟩
theorem Ends.of_bad {α : Type} {R : Nat} {L : List Tok} {N : Nat} {st : St9} {w : World} {rep : World → α → Value → Prop} {o : Out α} {c : Int} {n : Nat} {w' : World} (ho : .bad c n = o)
    (hF : Fq R w w') : Ends R L N st w rep o (.panicked [{ v := .iface 58 (.agg #[.int .i64 c, .int .i64 (placeAt L N n)]), recovered := false }]) w' := by subst ho; exact ⟨rfl, hF⟩

/-- How values stand for things. -/
def repS (_ : World) (a : Bytes) (v : Value) : Prop := v = .string ⟨a.toArray⟩
def repB (_ : World) (a : Bool) (v : Value) : Prop := v = .bool a
def repI (_ : World) (a : Int) (v : Value) : Prop := v = .int .i64 a
def repN (_ : World) (a : Nat) (v : Value) : Prop := v = .int .i64 a
def repU (_ : World) (_ : Unit) (v : Value) : Prop := v = .tuple #[]

/-- A text as bytes. -/
def bs (l : Bytes) : ByteArray := ⟨l.toArray⟩
theorem fld (a b c : Value) (w : World) : (Instr.field 50 (.agg #[a, b, c]) 0).run Tryz.prog w = .ok a w ∧ (Instr.field 50 (.agg #[a, b, c]) 1).run Tryz.prog w = .ok b w ∧ (Instr.field 50 (.agg #[a, b, c]) 2).run Tryz.prog w = .ok c w :=
  ⟨by kernel_rfl, by kernel_rfl, by kernel_rfl⟩

set_option maxRecDepth 100000 in
set_option maxHeartbeats 1600000 in
theorem isMark5_any (k p : Int) (tb mb : ByteArray) (w : World) :
    Calls Tryz.prog 120 #[.agg #[.int .i64 k, .string tb, .int .i64 p], .string mb] w fun e w' => e = .returned (.bool (decide (k = 6) && (tb.toList == mb.toList))) ∧ Below w.heap.size w w' := by
  go_enter Tryz.func120, Tryz.ntmps120
  by_cases hk : k = 6
  · subst hk
    go_wp2_with fail
    go_ret
    exact ⟨ret_bool rfl, (Below.refl _ w).alloc (Nat.le_refl _) _⟩
  · go_wp2_with fail
    go_ret
    exact ⟨ret_bool (by simp [hk]), (Below.refl _ w).alloc (Nat.le_refl _) _⟩

set_option maxRecDepth 100000 in
set_option maxHeartbeats 1600000 in
theorem isWord_any (tb : ByteArray) (w : World) : Calls Tryz.prog 121 #[.string tb] w fun e w' => e = .returned (.bool (decide (tb.toList ∈ wordsL))) ∧ w' = w := by
  go_enter Tryz.func121, Tryz.ntmps121
  go_wp2
  all_goals go_ret
  all_goals refine ⟨ret_bool ?_, rfl⟩
  all_goals simp_all [wordsL]

/-- A panic of a callee goes on. -/
theorem on_panic {P : Program} {fn : Func} {R : Ending → World → Prop} {chain : List PanicEntry} {a : Act} {w : World} (hd : a.defers = []) (h : R (.panicked chain) w) : bodyPost P fn R (.panic chain) a w := ⟨hd, h⟩

theorem bind_go {α β : Type} {x : M α} {f : α → M β} {s u : RS} {a : α} {o : Out β} (h : (x >>= f) s = o) (hx : x s = .ok a u) : f a u = o := (bind_run hx).symm.trans h
theorem bind_no {α β : Type} {x : M α} {f : α → M β} {s : RS} {c : Int} {n : Nat} {o : Out β} (h : (x >>= f) s = o) (hx : x s = .bad c n) : .bad c n = o := (bind_bad hx).symm.trans h
theorem ask_go {α β : Type} {q : RS → α} {f : α → M β} {s : RS} {o : Out β} (h : (askM q >>= f) s = o) : f (q s) s = o := h
theorem set_go {β : Type} {q : RS → RS} {f : Unit → M β} {s : RS} {o : Out β} (h : (setM q >>= f) s = o) : f () (q s) = o := h
theorem ite_t {α : Type} {A B : M α} {s : RS} {o : Out α} {c : Bool} (h : (if c = true then A else B) s = o) (hc : c = true) : A s = o := by rw [if_pos hc] at h; exact h
theorem ite_f {α : Type} {A B : M α} {s : RS} {o : Out α} {c : Bool} (h : (if c = true then A else B) s = o) (hc : c = false) : B s = o := by rw [if_neg (by simp [hc])] at h; exact h

section
variable (R : Nat) (L : List Tok) (N : Nat) (s : RS) (st : St9) (w : World)

set_option maxRecDepth 100000 in
set_option maxHeartbeats 1600000 in
theorem fail_any (h : Rd R L N s st w) (c : Int) :
    Calls Tryz.prog 69 #[.pointer (some ⟨R, 0, none⟩), .int .i64 c] w fun e w' =>
      e = .panicked [{ v := .iface 58 (.agg #[.int .i64 c, .int .i64 (placeAt L N s.n)]), recovered := false }] ∧ Fq R w w' := by
  have CA := hide (ahead_any R L N s st w h 0 (by omega))
  clear h
  rw [show s.n + 0 = s.n from rfl] at CA
  go_enter Tryz.func69, Tryz.ntmps69
  go_wp2_with fail
  refine CA.out.mono ?_
  rintro _ w1 ⟨rfl, hb⟩
  have HB := hide hb
  clear hb
  have f2 := fun a b c w => (fld a b c w).2.2
  go_wp2_with fail
  exact on_panic rfl ⟨rfl, .of_below HB.out⟩

set_option maxRecDepth 100000 in
set_option maxHeartbeats 1600000 in
theorem take_any (h : Rd R L N s st w) (hn : s.n < L.length) (o : Out Bytes) (ho : takeM (kt L) s = o) :
    Calls Tryz.prog 68 #[.pointer (some ⟨R, 0, none⟩)] w (Ends R L N st w repS o) := by
  have c3 := h.c3
  have HO := hide ho
  have H := hide h
  clear h ho
  unfold takeM at HO
  cases hf : s.full with
  | true =>
    rw [hf] at c3
    have ho := HO.out
    rw [if_pos hf] at ho
    have HO := hide ho
    have CF := hide (fail_any R L N s st w H.out 3)
    clear ho hf
    go_enter Tryz.func68, Tryz.ntmps68
    go_wp2_with fail
    refine CF.out.mono ?_
    rintro _ w1 ⟨rfl, hF⟩
    exact on_panic rfl (.of_bad HO.out hF)
  | false =>
    rw [hf] at c3
    have ho := HO.out
    rw [if_neg (by simp [hf])] at ho
    have HO := hide ho
    have CA := hide (ahead_any R L N s st w H.out 0 (by omega))
    rw [show s.n + 0 = s.n from rfl] at CA
    have hL := H.out.Lle
    clear ho hf
    go_enter Tryz.func68, Tryz.ntmps68
    go_wp2_with fail
    refine CA.out.mono ?_
    rintro _ w1 ⟨rfl, hb⟩
    have H1 := hide (H.out.below hb)
    have c1 := H1.out.c1
    have f1 := H1.out.frz 1
    have HB := hide hb
    clear hb CA
    have f2 := fun a b c w => (fld a b c w).2.1
    go_wp2_with fail
    go_ret
    have hS := H1.out.setN (s.n + 1) (by omega)
    rw [show ((s.n + 1 : Nat) : Int) = (s.n : Int) + 1 from by omega] at hS
    exact .of_ok HO.out rfl hS ((Fq.of_below HB.out).set 1 _)

theorem kd_some {K : Toks} {i : Nat} (h : kd K i ≠ 0) : i < K.length := by
  apply Classical.byContradiction
  intro h'
  apply h
  unfold kd
  rw [List.getElem?_eq_none (by omega)]
  rfl
theorem kd_lt {i k : Nat} (h : kd (kt L) i = k) (hk : k ≠ 0) : i < L.length := by
  have := kd_some (K := kt L) (i := i) (by omega)
  simpa [kt] using this

set_option maxRecDepth 100000 in
set_option maxHeartbeats 1600000 in
theorem hasMark_any (t : Bytes) (h : Rd R L N s st w) (o : Out Bool) (ho : hasMark (kt L) t s = o) :
    Calls Tryz.prog 70 #[.pointer (some ⟨R, 0, none⟩), .string ⟨t.toArray⟩] w (Ends R L N st w repB o) := by
  have HO := hide ho
  have H := hide h
  clear h ho
  have CA := hide (ahead_any R L N s st w H.out 0 (by omega))
  rw [show s.n + 0 = s.n from rfl] at CA
  have ho := ask_go HO.out
  have CI := hide (isMark5_any (kd (kt L) s.n) (placeAt L N s.n) ⟨(tx (kt L) s.n).toArray⟩ ⟨t.toArray⟩)
  have HM : Hid ((decide (((kd (kt L) s.n : Nat) : Int) = 6) && ((⟨(tx (kt L) s.n).toArray⟩ : ByteArray).toList == (⟨t.toArray⟩ : ByteArray).toList)) = markAt (kt L) s.n t) := by
    unfold Hid markAt
    rw [ByteArray.toList_mk, ByteArray.toList_mk]
    rw [show (tx (kt L) s.n == t) = decide (tx (kt L) s.n = t) from Bool.eq_iff_iff.2 (by simp), show decide (((kd (kt L) s.n : Nat) : Int) = 6) = decide (kd (kt L) s.n = 6) from decide_eq_decide.2 (by omega)]
  rw [HM.out] at CI
  clear HO HM
  cases hm : markAt (kt L) s.n t with
  | false =>
    rw [hm] at CI
    have HO := hide (ite_f ho hm)
    clear ho hm
    go_enter Tryz.func70, Tryz.ntmps70
    go_wp2_with fail
    refine CA.out.mono ?_
    rintro _ w1 ⟨rfl, hb⟩
    have HB := hide hb
    clear hb CA
    go_wp2_with fail
    refine (CI.out w1).mono ?_
    rintro _ w2 ⟨rfl, hb⟩
    have HB2 := hide (HB.out.trans (hb.mono HB.out.size))
    clear hb CI HB
    go_wp2_with fail
    go_ret
    exact .of_ok HO.out rfl (H.out.below HB2.out) (.of_below HB2.out)
  | true =>
    rw [hm] at CI
    have HO := hide (ite_t ho hm)
    have hlt : s.n < L.length := kd_lt (L := L) (k := 6) (by unfold markAt at hm; simp at hm; exact hm.1) (by omega)
    clear ho hm
    go_enter Tryz.func70, Tryz.ntmps70
    go_wp2_with fail
    refine CA.out.mono ?_
    rintro _ w1 ⟨rfl, hb⟩
    have HB := hide hb
    clear hb CA
    go_wp2_with fail
    refine (CI.out w1).mono ?_
    rintro _ w2 ⟨rfl, hb⟩
    have HB2 := hide (HB.out.trans (hb.mono HB.out.size))
    clear hb CI HB
    have CT := hide (take_any R L N s st w2 (H.out.below HB2.out) hlt _ rfl)
    go_wp2_with fail
    refine CT.out.mono ?_
    intro e w3 he
    rcases he.split with ⟨a, t, v, ho, rfl, hv, hR, hF⟩ | ⟨c, n, ho, rfl, hF⟩
    · have HO1 := hide (bind_go HO.out ho)
      have hR := hide hR
      have hF := hide hF
      clear HO he hv ho CT
      go_wp2_with fail
      go_ret
      exact .of_ok HO1.out rfl hR.out ((Fq.of_below HB2.out).trans hF.out)
    · exact on_panic rfl (.of_bad (bind_no HO.out ho) ((Fq.of_below HB2.out).trans hF))
end
end Go.Proofs.YthnjmfkiohgkkaaGreatDoor.Sy

namespace Go.Proofs.YthnjmfkiohgkkaaGreatDoor.Sy
open Go.RowKit

/-- What the other layers of the program read of a text. -/
noncomputable def FN : Fns where
  day t := Ca.parseQ ⟨t.toArray⟩
  money t := Mo.parseM (Mo.strB ⟨t.toArray⟩)
  int t := match Lib.atoiAll t with
    | .ok v => some v
    | _ => none
  point t := decide (0 ≤ Lib.indexByte t 46)
  neg x := IntKind.i64.wrap (-x)

theorem tx_le {L : List Tok} (h : ∀ t ∈ L, t.text.length ≤ 65536) (i : Nat) : (tx (kt L) i).length ≤ 65536 := by
  by_cases hi : i < L.length
  · rw [(kt_at (t := L[i]) (by simp [hi])).2]
    exact h _ (List.getElem_mem hi)
  · rw [(kt_out (by omega)).2]
    simp

section
variable (R : Nat) (L : List Tok) (N : Nat) (s : RS) (st : St9) (w : World)

set_option maxRecDepth 100000 in
set_option maxHeartbeats 1600000 in
theorem hasWord_any (t : Bytes) (h : Rd R L N s st w) (o : Out Bool) (ho : hasWord (kt L) t s = o) :
    Calls Tryz.prog 46 #[.pointer (some ⟨R, 0, none⟩), .string ⟨t.toArray⟩] w (Ends R L N st w repB o) := by
  have HO := hide ho
  have H := hide h
  have F := hide (Fq.refl R w)
  clear h ho
  have CA := hide (ahead_any R L N s st w H.out 0 (by omega))
  rw [show s.n + 0 = s.n from rfl] at CA
  have ho := ask_go HO.out
  have HW : Hid (wordAt (kt L) s.n t = (decide (kd (kt L) s.n = 1) && decide (tx (kt L) s.n = t))) := rfl
  clear HO
  by_cases hk : kd (kt L) s.n = 1
  · have hlt : s.n < L.length := kd_lt (L := L) hk (by omega)
    by_cases ht : tx (kt L) s.n = t
    · have HO := hide (ite_t ho (by rw [HW.out, hk, ht]; simp))
      rw [hk, ht] at CA
      clear ho hk ht HW
      go_enter Tryz.func46, Tryz.ntmps46
      go_wp2_with fail
      refine CA.out.mono ?_
      rintro _ w1 ⟨rfl, hb⟩
      have HB := hide (hb.alloc hb.size (.cells #[.int .i64 1, .string ⟨t.toArray⟩, .int .i64 (placeAt L N s.n)] 50))
      clear hb CA
      have H1 := hide (H.out.below HB.out)
      have F1 := hide (F.out.trans (Fq.of_below HB.out))
      clear H F HB
      have C11 := hide (take_any R L N s st _ H1.out hlt _ rfl)
      go_wp2_with fail
      refine C11.out.mono ?_
      intro e w11 he
      rcases he.split with ⟨a11, s11, v11, ho, rfl, hv11, hR, hF⟩ | ⟨c, m, ho, rfl, hF⟩
      rotate_left 1
      · exact on_panic rfl (.of_bad (bind_no HO.out ho) (F1.out.trans hF))
      have HO11 := hide (bind_go HO.out ho)
      have H11 := hide hR
      have F11 := hide (F1.out.trans hF)
      clear he ho hR hF C11 H1 F1 HO
      cases hv11
      go_wp2_with fail
      go_ret
      exact .of_ok HO11.out rfl H11.out F11.out
    · have HO := hide (ite_f ho (by rw [HW.out]; simp [ht]))
      rw [hk] at CA
      have ht' : (tx (kt L) s.n == t) = false := by simp [ht]
      clear ho hk ht HW
      go_enter Tryz.func46, Tryz.ntmps46
      go_wp2_with fail
      refine CA.out.mono ?_
      rintro _ w1 ⟨rfl, hb⟩
      have HB := hide (hb.alloc hb.size (.cells #[.int .i64 1, .string ⟨(tx (kt L) s.n).toArray⟩, .int .i64 (placeAt L N s.n)] 50))
      clear hb CA
      have H1 := hide (H.out.below HB.out)
      have F1 := hide (F.out.trans (Fq.of_below HB.out))
      clear H F HB
      go_wp2_with fail
      go_ret
      exact .of_ok HO.out rfl H1.out F1.out
  · have HO := hide (ite_f ho (by rw [HW.out]; simp [hk]))
    have hk' : ¬ ((kd (kt L) s.n : Nat) : Int) = 1 := by omega
    clear ho hk HW
    go_enter Tryz.func46, Tryz.ntmps46
    go_wp2_with fail
    refine CA.out.mono ?_
    rintro _ w1 ⟨rfl, hb⟩
    have HB := hide (hb.alloc hb.size (.cells #[.int .i64 (kd (kt L) s.n), .string ⟨(tx (kt L) s.n).toArray⟩, .int .i64 (placeAt L N s.n)] 50))
    clear hb CA
    have H1 := hide (H.out.below HB.out)
    have F1 := hide (F.out.trans (Fq.of_below HB.out))
    clear H F HB
    go_wp2_with fail
    go_ret
    exact .of_ok HO.out rfl H1.out F1.out

set_option maxRecDepth 100000 in
set_option maxHeartbeats 1600000 in
theorem name_any (h : Rd R L N s st w) (o : Out Bytes) (ho : nameM (kt L) s = o) :
    Calls Tryz.prog 72 #[.pointer (some ⟨R, 0, none⟩)] w (Ends R L N st w repS o) := by
  have HO := hide ho
  have H := hide h
  have F := hide (Fq.refl R w)
  clear h ho
  have CA := hide (ahead_any R L N s st w H.out 0 (by omega))
  rw [show s.n + 0 = s.n from rfl] at CA
  have ho := ask_go HO.out
  clear HO
  by_cases hk : kd (kt L) s.n = 1
  · have hlt : s.n < L.length := kd_lt (L := L) hk (by omega)
    have CI := hide (isWord_any ⟨(tx (kt L) s.n).toArray⟩)
    rw [ByteArray.toList_mk] at CI
    rw [hk] at CA
    by_cases hw : tx (kt L) s.n ∈ wordsL
    · have HO := hide (ite_f ho (by simp [hk, hw]))
      rw [decide_eq_true hw] at CI
      clear ho hk hw
      go_enter Tryz.func72, Tryz.ntmps72
      go_wp2_with fail
      refine CA.out.mono ?_
      rintro _ w1 ⟨rfl, hb⟩
      have HB := hide (hb.alloc hb.size (.cells #[.int .i64 1, .string ⟨(tx (kt L) s.n).toArray⟩, .int .i64 (placeAt L N s.n)] 50))
      clear hb CA
      have H1 := hide (H.out.below HB.out)
      have F1 := hide (F.out.trans (Fq.of_below HB.out))
      clear H F HB
      go_wp2_with fail
      refine (CI.out _).mono ?_
      rintro _ w2 ⟨rfl, hw2⟩
      subst w2
      have CF := hide (fail_any R L N s st _ H1.out 51)
      go_wp2_with fail
      refine CF.out.mono ?_
      rintro _ w9 ⟨rfl, hF⟩
      exact on_panic rfl (.of_bad HO.out (F1.out.trans hF))
    · have HO := hide (ite_t ho (by simp [hk, hw]))
      rw [decide_eq_false hw] at CI
      clear ho hk hw
      go_enter Tryz.func72, Tryz.ntmps72
      go_wp2_with fail
      refine CA.out.mono ?_
      rintro _ w1 ⟨rfl, hb⟩
      have HB := hide (hb.alloc hb.size (.cells #[.int .i64 1, .string ⟨(tx (kt L) s.n).toArray⟩, .int .i64 (placeAt L N s.n)] 50))
      clear hb CA
      have H1 := hide (H.out.below HB.out)
      have F1 := hide (F.out.trans (Fq.of_below HB.out))
      clear H F HB
      go_wp2_with fail
      refine (CI.out _).mono ?_
      rintro _ w2 ⟨rfl, hw2⟩
      subst w2
      have C12 := hide (take_any R L N s st _ H1.out hlt _ rfl)
      go_wp2_with fail
      refine C12.out.mono ?_
      intro e w12 he
      rcases he.split with ⟨a12, s12, v12, ho, rfl, hv12, hR, hF⟩ | ⟨c, m, ho, rfl, hF⟩
      rotate_left 1
      · exact on_panic rfl (.of_bad (ho.symm.trans HO.out) (F1.out.trans hF))
      have HO12 := hide (ho.symm.trans HO.out)
      have H12 := hide hR
      have F12 := hide (F1.out.trans hF)
      clear he ho hR hF C12 H1 F1 HO
      cases hv12
      go_wp2_with fail
      go_ret
      exact .of_ok HO12.out rfl H12.out F12.out
  · have HO := hide (ite_f ho (by simp [hk]))
    have hk' : ¬ ((kd (kt L) s.n : Nat) : Int) = 1 := by omega
    clear ho hk
    go_enter Tryz.func72, Tryz.ntmps72
    go_wp2_with fail
    refine CA.out.mono ?_
    rintro _ w1 ⟨rfl, hb⟩
    have HB := hide (hb.alloc hb.size (.cells #[.int .i64 (kd (kt L) s.n), .string ⟨(tx (kt L) s.n).toArray⟩, .int .i64 (placeAt L N s.n)] 50))
    clear hb CA
    have H1 := hide (H.out.below HB.out)
    have F1 := hide (F.out.trans (Fq.of_below HB.out))
    clear H F HB
    have CF := hide (fail_any R L N s st _ H1.out 51)
    go_wp2_with fail
    refine CF.out.mono ?_
    rintro _ w9 ⟨rfl, hF⟩
    exact on_panic rfl (.of_bad HO.out (F1.out.trans hF))

set_option maxRecDepth 100000 in
set_option maxHeartbeats 1600000 in
theorem arg_any (h : Rd R L N s st w) (o : Out Bytes) (ho : argM (kt L) s = o) :
    Calls Tryz.prog 159 #[.pointer (some ⟨R, 0, none⟩)] w (Ends R L N st w repS o) := by
  have HO := hide ho
  have H := hide h
  have F := hide (Fq.refl R w)
  clear h ho
  have CA := hide (ahead_any R L N s st w H.out 0 (by omega))
  rw [show s.n + 0 = s.n from rfl] at CA
  have ho := ask_go HO.out
  clear HO
  have f0 := fun a b c w => (fld a b c w).1
  by_cases hk : kd (kt L) s.n = 2
  · have hlt : s.n < L.length := kd_lt (L := L) hk (by omega)
    have HO := hide (ite_t ho (by simp [hk]))
    rw [hk] at CA
    clear ho hk
    go_enter Tryz.func159, Tryz.ntmps159
    go_wp2_with fail
    refine CA.out.mono ?_
    rintro _ w1 ⟨rfl, hb⟩
    have HB := hide hb
    clear hb CA
    have H1 := hide (H.out.below HB.out)
    have F1 := hide (F.out.trans (Fq.of_below HB.out))
    clear H F HB
    have C13 := hide (take_any R L N s st _ H1.out hlt _ rfl)
    go_wp2_with fail
    refine C13.out.mono ?_
    intro e w13 he
    rcases he.split with ⟨a13, s13, v13, ho, rfl, hv13, hR, hF⟩ | ⟨c, m, ho, rfl, hF⟩
    rotate_left 1
    · exact on_panic rfl (.of_bad (ho.symm.trans HO.out) (F1.out.trans hF))
    have HO13 := hide (ho.symm.trans HO.out)
    have H13 := hide hR
    have F13 := hide (F1.out.trans hF)
    clear he ho hR hF C13 H1 F1 HO
    cases hv13
    go_wp2_with fail
    go_ret
    exact .of_ok HO13.out rfl H13.out F13.out
  · have HO := hide (ite_f ho (by simp [hk]))
    have hk' : ¬ ((kd (kt L) s.n : Nat) : Int) = 2 := by omega
    clear ho hk
    go_enter Tryz.func159, Tryz.ntmps159
    go_wp2_with fail
    refine CA.out.mono ?_
    rintro _ w1 ⟨rfl, hb⟩
    have HB := hide hb
    clear hb CA
    have H1 := hide (H.out.below HB.out)
    have F1 := hide (F.out.trans (Fq.of_below HB.out))
    clear H F HB
    have C14 := hide (name_any R L N s st _ H1.out _ rfl)
    go_wp2_with fail
    refine C14.out.mono ?_
    intro e w14 he
    rcases he.split with ⟨a14, s14, v14, ho, rfl, hv14, hR, hF⟩ | ⟨c, m, ho, rfl, hF⟩
    rotate_left 1
    · exact on_panic rfl (.of_bad (ho.symm.trans HO.out) (F1.out.trans hF))
    have HO14 := hide (ho.symm.trans HO.out)
    have H14 := hide hR
    have F14 := hide (F1.out.trans hF)
    clear he ho hR hF C14 H1 F1 HO
    cases hv14
    go_wp2_with fail
    go_ret
    exact .of_ok HO14.out rfl H14.out F14.out

set_option maxRecDepth 100000 in
set_option maxHeartbeats 1600000 in
theorem quote_any (h : Rd R L N s st w) (o : Out Bytes) (ho : quoteM (kt L) s = o) :
    Calls Tryz.prog 47 #[.pointer (some ⟨R, 0, none⟩)] w (Ends R L N st w repS o) := by
  have HO := hide ho
  have H := hide h
  have F := hide (Fq.refl R w)
  clear h ho
  have CA := hide (ahead_any R L N s st w H.out 0 (by omega))
  rw [show s.n + 0 = s.n from rfl] at CA
  have ho := ask_go HO.out
  clear HO
  have f0 := fun a b c w => (fld a b c w).1
  by_cases hk : kd (kt L) s.n = 5
  · have hlt : s.n < L.length := kd_lt (L := L) hk (by omega)
    have HO := hide (ite_t ho (by simp [hk]))
    rw [hk] at CA
    clear ho hk
    go_enter Tryz.func47, Tryz.ntmps47
    go_wp2_with fail
    refine CA.out.mono ?_
    rintro _ w1 ⟨rfl, hb⟩
    have HB := hide hb
    clear hb CA
    have H1 := hide (H.out.below HB.out)
    have F1 := hide (F.out.trans (Fq.of_below HB.out))
    clear H F HB
    have C15 := hide (take_any R L N s st _ H1.out hlt _ rfl)
    go_wp2_with fail
    refine C15.out.mono ?_
    intro e w15 he
    rcases he.split with ⟨a15, s15, v15, ho, rfl, hv15, hR, hF⟩ | ⟨c, m, ho, rfl, hF⟩
    rotate_left 1
    · exact on_panic rfl (.of_bad (ho.symm.trans HO.out) (F1.out.trans hF))
    have HO15 := hide (ho.symm.trans HO.out)
    have H15 := hide hR
    have F15 := hide (F1.out.trans hF)
    clear he ho hR hF C15 H1 F1 HO
    cases hv15
    go_wp2_with fail
    go_ret
    exact .of_ok HO15.out rfl H15.out F15.out
  · have HO := hide (ite_f ho (by simp [hk]))
    have hk' : ¬ ((kd (kt L) s.n : Nat) : Int) = 5 := by omega
    clear ho hk
    go_enter Tryz.func47, Tryz.ntmps47
    go_wp2_with fail
    refine CA.out.mono ?_
    rintro _ w1 ⟨rfl, hb⟩
    have HB := hide hb
    clear hb CA
    have H1 := hide (H.out.below HB.out)
    have F1 := hide (F.out.trans (Fq.of_below HB.out))
    clear H F HB
    have CF := hide (fail_any R L N s st _ H1.out 51)
    go_wp2_with fail
    refine CF.out.mono ?_
    rintro _ w9 ⟨rfl, hF⟩
    exact on_panic rfl (.of_bad HO.out (F1.out.trans hF))

set_option maxRecDepth 100000 in
set_option maxHeartbeats 1600000 in
theorem date_any (h : Rd R L N s st w) (o : Out Int) (ho : dateM FN (kt L) s = o) :
    Calls Tryz.prog 129 #[.pointer (some ⟨R, 0, none⟩)] w (Ends R L N st w repI o) := by
  have HO := hide ho
  have H := hide h
  have F := hide (Fq.refl R w)
  clear h ho
  have CA := hide (ahead_any R L N s st w H.out 0 (by omega))
  rw [show s.n + 0 = s.n from rfl] at CA
  have ho := ask_go HO.out
  obtain ⟨d, er, hd⟩ : ∃ d er, FN.day (tx (kt L) s.n) = (d, er) := ⟨_, _, rfl⟩
  have CP := hide (Ca.parse_any ⟨(tx (kt L) s.n).toArray⟩)
  rw [show Ca.parseQ ⟨(tx (kt L) s.n).toArray⟩ = (d, er) from hd] at CP
  simp only [Ca.duo] at CP
  clear HO
  by_cases hk : kd (kt L) s.n = 4
  · have hlt : s.n < L.length := kd_lt (L := L) hk (by omega)
    rw [hk] at CA
    by_cases he : er = 0
    · have HO := hide (ask_go (ite_t ho (by simp [hk, hd, he])))
      simp only [hd] at HO
      subst he
      clear ho hk hd
      go_enter Tryz.func129, Tryz.ntmps129
      go_wp2_with fail
      refine CA.out.mono ?_
      rintro _ w1 ⟨rfl, hb⟩
      have HB := hide (hb.alloc hb.size (.cells #[.int .i64 4, .string ⟨(tx (kt L) s.n).toArray⟩, .int .i64 (placeAt L N s.n)] 50))
      clear hb CA
      have H1 := hide (H.out.below HB.out)
      have F1 := hide (F.out.trans (Fq.of_below HB.out))
      clear H F HB
      go_wp2_with fail
      refine (CP.out _).mono ?_
      rintro _ w2 ⟨rfl, hb⟩
      have H2 := hide (H1.out.below hb)
      have F2 := hide (F1.out.trans (Fq.of_below hb))
      have z0 : w2.cell? ⟨w1.heap.size, 0, none⟩ = _ := (hb.cell (by simp)).trans (cell_of_row _ _ 0 _ 50 _ (heap_alloc_new w1 _))
      simp at z0
      clear hb CP H1 F1
      have C16 := hide (take_any R L N s st _ H2.out hlt _ rfl)
      go_wp2_with fail
      refine C16.out.mono ?_
      intro e w16 he
      rcases he.split with ⟨a16, s16, v16, ho, rfl, hv16, hR, hF⟩ | ⟨c, m, ho, rfl, hF⟩
      rotate_left 1
      · exact on_panic rfl (.of_bad (bind_no HO.out ho) (F2.out.trans hF))
      have HO16 := hide (bind_go HO.out ho)
      have H16 := hide hR
      have F16 := hide (F2.out.trans hF)
      clear he ho hR hF C16 H2 F2 HO
      cases hv16
      go_wp2_with fail
      go_ret
      exact .of_ok HO16.out rfl H16.out F16.out
    · have HO := hide (ite_f ho (by simp [hd, he]))
      clear ho hk hd
      go_enter Tryz.func129, Tryz.ntmps129
      go_wp2_with fail
      refine CA.out.mono ?_
      rintro _ w1 ⟨rfl, hb⟩
      have HB := hide (hb.alloc hb.size (.cells #[.int .i64 4, .string ⟨(tx (kt L) s.n).toArray⟩, .int .i64 (placeAt L N s.n)] 50))
      clear hb CA
      have H1 := hide (H.out.below HB.out)
      have F1 := hide (F.out.trans (Fq.of_below HB.out))
      clear H F HB
      go_wp2_with fail
      refine (CP.out _).mono ?_
      rintro _ w2 ⟨rfl, hb⟩
      have H2 := hide (H1.out.below hb)
      have F2 := hide (F1.out.trans (Fq.of_below hb))
      have z0 : w2.cell? ⟨w1.heap.size, 0, none⟩ = _ := (hb.cell (by simp)).trans (cell_of_row _ _ 0 _ 50 _ (heap_alloc_new w1 _))
      simp at z0
      clear hb CP H1 F1
      have CF := hide (fail_any R L N s st _ H2.out 51)
      go_wp2_with fail
      refine CF.out.mono ?_
      rintro _ w9 ⟨rfl, hF⟩
      exact on_panic rfl (.of_bad HO.out (F2.out.trans hF))
  · have HO := hide (ite_f ho (by simp [hk]))
    have hk' : ¬ ((kd (kt L) s.n : Nat) : Int) = 4 := by omega
    clear ho hk hd
    go_enter Tryz.func129, Tryz.ntmps129
    go_wp2_with fail
    refine CA.out.mono ?_
    rintro _ w1 ⟨rfl, hb⟩
    have HB := hide (hb.alloc hb.size (.cells #[.int .i64 (kd (kt L) s.n), .string ⟨(tx (kt L) s.n).toArray⟩, .int .i64 (placeAt L N s.n)] 50))
    clear hb CA
    have H1 := hide (H.out.below HB.out)
    have F1 := hide (F.out.trans (Fq.of_below HB.out))
    clear H F HB
    go_wp2_with fail
    refine (CP.out _).mono ?_
    rintro _ w2 ⟨rfl, hb⟩
    have H2 := hide (H1.out.below hb)
    have F2 := hide (F1.out.trans (Fq.of_below hb))
    have z0 : w2.cell? ⟨w1.heap.size, 0, none⟩ = _ := (hb.cell (by simp)).trans (cell_of_row _ _ 0 _ 50 _ (heap_alloc_new w1 _))
    simp at z0
    clear hb CP H1 F1
    have CF := hide (fail_any R L N s st _ H2.out 51)
    go_wp2_with fail
    refine CF.out.mono ?_
    rintro _ w9 ⟨rfl, hF⟩
    exact on_panic rfl (.of_bad HO.out (F2.out.trans hF))

end
end Go.Proofs.YthnjmfkiohgkkaaGreatDoor.Sy

namespace Go.Proofs.YthnjmfkiohgkkaaGreatDoor.Sy
open Go.RowKit

section
variable (R : Nat) (L : List Tok) (N : Nat) (s : RS) (st : St9) (w : World)

set_option maxRecDepth 100000 in
set_option maxHeartbeats 1600000 in
theorem wantMark_any (t : Bytes) (h : Rd R L N s st w) (o : Out Unit) (ho : wantMark (kt L) t s = o) :
    Calls Tryz.prog 48 #[.pointer (some ⟨R, 0, none⟩), .string ⟨t.toArray⟩] w (Ends R L N st w repU o) := by
  have HO := hide ho
  have H := hide h
  have F := hide (Fq.refl R w)
  clear h ho
  go_enter Tryz.func48, Tryz.ntmps48
  have C11 := hide (hasMark_any R L N s st _ t H.out _ rfl)
  go_wp2_with fail
  refine C11.out.mono ?_
  intro e w11 he
  rcases he.split with ⟨a11, s11, v11, ho, rfl, hv11, hR, hF⟩ | ⟨c, m, ho, rfl, hF⟩
  rotate_left 1
  · exact on_panic rfl (.of_bad (bind_no HO.out ho) (F.out.trans hF))
  have HO11 := hide (bind_go HO.out ho)
  have H11 := hide hR
  have F11 := hide (F.out.trans hF)
  clear he ho hR hF C11 H F HO
  cases hv11
  cases a11 with
  | false =>
    have HO := hide (ite_f HO11.out rfl)
    have CF := hide (fail_any R L N s11 st _ H11.out 51)
    go_wp2_with fail
    refine CF.out.mono ?_
    rintro _ w9 ⟨rfl, hF⟩
    exact on_panic rfl (.of_bad HO.out (F11.out.trans hF))
  | true =>
    have HO := hide (ite_t HO11.out rfl)
    go_wp2_with fail
    go_end0
    exact .of_ok HO.out rfl H11.out F11.out

set_option maxRecDepth 100000 in
set_option maxHeartbeats 1600000 in
theorem wantWord_any (t : Bytes) (h : Rd R L N s st w) (o : Out Unit) (ho : wantWord (kt L) t s = o) :
    Calls Tryz.prog 127 #[.pointer (some ⟨R, 0, none⟩), .string ⟨t.toArray⟩] w (Ends R L N st w repU o) := by
  have HO := hide ho
  have H := hide h
  have F := hide (Fq.refl R w)
  clear h ho
  go_enter Tryz.func127, Tryz.ntmps127
  have C12 := hide (hasWord_any R L N s st _ t H.out _ rfl)
  go_wp2_with fail
  refine C12.out.mono ?_
  intro e w12 he
  rcases he.split with ⟨a12, s12, v12, ho, rfl, hv12, hR, hF⟩ | ⟨c, m, ho, rfl, hF⟩
  rotate_left 1
  · exact on_panic rfl (.of_bad (bind_no HO.out ho) (F.out.trans hF))
  have HO12 := hide (bind_go HO.out ho)
  have H12 := hide hR
  have F12 := hide (F.out.trans hF)
  clear he ho hR hF C12 H F HO
  cases hv12
  cases a12 with
  | false =>
    have HO := hide (ite_f HO12.out rfl)
    have CF := hide (fail_any R L N s12 st _ H12.out 51)
    go_wp2_with fail
    refine CF.out.mono ?_
    rintro _ w9 ⟨rfl, hF⟩
    exact on_panic rfl (.of_bad HO.out (F12.out.trans hF))
  | true =>
    have HO := hide (ite_t HO12.out rfl)
    go_wp2_with fail
    go_end0
    exact .of_ok HO.out rfl H12.out F12.out

set_option maxRecDepth 100000 in
set_option maxHeartbeats 1600000 in
theorem comma_any (h : Rd R L N s st w) (o : Out Bool) (ho : commaM (kt L) s = o) :
    Calls Tryz.prog 123 #[.pointer (some ⟨R, 0, none⟩)] w (Ends R L N st w repB o) := by
  have HO := hide ho
  have H := hide h
  have F := hide (Fq.refl R w)
  clear h ho
  go_enter Tryz.func123, Tryz.ntmps123
  have C13 := hide (hasMark_any R L N s st _ [44] H.out _ rfl)
  go_wp2_with fail
  refine C13.out.mono ?_
  intro e w13 he
  rcases he.split with ⟨a13, s13, v13, ho, rfl, hv13, hR, hF⟩ | ⟨c, m, ho, rfl, hF⟩
  rotate_left 1
  · exact on_panic rfl (.of_bad (ho.symm.trans HO.out) (F.out.trans hF))
  have HO13 := hide (ho.symm.trans HO.out)
  have H13 := hide hR
  have F13 := hide (F.out.trans hF)
  clear he ho hR hF C13 H F HO
  cases hv13
  go_wp2_with fail
  go_ret
  exact .of_ok HO13.out rfl H13.out F13.out

set_option maxRecDepth 100000 in
set_option maxHeartbeats 1600000 in
theorem int_any (lo hi : Int) (h : Rd R L N s st w) (o : Out Int) (ho : intM FN (kt L) lo hi s = o) :
    Calls Tryz.prog 128 #[.pointer (some ⟨R, 0, none⟩), .int .i64 lo, .int .i64 hi] w (Ends R L N st w repI o) := by
  have HO := hide ho
  have H := hide h
  have F := hide (Fq.refl R w)
  clear h ho
  have hle := tx_le H.out.tle s.n
  have CA := hide (ahead_any R L N s st w H.out 0 (by omega))
  rw [show s.n + 0 = s.n from rfl] at CA
  have ho := ask_go HO.out
  obtain ⟨pt, hp⟩ : ∃ b, FN.point (tx (kt L) s.n) = b := ⟨_, rfl⟩
  have CP := hide (Tryz.strings_Contains_one ⟨(tx (kt L) s.n).toArray⟩ 46)
  rw [show (decide (0 ≤ Lib.indexByte (⟨(tx (kt L) s.n).toArray⟩ : ByteArray).data.toList 46)) = pt from hp] at CP
  clear HO
  by_cases hk : kd (kt L) s.n = 3
  · have hlt : s.n < L.length := kd_lt (L := L) hk (by omega)
    rw [hk] at CA
    cases pt with
    | true =>
      have HO := hide (ite_f ho (by simp [hp]))
      clear ho hk hp
      go_enter Tryz.func128, Tryz.ntmps128
      go_wp2_with fail
      refine CA.out.mono ?_
      rintro _ w1 ⟨rfl, hb⟩
      have HB := hide (hb.alloc hb.size (.cells #[.int .i64 3, .string ⟨(tx (kt L) s.n).toArray⟩, .int .i64 (placeAt L N s.n)] 50))
      clear hb CA
      have H1 := hide (H.out.below HB.out)
      have F1 := hide (F.out.trans (Fq.of_below HB.out))
      clear H F HB
      go_wp2_with fail
      refine (CP.out _).mono ?_
      rintro _ w2 ⟨rfl, hw2⟩
      subst w2
      have CF := hide (fail_any R L N s st _ H1.out 51)
      go_wp2_with fail
      refine CF.out.mono ?_
      rintro _ w9 ⟨rfl, hF⟩
      exact on_panic rfl (.of_bad HO.out (F1.out.trans hF))
    | false =>
      have HO := hide (ask_go (ite_t ho (by simp [hk, hp])))
      clear ho hk hp
      cases hi' : Lib.atoiAll (tx (kt L) s.n) with
      | ok v =>
        obtain ⟨hv0, hv1⟩ := Lib.atoiAll_bounds hi'
        have HI : Hid (FN.int (tx (kt L) s.n) = some v) := by unfold Hid FN; simp only [hi']
        have CI := hide (Tryz.strconv_Atoi_ok ⟨(tx (kt L) s.n).toArray⟩ (by show (tx (kt L) s.n).length ≤ _; omega) v hi')
        clear hi'
        have hok : okInt FN lo hi (tx (kt L) s.n) = (decide (lo ≤ v) && decide (v ≤ hi)) := by unfold okInt; rw [HI.out]
        by_cases h1 : lo ≤ v
        · by_cases h2 : v ≤ hi
          · have HO := hide (ask_go (ite_t HO.out (by rw [hok]; simp [h1, h2])))
            simp only [HI.out, Option.getD] at HO
            have h1' : ¬ v < lo := by omega
            have h2' : ¬ hi < v := by omega
            clear h1 h2 hok HI
            go_enter Tryz.func128, Tryz.ntmps128
            go_wp2_with fail
            refine CA.out.mono ?_
            rintro _ w1 ⟨rfl, hb⟩
            have HB := hide (hb.alloc hb.size (.cells #[.int .i64 3, .string ⟨(tx (kt L) s.n).toArray⟩, .int .i64 (placeAt L N s.n)] 50))
            clear hb CA
            have H1 := hide (H.out.below HB.out)
            have F1 := hide (F.out.trans (Fq.of_below HB.out))
            clear H F HB
            go_wp2_with fail
            refine (CP.out _).mono ?_
            rintro _ w2 ⟨rfl, hw2⟩
            subst w2
            go_wp2_with fail
            refine (CI.out _).mono ?_
            rintro _ w3 ⟨rfl, hw3⟩
            have HB3 : Hid (Below _ _ w3) := hide (by
              rcases hw3 with rfl | ⟨t, rfl⟩
              · exact Below.refl _ _
              · exact Lib.bytesWorld_below _ _ _)
            have H2 := hide (H1.out.below HB3.out)
            have F2 := hide (F1.out.trans (Fq.of_below HB3.out))
            clear hw3 CI H1 F1 HB3
            have C14 := hide (take_any R L N s st _ H2.out hlt _ rfl)
            go_wp2_with fail
            refine C14.out.mono ?_
            intro e w14 he
            rcases he.split with ⟨a14, s14, v14, ho, rfl, hv14, hR, hF⟩ | ⟨c, m, ho, rfl, hF⟩
            rotate_left 1
            · exact on_panic rfl (.of_bad (bind_no HO.out ho) (F2.out.trans hF))
            have HO14 := hide (bind_go HO.out ho)
            have H14 := hide hR
            have F14 := hide (F2.out.trans hF)
            clear he ho hR hF C14 H2 F2 HO
            cases hv14
            go_wp2_with fail
            go_ret
            exact .of_ok HO14.out rfl H14.out F14.out
          · have HO := hide (ite_f HO.out (by rw [hok]; simp [h2]))
            have h1' : ¬ v < lo := by omega
            have h2' : hi < v := by omega
            clear h1 h2 hok HI
            go_enter Tryz.func128, Tryz.ntmps128
            go_wp2_with fail
            refine CA.out.mono ?_
            rintro _ w1 ⟨rfl, hb⟩
            have HB := hide (hb.alloc hb.size (.cells #[.int .i64 3, .string ⟨(tx (kt L) s.n).toArray⟩, .int .i64 (placeAt L N s.n)] 50))
            clear hb CA
            have H1 := hide (H.out.below HB.out)
            have F1 := hide (F.out.trans (Fq.of_below HB.out))
            clear H F HB
            go_wp2_with fail
            refine (CP.out _).mono ?_
            rintro _ w2 ⟨rfl, hw2⟩
            subst w2
            go_wp2_with fail
            refine (CI.out _).mono ?_
            rintro _ w3 ⟨rfl, hw3⟩
            have HB3 : Hid (Below _ _ w3) := hide (by
              rcases hw3 with rfl | ⟨t, rfl⟩
              · exact Below.refl _ _
              · exact Lib.bytesWorld_below _ _ _)
            have H2 := hide (H1.out.below HB3.out)
            have F2 := hide (F1.out.trans (Fq.of_below HB3.out))
            clear hw3 CI H1 F1 HB3
            have CF := hide (fail_any R L N s st _ H2.out 4)
            go_wp2_with fail
            refine CF.out.mono ?_
            rintro _ w9 ⟨rfl, hF⟩
            exact on_panic rfl (.of_bad HO.out (F2.out.trans hF))
        · have HO := hide (ite_f HO.out (by rw [hok]; simp [h1]))
          have h1' : v < lo := by omega
          clear h1 hok HI
          go_enter Tryz.func128, Tryz.ntmps128
          go_wp2_with fail
          refine CA.out.mono ?_
          rintro _ w1 ⟨rfl, hb⟩
          have HB := hide (hb.alloc hb.size (.cells #[.int .i64 3, .string ⟨(tx (kt L) s.n).toArray⟩, .int .i64 (placeAt L N s.n)] 50))
          clear hb CA
          have H1 := hide (H.out.below HB.out)
          have F1 := hide (F.out.trans (Fq.of_below HB.out))
          clear H F HB
          go_wp2_with fail
          refine (CP.out _).mono ?_
          rintro _ w2 ⟨rfl, hw2⟩
          subst w2
          go_wp2_with fail
          refine (CI.out _).mono ?_
          rintro _ w3 ⟨rfl, hw3⟩
          have HB3 : Hid (Below _ _ w3) := hide (by
            rcases hw3 with rfl | ⟨t, rfl⟩
            · exact Below.refl _ _
            · exact Lib.bytesWorld_below _ _ _)
          have H2 := hide (H1.out.below HB3.out)
          have F2 := hide (F1.out.trans (Fq.of_below HB3.out))
          clear hw3 CI H1 F1 HB3
          have CF := hide (fail_any R L N s st _ H2.out 4)
          go_wp2_with fail
          refine CF.out.mono ?_
          rintro _ w9 ⟨rfl, hF⟩
          exact on_panic rfl (.of_bad HO.out (F2.out.trans hF))
      | «syntax» =>
        have HI : Hid (FN.int (tx (kt L) s.n) = none) := by unfold Hid FN; simp only [hi']
        have hok : okInt FN lo hi (tx (kt L) s.n) = false := by unfold okInt; rw [HI.out]
        have HO := hide (ite_f HO.out hok)
        obtain ⟨e1, e2, v1, v2, v3, v4, v5⟩ := H.out.vars
        have HV := hide v1
        have HE := hide v4
        have CI := hide (fun w => Tryz.strconv_Atoi_syntax ⟨(tx (kt L) s.n).toArray⟩ (by show (tx (kt L) s.n).length ≤ _; omega) hi' e1 w)
        clear hi' hok HI v1 v2 v3 v4 v5
        go_enter Tryz.func128, Tryz.ntmps128
        go_wp2_with fail
        refine CA.out.mono ?_
        rintro _ w1 ⟨rfl, hb⟩
        have HB := hide (hb.alloc hb.size (.cells #[.int .i64 3, .string ⟨(tx (kt L) s.n).toArray⟩, .int .i64 (placeAt L N s.n)] 50))
        clear hb CA
        have HV1 := hide ((HB.out.cell (p := ⟨1, 0, none⟩) (by have := World.block_lt_of_cell? _ _ HV.out; exact this)).trans HV.out)
        have H1 := hide (H.out.below HB.out)
        have F1 := hide (F.out.trans (Fq.of_below HB.out))
        clear H F HB
        go_wp2_with fail
        refine (CP.out _).mono ?_
        rintro _ w2 ⟨rfl, hw2⟩
        subst w2
        go_wp2_with fail
        refine (CI.out _ HV1.out HE.out).mono ?_
        rintro _ w3 ⟨nb, rfl, _, _, hb⟩
        have H2 := hide (H1.out.below hb)
        have F2 := hide (F1.out.trans (Fq.of_below hb))
        clear hb CI H1 F1
        have CF := hide (fail_any R L N s st _ H2.out 4)
        go_wp2_with fail
        refine CF.out.mono ?_
        rintro _ w9 ⟨rfl, hF⟩
        exact on_panic rfl (.of_bad HO.out (F2.out.trans hF))
      | range =>
        have HI : Hid (FN.int (tx (kt L) s.n) = none) := by unfold Hid FN; simp only [hi']
        have hok : okInt FN lo hi (tx (kt L) s.n) = false := by unfold okInt; rw [HI.out]
        have HO := hide (ite_f HO.out hok)
        obtain ⟨e1, e2, v1, v2, v3, v4, v5⟩ := H.out.vars
        have HV := hide v2
        have HE := hide v5
        have CI := hide (fun w => Tryz.strconv_Atoi_range ⟨(tx (kt L) s.n).toArray⟩ (by show (tx (kt L) s.n).length ≤ _; omega) hi' e2 w)
        clear hi' hok HI v1 v2 v3 v4 v5
        go_enter Tryz.func128, Tryz.ntmps128
        go_wp2_with fail
        refine CA.out.mono ?_
        rintro _ w1 ⟨rfl, hb⟩
        have HB := hide (hb.alloc hb.size (.cells #[.int .i64 3, .string ⟨(tx (kt L) s.n).toArray⟩, .int .i64 (placeAt L N s.n)] 50))
        clear hb CA
        have HV1 := hide ((HB.out.cell (p := ⟨2, 0, none⟩) (by have := World.block_lt_of_cell? _ _ HV.out; exact this)).trans HV.out)
        have H1 := hide (H.out.below HB.out)
        have F1 := hide (F.out.trans (Fq.of_below HB.out))
        clear H F HB
        go_wp2_with fail
        refine (CP.out _).mono ?_
        rintro _ w2 ⟨rfl, hw2⟩
        subst w2
        go_wp2_with fail
        refine (CI.out _ HV1.out HE.out).mono ?_
        rintro _ w3 ⟨nb, rfl, _, _, hb⟩
        have H2 := hide (H1.out.below hb)
        have F2 := hide (F1.out.trans (Fq.of_below hb))
        clear hb CI H1 F1
        have CF := hide (fail_any R L N s st _ H2.out 4)
        go_wp2_with fail
        refine CF.out.mono ?_
        rintro _ w9 ⟨rfl, hF⟩
        exact on_panic rfl (.of_bad HO.out (F2.out.trans hF))
  · have HO := hide (ite_f ho (by simp [hk]))
    have hk' : ¬ ((kd (kt L) s.n : Nat) : Int) = 3 := by omega
    clear ho hk hp
    go_enter Tryz.func128, Tryz.ntmps128
    go_wp2_with fail
    refine CA.out.mono ?_
    rintro _ w1 ⟨rfl, hb⟩
    have HB := hide (hb.alloc hb.size (.cells #[.int .i64 (kd (kt L) s.n), .string ⟨(tx (kt L) s.n).toArray⟩, .int .i64 (placeAt L N s.n)] 50))
    clear hb CA
    have H1 := hide (H.out.below HB.out)
    have F1 := hide (F.out.trans (Fq.of_below HB.out))
    clear H F HB
    have CF := hide (fail_any R L N s st _ H1.out 51)
    go_wp2_with fail
    refine CF.out.mono ?_
    rintro _ w9 ⟨rfl, hF⟩
    exact on_panic rfl (.of_bad HO.out (F1.out.trans hF))

set_option maxRecDepth 100000 in
set_option maxHeartbeats 1600000 in
theorem money_any (h : Rd R L N s st w) (o : Out Int) (ho : moneyM FN (kt L) s = o) :
    Calls Tryz.prog 126 #[.pointer (some ⟨R, 0, none⟩)] w (Ends R L N st w repI o) := by
  have HO := hide ho
  have H := hide h
  have F := hide (Fq.refl R w)
  clear h ho
  go_enter Tryz.func126, Tryz.ntmps126
  have C15 := hide (hasMark_any R L N s st _ [45] H.out _ rfl)
  go_wp2_with fail
  refine C15.out.mono ?_
  intro e w15 he
  rcases he.split with ⟨a15, s15, v15, ho, rfl, hv15, hR, hF⟩ | ⟨c, m, ho, rfl, hF⟩
  rotate_left 1
  · exact on_panic rfl (.of_bad (bind_no HO.out ho) (F.out.trans hF))
  have HO15 := hide (bind_go HO.out ho)
  have H15 := hide hR
  have F15 := hide (F.out.trans hF)
  clear he ho hR hF C15 H F HO
  cases hv15
  cases a15 with
  | true =>
    have HO := hide (ite_t HO15.out rfl)
    clear HO15
    have hle := tx_le H15.out.tle s15.n
    have CA := hide (ahead_any R L N s15 st _ H15.out 0 (by omega))
    rw [show s15.n + 0 = s15.n from rfl] at CA
    have ho := ask_go HO.out
    clear HO
    by_cases hk : kd (kt L) s15.n = 3
    · have hlt : s15.n < L.length := kd_lt (L := L) hk (by omega)
      have ho := ask_go (ite_t ho (by simp [hk]))
      rw [hk] at CA
      obtain ⟨d, er, hd⟩ : ∃ d er, FN.money ([45] ++ tx (kt L) s15.n) = (d, er) := ⟨_, _, rfl⟩
      have hbs : (⟨[45].toArray⟩ ++ ⟨(tx (kt L) s15.n).toArray⟩ : ByteArray) = ⟨([45] ++ tx (kt L) s15.n).toArray⟩ := by apply ByteArray.ext; simp
      have CP := hide (fun w => Mo.parse_any (⟨[45].toArray⟩ ++ ⟨(tx (kt L) s15.n).toArray⟩) w (by rw [hbs]; show ([45] ++ tx (kt L) s15.n).length ≤ _; simp; omega))
      rw [show Mo.parseM (Mo.strB (⟨[45].toArray⟩ ++ ⟨(tx (kt L) s15.n).toArray⟩)) = (d, er) from by rw [hbs]; exact hd] at CP
      simp only [Mo.pairV] at CP
      simp only [hd] at ho
      by_cases he : er = 0
      · subst er
        have HO := hide (ite_t ho (by simp))
        clear ho hk hd hbs
        go_wp2_with fail
        refine CA.out.mono ?_
        rintro _ w1 ⟨rfl, hb⟩
        have HB := hide (hb.alloc hb.size (.cells #[.int .i64 3, .string ⟨(tx (kt L) s15.n).toArray⟩, .int .i64 (placeAt L N s15.n)] 50))
        clear hb CA
        have H1 := hide (H15.out.below HB.out)
        have F1 := hide (F15.out.trans (Fq.of_below HB.out))
        clear H15 F15 HB
        go_wp2_with fail
        refine (CP.out _).mono ?_
        rintro _ w2 ⟨rfl, hb⟩
        have H2 := hide (H1.out.below hb)
        have F2 := hide (F1.out.trans (Fq.of_below hb))
        clear hb CP H1 F1
        have C16 := hide (take_any R L N s15 st _ H2.out hlt _ rfl)
        go_wp2_with fail
        refine C16.out.mono ?_
        intro e w16 he
        rcases he.split with ⟨a16, s16, v16, ho, rfl, hv16, hR, hF⟩ | ⟨c, m, ho, rfl, hF⟩
        rotate_left 1
        · exact on_panic rfl (.of_bad (bind_no HO.out ho) (F2.out.trans hF))
        have HO16 := hide (bind_go HO.out ho)
        have H16 := hide hR
        have F16 := hide (F2.out.trans hF)
        clear he ho hR hF C16 H2 F2 HO
        cases hv16
        go_wp2_with fail
        go_ret
        exact .of_ok HO16.out rfl H16.out F16.out
      · have HO := hide (ite_f ho (by simp [he]))
        clear ho hk hd hbs
        go_wp2_with fail
        refine CA.out.mono ?_
        rintro _ w1 ⟨rfl, hb⟩
        have HB := hide (hb.alloc hb.size (.cells #[.int .i64 3, .string ⟨(tx (kt L) s15.n).toArray⟩, .int .i64 (placeAt L N s15.n)] 50))
        clear hb CA
        have H1 := hide (H15.out.below HB.out)
        have F1 := hide (F15.out.trans (Fq.of_below HB.out))
        clear H15 F15 HB
        go_wp2_with fail
        refine (CP.out _).mono ?_
        rintro _ w2 ⟨rfl, hb⟩
        have H2 := hide (H1.out.below hb)
        have F2 := hide (F1.out.trans (Fq.of_below hb))
        clear hb CP H1 F1
        have CF := hide (fail_any R L N s15 st _ H2.out er)
        go_wp2_with fail
        refine CF.out.mono ?_
        rintro _ w9 ⟨rfl, hF⟩
        exact on_panic rfl (.of_bad HO.out (F2.out.trans hF))
    · have HO := hide (ite_f ho (by simp [hk]))
      have hk' : ¬ ((kd (kt L) s15.n : Nat) : Int) = 3 := by omega
      clear ho hk
      go_wp2_with fail
      refine CA.out.mono ?_
      rintro _ w1 ⟨rfl, hb⟩
      have HB := hide (hb.alloc hb.size (.cells #[.int .i64 (kd (kt L) s15.n), .string ⟨(tx (kt L) s15.n).toArray⟩, .int .i64 (placeAt L N s15.n)] 50))
      clear hb CA
      have H1 := hide (H15.out.below HB.out)
      have F1 := hide (F15.out.trans (Fq.of_below HB.out))
      clear H15 F15 HB
      have CF := hide (fail_any R L N s15 st _ H1.out 51)
      go_wp2_with fail
      refine CF.out.mono ?_
      rintro _ w9 ⟨rfl, hF⟩
      exact on_panic rfl (.of_bad HO.out (F1.out.trans hF))
  | false =>
    have HO := hide (ite_f HO15.out rfl)
    clear HO15
    have hle := tx_le H15.out.tle s15.n
    have CA := hide (ahead_any R L N s15 st _ H15.out 0 (by omega))
    rw [show s15.n + 0 = s15.n from rfl] at CA
    have ho := ask_go HO.out
    clear HO
    by_cases hk : kd (kt L) s15.n = 3
    · have hlt : s15.n < L.length := kd_lt (L := L) hk (by omega)
      have ho := ask_go (ite_t ho (by simp [hk]))
      rw [hk] at CA
      obtain ⟨d, er, hd⟩ : ∃ d er, FN.money ([] ++ tx (kt L) s15.n) = (d, er) := ⟨_, _, rfl⟩
      have hbs : (⟨[].toArray⟩ ++ ⟨(tx (kt L) s15.n).toArray⟩ : ByteArray) = ⟨([] ++ tx (kt L) s15.n).toArray⟩ := by apply ByteArray.ext; simp
      have CP := hide (fun w => Mo.parse_any (⟨[].toArray⟩ ++ ⟨(tx (kt L) s15.n).toArray⟩) w (by rw [hbs]; show ([] ++ tx (kt L) s15.n).length ≤ _; simp; omega))
      rw [show Mo.parseM (Mo.strB (⟨[].toArray⟩ ++ ⟨(tx (kt L) s15.n).toArray⟩)) = (d, er) from by rw [hbs]; exact hd] at CP
      simp only [Mo.pairV] at CP
      simp only [hd] at ho
      by_cases he : er = 0
      · subst er
        have HO := hide (ite_t ho (by simp))
        clear ho hk hd hbs
        go_wp2_with fail
        refine CA.out.mono ?_
        rintro _ w1 ⟨rfl, hb⟩
        have HB := hide (hb.alloc hb.size (.cells #[.int .i64 3, .string ⟨(tx (kt L) s15.n).toArray⟩, .int .i64 (placeAt L N s15.n)] 50))
        clear hb CA
        have H1 := hide (H15.out.below HB.out)
        have F1 := hide (F15.out.trans (Fq.of_below HB.out))
        clear H15 F15 HB
        go_wp2_with fail
        refine (CP.out _).mono ?_
        rintro _ w2 ⟨rfl, hb⟩
        have H2 := hide (H1.out.below hb)
        have F2 := hide (F1.out.trans (Fq.of_below hb))
        clear hb CP H1 F1
        have C17 := hide (take_any R L N s15 st _ H2.out hlt _ rfl)
        go_wp2_with fail
        refine C17.out.mono ?_
        intro e w17 he
        rcases he.split with ⟨a17, s17, v17, ho, rfl, hv17, hR, hF⟩ | ⟨c, m, ho, rfl, hF⟩
        rotate_left 1
        · exact on_panic rfl (.of_bad (bind_no HO.out ho) (F2.out.trans hF))
        have HO17 := hide (bind_go HO.out ho)
        have H17 := hide hR
        have F17 := hide (F2.out.trans hF)
        clear he ho hR hF C17 H2 F2 HO
        cases hv17
        go_wp2_with fail
        go_ret
        exact .of_ok HO17.out rfl H17.out F17.out
      · have HO := hide (ite_f ho (by simp [he]))
        clear ho hk hd hbs
        go_wp2_with fail
        refine CA.out.mono ?_
        rintro _ w1 ⟨rfl, hb⟩
        have HB := hide (hb.alloc hb.size (.cells #[.int .i64 3, .string ⟨(tx (kt L) s15.n).toArray⟩, .int .i64 (placeAt L N s15.n)] 50))
        clear hb CA
        have H1 := hide (H15.out.below HB.out)
        have F1 := hide (F15.out.trans (Fq.of_below HB.out))
        clear H15 F15 HB
        go_wp2_with fail
        refine (CP.out _).mono ?_
        rintro _ w2 ⟨rfl, hb⟩
        have H2 := hide (H1.out.below hb)
        have F2 := hide (F1.out.trans (Fq.of_below hb))
        clear hb CP H1 F1
        have CF := hide (fail_any R L N s15 st _ H2.out er)
        go_wp2_with fail
        refine CF.out.mono ?_
        rintro _ w9 ⟨rfl, hF⟩
        exact on_panic rfl (.of_bad HO.out (F2.out.trans hF))
    · have HO := hide (ite_f ho (by simp [hk]))
      have hk' : ¬ ((kd (kt L) s15.n : Nat) : Int) = 3 := by omega
      clear ho hk
      go_wp2_with fail
      refine CA.out.mono ?_
      rintro _ w1 ⟨rfl, hb⟩
      have HB := hide (hb.alloc hb.size (.cells #[.int .i64 (kd (kt L) s15.n), .string ⟨(tx (kt L) s15.n).toArray⟩, .int .i64 (placeAt L N s15.n)] 50))
      clear hb CA
      have H1 := hide (H15.out.below HB.out)
      have F1 := hide (F15.out.trans (Fq.of_below HB.out))
      clear H15 F15 HB
      have CF := hide (fail_any R L N s15 st _ H1.out 51)
      go_wp2_with fail
      refine CF.out.mono ?_
      rintro _ w9 ⟨rfl, hF⟩
      exact on_panic rfl (.of_bad HO.out (F1.out.trans hF))

end
end Go.Proofs.YthnjmfkiohgkkaaGreatDoor.Sy
