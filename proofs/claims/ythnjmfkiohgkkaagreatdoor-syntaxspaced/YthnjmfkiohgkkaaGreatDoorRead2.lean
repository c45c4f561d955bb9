/- The small methods of a reader. -/
import Derived.Test.YthnjmfkiohgkkaaGreatDoorRead
import Derived.Laws.Strings
import Derived.KernelRfl
namespace Go.Proofs.YthnjmfkiohgkkaaGreatDoor.Sy
open Go.RowKit

def placeAt (L : List Tok) (N i : Nat) : Nat := match L[i]? with
  | some t => t.place
  | none => N

theorem kt_at {L : List Tok} {i : Nat} {t : Tok} (h : L[i]? = some t) : kd (kt L) i = t.kind ∧ tx (kt L) i = t.text := by
  unfold kd tx kt
  simp [h]
theorem kt_out {L : List Tok} {i : Nat} (h : L.length ≤ i) : kd (kt L) i = 0 ∧ tx (kt L) i = [] := by
  unfold kd tx kt
  simp [h]

set_option maxRecDepth 100000 in
set_option maxHeartbeats 1600000 in
theorem ahead_any (R : Nat) (L : List Tok) (N : Nat) (s : RS) (st : St9) (w : World) (h : Rd R L N s st w) (i : Nat) (hi : i ≤ 1) :
    Calls Tryz.prog 67 #[.pointer (some ⟨R, 0, none⟩), .int .i64 i] w fun e w' =>
      e = .returned (.agg #[.int .i64 (kd (kt L) (s.n + i)), .string ⟨(tx (kt L) (s.n + i)).toArray⟩, .int .i64 (placeAt L N (s.n + i))]) ∧ Below w.heap.size w w' := by
  have c1 := h.c1
  have c2 := h.c2
  have hn := h.nle
  have hL := h.Lle
  have hlt := h.lt
  obtain ⟨a, c, hb, ht⟩ := h.blk
  have c0 : w.cell? ⟨R, 0, none⟩ = some (.slice a L.length c) := by rw [cell_of_row w R 0 _ 62 _ hb]; rfl
  have HT := hide ht
  clear ht hb h
  by_cases hj : s.n + i < L.length
  · obtain ⟨⟨k, x, p⟩, hx⟩ : ∃ t, L[s.n + i]? = some t := ⟨L[s.n + i], by simp [hj]⟩
    obtain ⟨b, rfl, hbR, t0, t1, t2⟩ := HT.out _ _ hx
    have hk := kt_at hx
    have hp : placeAt L N (s.n + i) = p := by unfold placeAt; rw [hx]
    rw [hk.1, hk.2, hp]
    clear hk hp hx HT
    simp only at t0 t1 t2
    have hbl : b < w.heap.size := by omega
    have o := fun (a : Addr) (ha : a.block < w.heap.size) => World.cell?_of_block (Go.heap_alloc_old w (.cells #[.int .i64 0, .string ⟨#[]⟩, .int .i64 0] 50) ha)
    have c0' := (o ⟨R, 0, none⟩ hlt).trans c0
    have c1' := (o ⟨R, 1, none⟩ hlt).trans c1
    have t0' := (o ⟨b, (s.n + i) * 3, none⟩ hbl).trans t0
    have t1' := (o ⟨b, (s.n + i) * 3 + 1, none⟩ hbl).trans t1
    have t2' := (o ⟨b, (s.n + i) * 3 + 2, none⟩ hbl).trans t2
    clear o c0 c1 c2 t0 t1 t2
    go_enter Tryz.func67, Tryz.ntmps67
    go_wp2_with fail
    go_quiet (fail)
    go_wp2_with fail
    have r0 : ((w.alloc (.cells #[.int .i64 0, .string ⟨#[]⟩, .int .i64 0] 50)).drewN nq).cell? ⟨w.heap.size, 0, none⟩ = some (.int .i64 0) := by simp [go_sem]
    have r1 : ((w.alloc (.cells #[.int .i64 0, .string ⟨#[]⟩, .int .i64 0] 50)).drewN nq).cell? ⟨w.heap.size, 1, none⟩ = some (.string ⟨#[]⟩) := by simp [go_sem]
    have r2 : ((w.alloc (.cells #[.int .i64 0, .string ⟨#[]⟩, .int .i64 0] 50)).drewN nq).cell? ⟨w.heap.size, 2, none⟩ = some (.int .i64 0) := by simp [go_sem]
    have fz : ∀ i, ((w.alloc (.cells #[.int .i64 0, .string ⟨#[]⟩, .int .i64 0] 50)).drewN nq).frozen? ⟨w.heap.size, i, none⟩ = false := fun i => frozen_of_row ((w.alloc (.cells #[.int .i64 0, .string ⟨#[]⟩, .int .i64 0] 50)).drewN nq) w.heap.size i _ 50 (heap_alloc_new w _)
    go_region
    go_wp2_with fail
    simp [bodyPost, results, Tryz.results67, go_sem]
    exact ((((((Below.refl _ w).alloc (Nat.le_refl _) _).trans ((below_drewN _ _).mono (by simp))).setCell (by simp) _).setCell (by simp) _).setCell (by simp) _)
  · have hk := kt_out (L := L) (i := s.n + i) (by omega)
    have hp : placeAt L N (s.n + i) = N := by unfold placeAt; rw [List.getElem?_eq_none (by omega)]
    rw [hk.1, hk.2, hp]
    clear hk hp HT
    have o := fun (a : Addr) (ha : a.block < w.heap.size) => World.cell?_of_block (Go.heap_alloc_old w (.cells #[.int .i64 0, .string ⟨#[]⟩, .int .i64 0] 50) ha)
    have c0' := (o ⟨R, 0, none⟩ hlt).trans c0
    have c1' := (o ⟨R, 1, none⟩ hlt).trans c1
    have c2' := (o ⟨R, 2, none⟩ hlt).trans c2
    clear o c0 c1 c2
    go_enter Tryz.func67, Tryz.ntmps67
    go_wp2_with fail
    go_quiet (fail)
    go_wp2_with fail
    simp [bodyPost, results, Tryz.results67, go_sem]
    exact ((((((Below.refl _ w).alloc (Nat.le_refl _) _).trans ((below_drewN _ _).mono (by simp))).setCell (by simp) _).setCell (by simp) _).setCell (by simp) _)

/-- What a call of a reader's method ends with. -/
def Ends {α : Type} (R : Nat) (L : List Tok) (N : Nat) (st : St9) (w : World) (rep : World → α → Value → Prop) (o : Out α) (e : Ending) (w' : World) : Prop :=
  match o with
  | .ok a t => ∃ v, e = .returned v ∧ rep w' a v ∧ Rd R L N t st w' ∧ Fq R w w'
  | .bad c n => e = .panicked [{ v := .iface 58 (.agg #[.int .i64 c, .int .i64 (placeAt L N n)]), recovered := false }] ∧ Fq R w w'

theorem Ends.split {α : Type} {R : Nat} {L : List Tok} {N : Nat} {st : St9} {w : World} {rep : World → α → Value → Prop} {o : Out α} {e : Ending} {w' : World} (h : Ends R L N st w rep o e w') :
    (∃ a t v, o = .ok a t ∧ e = .returned v ∧ rep w' a v ∧ Rd R L N t st w' ∧ Fq R w w') ∨
    (∃ c n, o = .bad c n ∧ e = .panicked [{ v := .iface 58 (.agg #[.int .i64 c, .int .i64 (placeAt L N n)]), recovered := false }] ∧ Fq R w w') := by
  cases o with
  | ok a t => obtain ⟨v, h⟩ := h; exact .inl ⟨a, t, v, rfl, h⟩
  | bad c n => exact .inr ⟨c, n, rfl, h⟩

theorem Ends.of_ok {α : Type} {R : Nat} {L : List Tok} {N : Nat} {st : St9} {w : World} {rep : World → α → Value → Prop} {o : Out α} {a : α} {t : RS} {v : Value} {w' : World} (ho : .ok a t = o) (hv : rep w' a v)
    (hR : Rd R L N t st w') (hF : Fq R w w') : Ends R L N st w rep o (.returned v) w' := by subst ho; exact ⟨v, rfl, hv, hR, hF⟩
theorem Ends.of_bad {α : Type} {R : Nat} {L : List Tok} {N : Nat} {st : St9} {w : World} {rep : World → α → Value → Prop} {o : Out α} {c : Int} {n : Nat} {w' : World} (ho : .bad c n = o)
    (hF : Fq R w w') : Ends R L N st w rep o (.panicked [{ v := .iface 58 (.agg #[.int .i64 c, .int .i64 (placeAt L N n)]), recovered := false }]) w' := by subst ho; exact ⟨rfl, hF⟩

/-- How values stand for things. -/
def repS (_ : World) (a : Bytes) (v : Value) : Prop := v = .string ⟨a.toArray⟩
def repB (_ : World) (a : Bool) (v : Value) : Prop := v = .bool a
def repI (_ : World) (a : Int) (v : Value) : Prop := v = .int .i64 a
def repN (_ : World) (a : Nat) (v : Value) : Prop := v = .int .i64 a
def repU (_ : World) (_ : Unit) (v : Value) : Prop := v = .tuple #[]

/-- A text as bytes. -/
def bs (l : Bytes) : ByteArray := ⟨l.toArray⟩
theorem bs_toList (l : Bytes) : (bs l).toList = l := ByteArray.toList_mk l

theorem fld (a b c : Value) (w : World) : (Instr.field 50 (.agg #[a, b, c]) 0).run Tryz.prog w = .ok a w ∧ (Instr.field 50 (.agg #[a, b, c]) 1).run Tryz.prog w = .ok b w ∧ (Instr.field 50 (.agg #[a, b, c]) 2).run Tryz.prog w = .ok c w :=
  ⟨by kernel_rfl, by kernel_rfl, by kernel_rfl⟩

set_option maxRecDepth 100000 in
set_option maxHeartbeats 1600000 in
theorem isMark5_any (k p : Int) (tb mb : ByteArray) (w : World) :
    Calls Tryz.prog 120 #[.agg #[.int .i64 k, .string tb, .int .i64 p], .string mb] w fun e w' => e = .returned (.bool (decide (k = 6) && (tb.toList == mb.toList))) ∧ Below w.heap.size w w' := by
  go_enter Tryz.func120, Tryz.ntmps120
  by_cases hk : k = 6
  · subst hk
    go_wp2_with fail
    go_ret
    exact ⟨ret_bool rfl, (Below.refl _ w).alloc (Nat.le_refl _) _⟩
  · go_wp2_with fail
    go_ret
    exact ⟨ret_bool (by simp [hk]), (Below.refl _ w).alloc (Nat.le_refl _) _⟩

set_option maxRecDepth 100000 in
set_option maxHeartbeats 1600000 in
theorem isWord_any (tb : ByteArray) (w : World) : Calls Tryz.prog 121 #[.string tb] w fun e w' => e = .returned (.bool (decide (tb.toList ∈ wordsL))) ∧ w' = w := by
  go_enter Tryz.func121, Tryz.ntmps121
  go_wp2
  all_goals go_ret
  all_goals refine ⟨ret_bool ?_, rfl⟩
  all_goals simp_all [wordsL]

/-- A panic of a callee goes on. -/
theorem on_panic {P : Program} {fn : Func} {R : Ending → World → Prop} {chain : List PanicEntry} {a : Act} {w : World} (hd : a.defers = []) (h : R (.panicked chain) w) : bodyPost P fn R (.panic chain) a w := ⟨hd, h⟩

theorem bind_go {α β : Type} {x : M α} {f : α → M β} {s u : RS} {a : α} {o : Out β} (h : (x >>= f) s = o) (hx : x s = .ok a u) : f a u = o := (bind_run hx).symm.trans h
theorem bind_no {α β : Type} {x : M α} {f : α → M β} {s : RS} {c : Int} {n : Nat} {o : Out β} (h : (x >>= f) s = o) (hx : x s = .bad c n) : .bad c n = o := (bind_bad hx).symm.trans h
theorem ask_go {α β : Type} {q : RS → α} {f : α → M β} {s : RS} {o : Out β} (h : (askM q >>= f) s = o) : f (q s) s = o := h
theorem set_go {β : Type} {q : RS → RS} {f : Unit → M β} {s : RS} {o : Out β} (h : (setM q >>= f) s = o) : f () (q s) = o := h
theorem ite_t {α : Type} {A B : M α} {s : RS} {o : Out α} {c : Bool} (h : (if c = true then A else B) s = o) (hc : c = true) : A s = o := by rw [if_pos hc] at h; exact h
theorem ite_f {α : Type} {A B : M α} {s : RS} {o : Out α} {c : Bool} (h : (if c = true then A else B) s = o) (hc : c = false) : B s = o := by rw [if_neg (by simp [hc])] at h; exact h

section
variable (R : Nat) (L : List Tok) (N : Nat) (s : RS) (st : St9) (w : World)

set_option maxRecDepth 100000 in
set_option maxHeartbeats 1600000 in
theorem fail_any (h : Rd R L N s st w) (c : Int) :
    Calls Tryz.prog 69 #[.pointer (some ⟨R, 0, none⟩), .int .i64 c] w fun e w' =>
      e = .panicked [{ v := .iface 58 (.agg #[.int .i64 c, .int .i64 (placeAt L N s.n)]), recovered := false }] ∧ Fq R w w' := by
  have CA := hide (ahead_any R L N s st w h 0 (by omega))
  clear h
  rw [show s.n + 0 = s.n from rfl] at CA
  go_enter Tryz.func69, Tryz.ntmps69
  go_wp2_with fail
  refine CA.out.mono ?_
  rintro _ w1 ⟨rfl, hb⟩
  have HB := hide hb
  clear hb
  have f2 := fun a b c w => (fld a b c w).2.2
  go_wp2_with fail
  exact on_panic rfl ⟨rfl, .of_below HB.out⟩

set_option maxRecDepth 100000 in
set_option maxHeartbeats 1600000 in
theorem take_any (h : Rd R L N s st w) (hn : s.n < L.length) (o : Out Bytes) (ho : takeM (kt L) s = o) :
    Calls Tryz.prog 68 #[.pointer (some ⟨R, 0, none⟩)] w (Ends R L N st w repS o) := by
  have c3 := h.c3
  have HO := hide ho
  have H := hide h
  clear h ho
  unfold takeM at HO
  cases hf : s.full with
  | true =>
    rw [hf] at c3
    have ho := HO.out
    rw [if_pos hf] at ho
    have HO := hide ho
    have CF := hide (fail_any R L N s st w H.out 3)
    clear ho hf
    go_enter Tryz.func68, Tryz.ntmps68
    go_wp2_with fail
    refine CF.out.mono ?_
    rintro _ w1 ⟨rfl, hF⟩
    exact on_panic rfl (.of_bad HO.out hF)
  | false =>
    rw [hf] at c3
    have ho := HO.out
    rw [if_neg (by simp [hf])] at ho
    have HO := hide ho
    have CA := hide (ahead_any R L N s st w H.out 0 (by omega))
    rw [show s.n + 0 = s.n from rfl] at CA
    have hL := H.out.Lle
    clear ho hf
    go_enter Tryz.func68, Tryz.ntmps68
    go_wp2_with fail
    refine CA.out.mono ?_
    rintro _ w1 ⟨rfl, hb⟩
    have H1 := hide (H.out.below hb)
    have c1 := H1.out.c1
    have f1 := H1.out.frz 1
    have HB := hide hb
    clear hb CA
    have f2 := fun a b c w => (fld a b c w).2.1
    go_wp2_with fail
    go_ret
    have hS := H1.out.setN (s.n + 1) (by omega)
    rw [show ((s.n + 1 : Nat) : Int) = (s.n : Int) + 1 from by omega] at hS
    exact .of_ok HO.out rfl hS ((Fq.of_below HB.out).set 1 _)

theorem kd_some {K : Toks} {i : Nat} (h : kd K i ≠ 0) : i < K.length := by
  apply Classical.byContradiction
  intro h'
  apply h
  unfold kd
  rw [List.getElem?_eq_none (by omega)]
  rfl
theorem kd_lt {i k : Nat} (h : kd (kt L) i = k) (hk : k ≠ 0) : i < L.length := by
  have := kd_some (K := kt L) (i := i) (by omega)
  simpa [kt] using this

set_option maxRecDepth 100000 in
set_option maxHeartbeats 1600000 in
theorem hasMark_any (t : Bytes) (h : Rd R L N s st w) (o : Out Bool) (ho : hasMark (kt L) t s = o) :
    Calls Tryz.prog 70 #[.pointer (some ⟨R, 0, none⟩), .string ⟨t.toArray⟩] w (Ends R L N st w repB o) := by
  have HO := hide ho
  have H := hide h
  clear h ho
  have CA := hide (ahead_any R L N s st w H.out 0 (by omega))
  rw [show s.n + 0 = s.n from rfl] at CA
  have ho := ask_go HO.out
  have CI := hide (isMark5_any (kd (kt L) s.n) (placeAt L N s.n) ⟨(tx (kt L) s.n).toArray⟩ ⟨t.toArray⟩)
  have HM : Hid ((decide (((kd (kt L) s.n : Nat) : Int) = 6) && ((⟨(tx (kt L) s.n).toArray⟩ : ByteArray).toList == (⟨t.toArray⟩ : ByteArray).toList)) = markAt (kt L) s.n t) := by
    unfold Hid markAt
    rw [ByteArray.toList_mk, ByteArray.toList_mk]
    rw [show (tx (kt L) s.n == t) = decide (tx (kt L) s.n = t) from Bool.eq_iff_iff.2 (by simp), show decide (((kd (kt L) s.n : Nat) : Int) = 6) = decide (kd (kt L) s.n = 6) from decide_eq_decide.2 (by omega)]
  rw [HM.out] at CI
  clear HO HM
  cases hm : markAt (kt L) s.n t with
  | false =>
    rw [hm] at CI
    have HO := hide (ite_f ho hm)
    clear ho hm
    go_enter Tryz.func70, Tryz.ntmps70
    go_wp2_with fail
    refine CA.out.mono ?_
    rintro _ w1 ⟨rfl, hb⟩
    have HB := hide hb
    clear hb CA
    go_wp2_with fail
    refine (CI.out w1).mono ?_
    rintro _ w2 ⟨rfl, hb⟩
    have HB2 := hide (HB.out.trans (hb.mono HB.out.size))
    clear hb CI HB
    go_wp2_with fail
    go_ret
    exact .of_ok HO.out rfl (H.out.below HB2.out) (.of_below HB2.out)
  | true =>
    rw [hm] at CI
    have HO := hide (ite_t ho hm)
    have hlt : s.n < L.length := kd_lt (L := L) (k := 6) (by unfold markAt at hm; simp at hm; exact hm.1) (by omega)
    clear ho hm
    go_enter Tryz.func70, Tryz.ntmps70
    go_wp2_with fail
    refine CA.out.mono ?_
    rintro _ w1 ⟨rfl, hb⟩
    have HB := hide hb
    clear hb CA
    go_wp2_with fail
    refine (CI.out w1).mono ?_
    rintro _ w2 ⟨rfl, hb⟩
    have HB2 := hide (HB.out.trans (hb.mono HB.out.size))
    clear hb CI HB
    have CT := hide (take_any R L N s st w2 (H.out.below HB2.out) hlt _ rfl)
    go_wp2_with fail
    refine CT.out.mono ?_
    intro e w3 he
    rcases he.split with ⟨a, t, v, ho, rfl, hv, hR, hF⟩ | ⟨c, n, ho, rfl, hF⟩
    · have HO1 := hide (bind_go HO.out ho)
      have hR := hide hR
      have hF := hide hF
      clear HO he hv ho CT
      go_wp2_with fail
      go_ret
      exact .of_ok HO1.out rfl hR.out ((Fq.of_below HB2.out).trans hF.out)
    · exact on_panic rfl (.of_bad (bind_no HO.out ho) ((Fq.of_below HB2.out).trans hF))
end
end Go.Proofs.YthnjmfkiohgkkaaGreatDoor.Sy
