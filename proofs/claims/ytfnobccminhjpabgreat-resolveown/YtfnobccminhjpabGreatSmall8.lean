/- The small functions of resolve. -/
import Derived.Test.YtfnobccminhjpabGreatMem8
import Derived.KernelRfl
import Derived.StringKeys
import Derived.BigFrame
import Derived.BigQuiet
import Derived.Deep.QuietTactic
import Derived.Deep.RegionWith
namespace Go.Proofs.YtfnobccminhjpabGreat
open Go.RowKit Go.Shelf Go.Maps Go.WideMaps

/-- What a resolver gives up with. -/
abbrev fl (c it : Int) : PanicEntry := { v := .iface 97 (.agg #[.int .i64 c, .int .i64 it]), recovered := false }
/-- How a call ends that leaves the world as it is. -/
def Qd {α : Type} (w : World) (it : Int) (val : α → Value) (o : Er α) (e : Ending) (w' : World) : Prop := w' = w ∧ match o with
  | .ok a => e = .returned (val a)
  | .error c => e = .panicked [fl c it]
theorem Qd.split {α : Type} {w : World} {it : Int} {val : α → Value} {o : Er α} {e : Ending} {w' : World} (h : Qd w it val o e w') : (∃ a, o = .ok a ∧ e = .returned (val a) ∧ w' = w) ∨ (∃ c, o = .error c ∧ e = .panicked [fl c it] ∧ w' = w) := by
  obtain ⟨hw, h⟩ := h
  cases o with
  | ok a => exact .inl ⟨a, rfl, h, hw⟩
  | error c => exact .inr ⟨c, rfl, h, hw⟩
theorem Qd.ok {α : Type} {w : World} {it : Int} {val : α → Value} {o : Er α} {a : α} (h : .ok a = o) : Qd w it val o (.returned (val a)) w := by subst h; exact ⟨rfl, rfl⟩
theorem Qd.bad {α : Type} {w : World} {it : Int} {val : α → Value} {o : Er α} {c : Int} (h : .error c = o) : Qd w it val o (.panicked [fl c it]) w := by subst h; exact ⟨rfl, rfl⟩
/-- How a call ends that makes new blocks alone. -/
def Ed {α : Type} (w : World) (it : Int) (rep : World → α → Value → Prop) (o : Er α) (e : Ending) (w' : World) : Prop := Below w.heap.size w w' ∧ match o with
  | .ok a => ∃ v, e = .returned v ∧ rep w' a v
  | .error c => e = .panicked [fl c it]
theorem Ed.split {α : Type} {w : World} {it : Int} {rep : World → α → Value → Prop} {o : Er α} {e : Ending} {w' : World} (h : Ed w it rep o e w') : (∃ a v, o = .ok a ∧ e = .returned v ∧ rep w' a v ∧ Below w.heap.size w w') ∨ (∃ c, o = .error c ∧ e = .panicked [fl c it] ∧ Below w.heap.size w w') := by
  obtain ⟨hw, h⟩ := h
  cases o with
  | ok a => obtain ⟨v, h1, h2⟩ := h; exact .inl ⟨a, v, rfl, h1, h2, hw⟩
  | error c => exact .inr ⟨c, rfl, h, hw⟩
theorem Ed.ok {α : Type} {w : World} {it : Int} {rep : World → α → Value → Prop} {o : Er α} {a : α} {v : Value} {w' : World} (h : .ok a = o) (hr : rep w' a v) (hb : Below w.heap.size w w') : Ed w it rep o (.returned v) w' := by subst h; exact ⟨hb, v, rfl, hr⟩
theorem Ed.bad {α : Type} {w : World} {it : Int} {rep : World → α → Value → Prop} {o : Er α} {c : Int} {w' : World} (h : .error c = o) (hb : Below w.heap.size w w') : Ed w it rep o (.panicked [fl c it]) w' := by subst h; exact ⟨hb, rfl⟩
def vU (_ : Unit) : Value := .tuple #[]
def vN (n : Nat) : Value := .int .i64 n
def rU (_ : World) (_ : Unit) (v : Value) : Prop := v = .tuple #[]
/-- A panic of a callee goes on. -/
theorem on_panic {P : Program} {fn : Func} {R : Ending → World → Prop} {chain : List PanicEntry} {a : Act} {w : World} (hd : a.defers = []) (h : R (.panicked chain) w) : bodyPost P fn R (.panic chain) a w := ⟨hd, h⟩

theorem law : Keyed Tryz.prog 9 := string_keyed Tryz.underlying9
theorem key_mk {s : Bytes} (hs : s.length ≤ maxLen) : keyOf Tryz.prog 9 (.string ⟨s.toArray⟩) = some (.string s) := keyOf_string_mk Tryz.underlying9 (s := ⟨s.toArray⟩) (by show s.toArray.size ≤ maxLen; simpa using hs)

section
variable {R : Nat} {it : Int} {w : World}
set_option maxRecDepth 100000 in
set_option maxHeartbeats 1600000 in
theorem fail_any (h : w.cell? ⟨R, 9, none⟩ = some (.int .i64 it)) (c : Int) : Calls Tryz.prog 25 #[ptr R, .int .i64 c] w fun e w' => e = .panicked [fl c it] ∧ w' = w := by
  go_enter Tryz.func25, Tryz.ntmps25
  go_wp2_with fail
  exact ⟨rfl, rfl, rfl⟩

set_option maxRecDepth 100000 in
set_option maxHeartbeats 1600000 in
theorem want_any (h : w.cell? ⟨R, 9, none⟩ = some (.int .i64 it)) (b : Bool) (c : Int) : Calls Tryz.prog 19 #[ptr R, .bool b, .int .i64 c] w fun e w' => Qd w it vU (wantM b c) e w' := by
  have CF := hide (fail_any h c)
  clear h
  cases b with
  | true =>
    go_enter Tryz.func19, Tryz.ntmps19
    go_wp2_with fail
    go_end0
    exact Qd.ok rfl
  | false =>
    go_enter Tryz.func19, Tryz.ntmps19
    go_wp2_with fail
    refine CF.out.mono ?_
    rintro _ w1 ⟨rfl, hw⟩
    subst w1
    exact on_panic rfl (Qd.bad rfl)

set_option maxRecDepth 100000 in
set_option maxHeartbeats 1600000 in
theorem find_any (h : w.cell? ⟨R, 9, none⟩ = some (.int .i64 it)) {b : Nat} {l : List Bytes} (hm : KMap 9 w b l) (s : Bytes) (hs : s.length ≤ maxLen) (c : Int) :
    Calls Tryz.prog 124 #[ptr R, .map (some b), str s, .int .i64 c] w fun e w' => Qd w it vN (findM l s c) e w' := by
  have CW := hide (fun b => want_any h b c)
  obtain ⟨n, D, hown, hN, _⟩ := hm
  have HN := hide (hN s)
  obtain ⟨o, ho⟩ : ∃ o, findM l s c = o := ⟨_, rfl⟩
  rw [ho]
  have HO := hide ho
  unfold findM at HO
  unfold str
  have HK := hide (key_mk hs)
  clear hN h ho
  go_enter Tryz.func124, Tryz.ntmps124
  go_wp2_with (at_lookup; go_must (refine wpList_lookup_own_ok_int _ rfl _ _ 103 rfl 9 3 .i64 law Tryz.underlying103 Tryz.underlying3 (Tryz.zeroValue3 _) b n _ rfl hown _ _ rfl HK.out ?_); intro cc hat hwc)
  have hc : cc = posB l s := by
    have := hat.symm.trans HN.out.2
    injection this with e
    injection e
  have hh := HN.out.1
  subst hc
  clear hat hwc HN
  rw [hh]
  go_wp2_with fail
  refine (CW.out _).mono ?_
  intro e w1 hE
  rcases hE.split with ⟨_, h1, rfl, hw⟩ | ⟨c1, h1, rfl, hw⟩
  · subst w1
    have h2 := ex_go HO.out h1
    go_wp2_with fail
    go_ret
    exact Qd.ok h2
  · subst w1
    exact on_panic rfl (Qd.bad (ex_no HO.out h1))
end
end Go.Proofs.YtfnobccminhjpabGreat
