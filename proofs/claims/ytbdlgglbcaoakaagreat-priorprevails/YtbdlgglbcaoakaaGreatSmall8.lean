/- The small functions of resolve. -/
import Derived.Test.YtbdlgglbcaoakaaGreatMem8
import Derived.KernelRfl
import Derived.StringKeys
import Derived.BigFrame
import Derived.BigQuiet
import Derived.Deep.QuietTactic
import Derived.Deep.RegionWith
namespace Go.Proofs.YtbdlgglbcaoakaaGreat
open Go.RowKit Go.Shelf Go.Maps Go.WideMaps

/-- What a resolver gives up with. -/
abbrev fl (c it : Int) : PanicEntry := { v := .iface 63 (.agg #[.int .i64 c, .int .i64 it]), recovered := false }
/-- How a call ends that leaves the world as it is. -/
def Qd {α : Type} (w : World) (it : Int) (val : α → Value) (o : Er α) (e : Ending) (w' : World) : Prop := w' = w ∧ match o with
  | .ok a => e = .returned (val a)
  | .error c => e = .panicked [fl c it]
theorem Qd.split {α : Type} {w : World} {it : Int} {val : α → Value} {o : Er α} {e : Ending} {w' : World} (h : Qd w it val o e w') : (∃ a, o = .ok a ∧ e = .returned (val a) ∧ w' = w) ∨ (∃ c, o = .error c ∧ e = .panicked [fl c it] ∧ w' = w) := by
  obtain ⟨hw, h⟩ := h
  cases o with
  | ok a => exact .inl ⟨a, rfl, h, hw⟩
  | error c => exact .inr ⟨c, rfl, h, hw⟩
theorem Qd.ok {α : Type} {w : World} {it : Int} {val : α → Value} {o : Er α} {a : α} (h : .ok a = o) : Qd w it val o (.returned (val a)) w := by subst h; exact ⟨rfl, rfl⟩
theorem Qd.bad {α : Type} {w : World} {it : Int} {val : α → Value} {o : Er α} {c : Int} (h : .error c = o) : Qd w it val o (.panicked [fl c it]) w := by subst h; exact ⟨rfl, rfl⟩
/-- How a call ends that makes new blocks alone. -/
def Ed {α : Type} (w : World) (it : Int) (rep : World → α → Value → Prop) (o : Er α) (e : Ending) (w' : World) : Prop := Below w.heap.size w w' ∧ match o with
  | .ok a => ∃ v, e = .returned v ∧ rep w' a v
  | .error c => e = .panicked [fl c it]
theorem Ed.split {α : Type} {w : World} {it : Int} {rep : World → α → Value → Prop} {o : Er α} {e : Ending} {w' : World} (h : Ed w it rep o e w') : (∃ a v, o = .ok a ∧ e = .returned v ∧ rep w' a v ∧ Below w.heap.size w w') ∨ (∃ c, o = .error c ∧ e = .panicked [fl c it] ∧ Below w.heap.size w w') := by
  obtain ⟨hw, h⟩ := h
  cases o with
  | ok a => obtain ⟨v, h1, h2⟩ := h; exact .inl ⟨a, v, rfl, h1, h2, hw⟩
  | error c => exact .inr ⟨c, rfl, h, hw⟩
theorem Ed.ok {α : Type} {w : World} {it : Int} {rep : World → α → Value → Prop} {o : Er α} {a : α} {v : Value} {w' : World} (h : .ok a = o) (hr : rep w' a v) (hb : Below w.heap.size w w') : Ed w it rep o (.returned v) w' := by subst h; exact ⟨hb, v, rfl, hr⟩
theorem Ed.bad {α : Type} {w : World} {it : Int} {rep : World → α → Value → Prop} {o : Er α} {c : Int} {w' : World} (h : .error c = o) (hb : Below w.heap.size w w') : Ed w it rep o (.panicked [fl c it]) w' := by subst h; exact ⟨hb, rfl⟩
def vU (_ : Unit) : Value := .tuple #[]
def vN (n : Nat) : Value := .int .i64 n
def rU (_ : World) (_ : Unit) (v : Value) : Prop := v = .tuple #[]
/-- A panic of a callee goes on. -/
theorem on_panic {P : Program} {fn : Func} {R : Ending → World → Prop} {chain : List PanicEntry} {a : Act} {w : World} (hd : a.defers = []) (h : R (.panicked chain) w) : bodyPost P fn R (.panic chain) a w := ⟨hd, h⟩

theorem law : Keyed Tryz.prog 9 := string_keyed Tryz.underlying9
theorem key_mk {s : Bytes} (hs : s.length ≤ maxLen) : keyOf Tryz.prog 9 (.string ⟨s.toArray⟩) = some (.string s) := keyOf_string_mk Tryz.underlying9 (s := ⟨s.toArray⟩) (by show s.toArray.size ≤ maxLen; simpa using hs)

section
variable {R : Nat} {it : Int} {w : World}
set_option maxRecDepth 100000 in
set_option maxHeartbeats 1600000 in
theorem fail_any (h : w.cell? ⟨R, 9, none⟩ = some (.int .i64 it)) (c : Int) : Calls Tryz.prog 91 #[ptr R, .int .i64 c] w fun e w' => e = .panicked [fl c it] ∧ w' = w := by
  go_enter Tryz.func91, Tryz.ntmps91
  go_wp2_with fail
  exact ⟨rfl, rfl, rfl⟩

set_option maxRecDepth 100000 in
set_option maxHeartbeats 1600000 in
theorem want_any (h : w.cell? ⟨R, 9, none⟩ = some (.int .i64 it)) (b : Bool) (c : Int) : Calls Tryz.prog 46 #[ptr R, .bool b, .int .i64 c] w fun e w' => Qd w it vU (wantM b c) e w' := by
  have CF := hide (fail_any h c)
  clear h
  cases b with
  | true =>
    go_enter Tryz.func46, Tryz.ntmps46
    go_wp2_with fail
    go_end0
    exact Qd.ok rfl
  | false =>
    go_enter Tryz.func46, Tryz.ntmps46
    go_wp2_with fail
    refine CF.out.mono ?_
    rintro _ w1 ⟨rfl, hw⟩
    subst w1
    exact on_panic rfl (Qd.bad rfl)

set_option maxRecDepth 100000 in
set_option maxHeartbeats 1600000 in
theorem find_any (h : w.cell? ⟨R, 9, none⟩ = some (.int .i64 it)) {b : Nat} {l : List Bytes} (hm : KMap 9 w b l) (s : Bytes) (hs : s.length ≤ maxLen) (c : Int) :
    Calls Tryz.prog 95 #[ptr R, .map (some b), str s, .int .i64 c] w fun e w' => Qd w it vN (findM l s c) e w' := by
  have CW := hide (fun b => want_any h b c)
  obtain ⟨n, D, hown, hN, _⟩ := hm
  have HN := hide (hN s)
  obtain ⟨o, ho⟩ : ∃ o, findM l s c = o := ⟨_, rfl⟩
  rw [ho]
  have HO := hide ho
  unfold findM at HO
  unfold str
  have HK := hide (key_mk hs)
  clear hN h ho
  go_enter Tryz.func95, Tryz.ntmps95
  go_wp2_with (at_lookup; go_must (refine wpList_lookup_own_ok_int _ rfl _ _ 67 rfl 9 3 .i64 law Tryz.underlying67 Tryz.underlying3 (Tryz.zeroValue3 _) b n _ rfl hown _ _ rfl HK.out ?_); intro cc hat hwc)
  have hc : cc = posB l s := by
    have := hat.symm.trans HN.out.2
    injection this with e
    injection e
  have hh := HN.out.1
  subst hc
  clear hat hwc HN
  rw [hh]
  go_wp2_with fail
  refine (CW.out _).mono ?_
  intro e w1 hE
  rcases hE.split with ⟨_, h1, rfl, hw⟩ | ⟨c1, h1, rfl, hw⟩
  · subst w1
    have h2 := ex_go HO.out h1
    go_wp2_with fail
    go_ret
    exact Qd.ok h2
  · subst w1
    exact on_panic rfl (Qd.bad (ex_no HO.out h1))
end
end Go.Proofs.YtbdlgglbcaoakaaGreat
/- Leaves: called, what may be awarded, days, sides. -/
namespace Go.Proofs.YtbdlgglbcaoakaaGreat
open Go.RowKit Go.Shelf Go.Maps Go.WideMaps

section
variable {R : Nat} {it : Int} {w : World}
set_option maxRecDepth 100000 in
set_option maxHeartbeats 1600000 in
theorem called_any (h : w.cell? ⟨R, 9, none⟩ = some (.int .i64 it)) {b : Nat} {l : List Bytes} (hm : KMap 9 w b l) (s : Bytes) (hs : s.length ≤ maxLen) (k : Nat) :
    Calls Tryz.prog 94 #[ptr R, str s, .map (some b), .int .i64 k] w fun e w' => Qd w it vU (calledM l s k) e w' := by
  have CW := hide (fun b c => want_any h b c)
  have CN := hide (isName_any ⟨s.toArray⟩ w)
  obtain ⟨n, D, hown, hN, _⟩ := hm
  have HN := hide (hN s)
  obtain ⟨o, ho⟩ : ∃ o, calledM l s k = o := ⟨_, rfl⟩
  rw [ho]
  have HO := hide ho
  unfold calledM at HO
  have HK := hide (key_mk hs)
  unfold str
  clear hN h ho
  go_enter Tryz.func94, Tryz.ntmps94
  go_wp2_with (go_at_call 108; refine CN.out.mono ?_; rintro _ w1 ⟨rfl, hw1⟩; subst w1)
  refine (CW.out _ _).mono ?_
  intro e w1 hE
  rcases hE.split with ⟨_, h1, rfl, hw⟩ | ⟨c1, h1, rfl, hw⟩
  · subst w1
    have H2 := hide (ex_go HO.out h1)
    clear HO h1 hE
    go_wp2_with (at_lookup; go_must (refine wpList_lookup_own_int _ rfl _ _ 67 rfl 9 3 .i64 law Tryz.underlying67 Tryz.underlying3 (Tryz.zeroValue3 _) b n _ rfl hown _ _ rfl HK.out ?_); intro cc hat hwc)
    have hc : cc = posB l s := by
      have := hat.symm.trans HN.out.2
      injection this with e
      injection e
    subst hc
    clear hat hwc HN
    go_wp2_with fail
    refine (CW.out _ _).mono ?_
    intro e w1 hE
    rcases hE.split with ⟨_, h1, rfl, hw⟩ | ⟨c1, h1, rfl, hw⟩
    · subst w1
      go_wp2_with fail
      go_end0
      exact Qd.ok (h1.symm.trans H2.out)
    · subst w1
      exact on_panic rfl (Qd.bad (h1.symm.trans H2.out))
  · subst w1
    exact on_panic rfl (Qd.bad (ex_no HO.out h1))
end

set_option maxHeartbeats 1600000 in
theorem may_any (v : Int) (w : World) : Calls Tryz.prog 109 #[.int .i64 v] w fun e w' => e = .returned (.int .i64 (if mayB v then 0 else 22)) ∧ w' = w := by
  unfold mayB
  go_enter Tryz.func109, Tryz.ntmps109
  go_wp2
  all_goals go_ret
  all_goals refine ⟨ret_int ?_, rfl⟩
  all_goals simp_all
  all_goals omega
set_option maxHeartbeats 1600000 in
theorem award_any (v : Int) (w : World) : Calls Tryz.prog 96 #[.int .i64 v] w fun e w' => e = .returned (.bool (awardB v)) ∧ w' = w := by
  have C := hide (may_any v w)
  unfold awardB
  cases hb : mayB v with
  | true =>
    rw [hb] at C
    go_enter Tryz.func96, Tryz.ntmps96
    go_wp2_with (go_at_call 109; refine C.out.mono ?_; rintro _ w1 ⟨rfl, hw1⟩; subst w1)
    go_ret
    exact ⟨ret_bool (by simp), rfl⟩
  | false =>
    rw [hb] at C
    go_enter Tryz.func96, Tryz.ntmps96
    go_wp2_with (go_at_call 109; refine C.out.mono ?_; rintro _ w1 ⟨rfl, hw1⟩; subst w1)
    go_ret
    exact ⟨ret_bool (by simp), rfl⟩
set_option maxHeartbeats 1600000 in
theorem cday_any (v : Int) (w : World) : Calls Tryz.prog 126 #[.int .i64 v] w fun e w' => e = .returned (.bool (dayB v)) ∧ w' = w := by
  unfold dayB
  by_cases h1 : 1 ≤ v
  · go_enter Tryz.func126, Tryz.ntmps126
    go_wp2
    go_ret
    exact ⟨ret_bool (by simp [h1]), rfl⟩
  · go_enter Tryz.func126, Tryz.ntmps126
    go_wp2
    go_ret
    exact ⟨ret_bool (by simp; omega), rfl⟩
set_option maxHeartbeats 1600000 in
theorem week_any (v : Int) (w : World) : Calls Tryz.prog 111 #[.int .i64 v] w fun e w' => ∃ d, e = .returned (.tuple #[.int .i64 d, .int .i64 (if dayB v then 0 else 31)]) ∧ w' = w := by
  have C := hide (cday_any v w)
  cases hb : dayB v with
  | true =>
    rw [hb] at C
    have h1 : 1 ≤ v := by unfold dayB at hb; simp at hb; omega
    have h2 : v ≤ 3652059 := by unfold dayB at hb; simp at hb; omega
    clear hb
    go_enter Tryz.func111, Tryz.ntmps111
    go_wp2_with (go_at_call 126; refine C.out.mono ?_; rintro _ w1 ⟨rfl, hw1⟩; subst w1)
    go_ret2
    first | rfl | simp
  | false =>
    rw [hb] at C
    clear hb
    go_enter Tryz.func111, Tryz.ntmps111
    go_wp2_with (go_at_call 126; refine C.out.mono ?_; rintro _ w1 ⟨rfl, hw1⟩; subst w1)
    go_ret2
    first | rfl | simp
set_option maxHeartbeats 1600000 in
theorem day_any (v : Int) (w : World) : Calls Tryz.prog 100 #[.int .i64 v] w fun e w' => e = .returned (.bool (dayB v)) ∧ w' = w := by
  have C := hide (week_any v w)
  cases hb : dayB v with
  | true =>
    rw [hb] at C
    clear hb
    go_enter Tryz.func100, Tryz.ntmps100
    go_wp2_with (go_at_call 111; refine C.out.mono ?_; rintro _ w1 ⟨d, rfl, hw1⟩; subst w1)
    go_ret
    exact ⟨rfl, rfl⟩
  | false =>
    rw [hb] at C
    clear hb
    go_enter Tryz.func100, Tryz.ntmps100
    go_wp2_with (go_at_call 111; refine C.out.mono ?_; rintro _ w1 ⟨d, rfl, hw1⟩; subst w1)
    go_ret
    exact ⟨rfl, rfl⟩
set_option maxHeartbeats 1600000 in
theorem side_any (a : Option Addr) (l : List TermM) (c : Nat) (w : World) (hl : l.length ≤ 140737488351232) : Calls Tryz.prog 129 #[.slice a l.length c] w fun e w' => e = .returned (.bool (sideB l)) ∧ w' = w := by
  unfold sideB
  generalize l.length = n at *
  by_cases h1 : 1 ≤ n
  · go_enter Tryz.func129, Tryz.ntmps129
    go_wp2
    go_ret
    exact ⟨ret_bool (by rw [decide_eq_true h1, Bool.true_and]; first | rfl | (congr 1; simp; done) | (congr 1; exact propext (by omega))), rfl⟩
  · go_enter Tryz.func129, Tryz.ntmps129
    go_wp2
    go_ret
    exact ⟨ret_bool (by simp; try omega), rfl⟩
end Go.Proofs.YtbdlgglbcaoakaaGreat
/- Looking through lists. -/
namespace Go.Proofs.YtbdlgglbcaoakaaGreat
open Go.RowKit Go.Shelf Go.Maps Go.WideMaps

/-- One cell a thing. -/
def At1 (w : World) (a : Option Addr) (vs : List Value) : Prop := ∀ i v, vs[i]? = some v → ∃ g o, a = some ⟨g, o, none⟩ ∧ w.cell? ⟨g, o + i, none⟩ = some v
def strs (l : List Bytes) : List Value := l.map str
def ints (l : List Int) : List Value := l.map (Value.int .i64)
theorem Strs.at1 {N : Nat} {w : World} {l : List Bytes} {a : Option Addr} {n c : Nat} (h : Strs N w l (.slice a n c)) : At1 w a (strs l) := by
  obtain ⟨a', c', e, _, _, h⟩ := h
  cases e
  intro i v hi
  unfold strs at hi
  rw [List.getElem?_map] at hi
  obtain ⟨x, hx, rfl⟩ := Option.map_eq_some_iff.1 hi
  obtain ⟨g, o, xs, ea, _, _, hc, hs⟩ := h i x hx
  refine ⟨g, o, ea, ?_⟩
  have := hc 0 (str x) (by rw [hs.1]; rfl)
  rw [Nat.mul_one, Nat.add_zero] at this
  exact this
theorem Moneys.at1 {N : Nat} {w : World} {l : List Int} {a : Option Addr} {n c : Nat} (h : Moneys N w l (.slice a n c)) : At1 w a (ints l) := by
  obtain ⟨a', c', e, _, _, h⟩ := h
  cases e
  intro i v hi
  unfold ints at hi
  rw [List.getElem?_map] at hi
  obtain ⟨x, hx, rfl⟩ := Option.map_eq_some_iff.1 hi
  obtain ⟨g, o, xs, ea, _, _, hc, hs⟩ := h i x hx
  refine ⟨g, o, ea, ?_⟩
  have := hc 0 (.int .i64 x) (by rw [hs]; rfl)
  rw [Nat.mul_one, Nat.add_zero] at this
  exact this
theorem At1.str {w : World} {a : Option Addr} {l : List Bytes} (h : At1 w a (strs l)) {i : Nat} (hi : i < l.length) : ∃ g o, a = some ⟨g, o, none⟩ ∧ w.cell? ⟨g, o + i, none⟩ = some (.string ⟨(l.getD i []).toArray⟩) := by
  refine h i _ ?_
  unfold strs
  rw [List.getElem?_map, List.getElem?_eq_getElem hi, List.getD_eq_getElem?_getD, List.getElem?_eq_getElem hi]
  rfl
theorem At1.int {w : World} {a : Option Addr} {l : List Int} (h : At1 w a (ints l)) {i : Nat} (hi : i < l.length) : ∃ g o, a = some ⟨g, o, none⟩ ∧ w.cell? ⟨g, o + i, none⟩ = some (.int .i64 (l.getD i 0)) := by
  refine h i _ ?_
  unfold ints
  rw [List.getElem?_map, List.getElem?_eq_getElem hi, List.getD_eq_getElem?_getD, List.getElem?_eq_getElem hi]
  rfl
theorem At1.below {w w' : World} {a : Option Addr} {vs : List Value} (h : At1 w a vs) (hb : Below w.heap.size w w') : At1 w' a vs := by
  intro i v hi
  obtain ⟨g, o, e, hc⟩ := h i v hi
  exact ⟨g, o, e, (World.cell?_of_block (hb.block g (World.block_lt_of_cell? w _ hc))).trans hc⟩
theorem take_hit {α : Type} {l : List α} {d s : α} {k : Nat} (hk : k < l.length) (he : l.getD k d = s) : s ∈ l := by
  rw [List.getD_eq_getElem?_getD, List.getElem?_eq_getElem hk] at he
  exact he ▸ List.getElem_mem hk
theorem take_step {α : Type} {l : List α} {d s : α} {k : Nat} (hk : k < l.length) (hn : s ∉ l.take k) (he : ¬ l.getD k d = s) : s ∉ l.take (k + 1) := by
  rw [List.take_add_one, List.mem_append]
  rintro (h | h)
  · exact hn h
  · rw [List.getElem?_eq_getElem hk] at h
    rw [List.getD_eq_getElem?_getD, List.getElem?_eq_getElem hk] at he
    simp at h he
    exact he h.symm

set_option maxRecDepth 100000 in
set_option maxHeartbeats 3200000 in
theorem indexS_any {w : World} {a : Option Addr} {l : List Bytes} {c : Nat} (h : At1 w a (strs l)) (hl : l.length ≤ 140737488351232) (s : Bytes) :
    Calls Tryz.prog 117 #[.slice a l.length c, str s] w fun e w' => ∃ i : Int, e = .returned (.int .i64 i) ∧ (0 ≤ i ↔ s ∈ l) ∧ w' = w := by
  have HA := hide h
  unfold str
  clear h
  go_enter Tryz.func117, Tryz.ntmps117
  go_wp2_with fail
  go_loop [8] (fun x => ∃ k : Nat, k ≤ l.length ∧ x = .int .i64 k ∧ Hid (s ∉ l.take k)) (fun x => l.length - (intOf x).toNat)
  case atStart => exact ⟨0, by omega, rfl, hide (by simp)⟩
  case round =>
    obtain ⟨k, hk, rfl, HK⟩ := hrel
    by_cases hlt : k < l.length
    · obtain ⟨g, o, rfl, kc⟩ := HA.out.str hlt
      by_cases he : l.getD k [] = s
      · have HP := hide (take_hit hlt he)
        rw [he] at kc
        clear he HK
        go_wp2_with fail
        go_ret
        exact ⟨_, rfl, ⟨fun _ => HP.out, fun _ => by omega⟩, rfl⟩
      · have HP := hide (take_step hlt HK.out he)
        generalize l.getD k [] = x at kc he
        have hbb : (s == x) = false := beq_eq_false_iff_ne.2 (fun e => he e.symm)
        clear he HK
        go_wp2_with fail
        go_round
        case rel => exact ⟨k + 1, by omega, by go_num, HP⟩
        case measure => simp [intOf]; omega
    · have HP : Hid (s ∉ l) := by
        have := HK.out
        rw [List.take_of_length_le (by omega)] at this
        exact this
      go_wp2_with fail
      go_ret
      exact ⟨_, rfl, ⟨fun h => absurd h (by omega), fun h => absurd h HP.out⟩, rfl⟩

set_option maxRecDepth 100000 in
set_option maxHeartbeats 1600000 in
theorem hasS_any {w : World} {a : Option Addr} {l : List Bytes} {c : Nat} (h : At1 w a (strs l)) (hl : l.length ≤ 140737488351232) (s : Bytes) :
    Calls Tryz.prog 103 #[.slice a l.length c, str s] w fun e w' => e = .returned (.bool (decide (s ∈ l))) ∧ w' = w := by
  have C := hide (indexS_any (c := c) h hl s)
  unfold str at *
  clear h
  go_enter Tryz.func103, Tryz.ntmps103
  go_wp2_with fail
  refine C.out.mono ?_
  rintro _ w1 ⟨i, rfl, hi, hw⟩
  subst w1
  have HI := hide hi
  clear hi C
  go_wp2_with fail
  go_ret
  exact ⟨ret_bool (decide_eq_decide.2 HI.out), rfl⟩

set_option maxRecDepth 100000 in
set_option maxHeartbeats 3200000 in
theorem indexM_any {w : World} {a : Option Addr} {l : List Int} {c : Nat} (h : At1 w a (ints l)) (hl : l.length ≤ 140737488351232) (s : Int) :
    Calls Tryz.prog 110 #[.slice a l.length c, .int .i64 s] w fun e w' => ∃ i : Int, e = .returned (.int .i64 i) ∧ (0 ≤ i ↔ s ∈ l) ∧ w' = w := by
  have HA := hide h
  clear h
  go_enter Tryz.func110, Tryz.ntmps110
  go_wp2_with fail
  go_loop [8] (fun x => ∃ k : Nat, k ≤ l.length ∧ x = .int .i64 k ∧ Hid (s ∉ l.take k)) (fun x => l.length - (intOf x).toNat)
  case atStart => exact ⟨0, by omega, rfl, hide (by simp)⟩
  case round =>
    obtain ⟨k, hk, rfl, HK⟩ := hrel
    by_cases hlt : k < l.length
    · obtain ⟨g, o, rfl, kc⟩ := HA.out.int hlt
      by_cases he : l.getD k 0 = s
      · have HP := hide (take_hit hlt he)
        rw [he] at kc
        clear he HK
        go_wp2_with fail
        go_ret
        exact ⟨_, rfl, ⟨fun _ => HP.out, fun _ => by omega⟩, rfl⟩
      · have HP := hide (take_step hlt HK.out he)
        generalize l.getD k 0 = x at kc he
        have hbb : (s == x) = false := beq_eq_false_iff_ne.2 (fun e => he e.symm)
        clear he HK
        go_wp2_with fail
        go_round
        case rel => exact ⟨k + 1, by omega, by go_num, HP⟩
        case measure => simp [intOf]; omega
    · have HP : Hid (s ∉ l) := by
        have := HK.out
        rw [List.take_of_length_le (by omega)] at this
        exact this
      go_wp2_with fail
      go_ret
      exact ⟨_, rfl, ⟨fun h => absurd h (by omega), fun h => absurd h HP.out⟩, rfl⟩

set_option maxRecDepth 100000 in
set_option maxHeartbeats 1600000 in
theorem hasM_any {w : World} {a : Option Addr} {l : List Int} {c : Nat} (h : At1 w a (ints l)) (hl : l.length ≤ 140737488351232) (s : Int) :
    Calls Tryz.prog 97 #[.slice a l.length c, .int .i64 s] w fun e w' => e = .returned (.bool (decide (s ∈ l))) ∧ w' = w := by
  have C := hide (indexM_any (c := c) h hl s)
  clear h
  go_enter Tryz.func97, Tryz.ntmps97
  go_wp2_with fail
  refine C.out.mono ?_
  rintro _ w1 ⟨i, rfl, hi, hw⟩
  subst w1
  have HI := hide hi
  clear hi C
  go_wp2_with fail
  go_ret
  exact ⟨ret_bool (decide_eq_decide.2 HI.out), rfl⟩

set_option maxRecDepth 100000 in
set_option maxHeartbeats 3200000 in
theorem indexI_any {w : World} {a : Option Addr} {l : List Int} {c : Nat} (h : At1 w a (ints l)) (hl : l.length ≤ 140737488351232) (s : Int) :
    Calls Tryz.prog 88 #[.slice a l.length c, .int .i64 s] w fun e w' => ∃ i : Int, e = .returned (.int .i64 i) ∧ (0 ≤ i ↔ s ∈ l) ∧ w' = w := by
  have HA := hide h
  clear h
  go_enter Tryz.func88, Tryz.ntmps88
  go_wp2_with fail
  go_loop [8] (fun x => ∃ k : Nat, k ≤ l.length ∧ x = .int .i64 k ∧ Hid (s ∉ l.take k)) (fun x => l.length - (intOf x).toNat)
  case atStart => exact ⟨0, by omega, rfl, hide (by simp)⟩
  case round =>
    obtain ⟨k, hk, rfl, HK⟩ := hrel
    by_cases hlt : k < l.length
    · obtain ⟨g, o, rfl, kc⟩ := HA.out.int hlt
      by_cases he : l.getD k 0 = s
      · have HP := hide (take_hit hlt he)
        rw [he] at kc
        clear he HK
        go_wp2_with fail
        go_ret
        exact ⟨_, rfl, ⟨fun _ => HP.out, fun _ => by omega⟩, rfl⟩
      · have HP := hide (take_step hlt HK.out he)
        generalize l.getD k 0 = x at kc he
        have hbb : (s == x) = false := beq_eq_false_iff_ne.2 (fun e => he e.symm)
        clear he HK
        go_wp2_with fail
        go_round
        case rel => exact ⟨k + 1, by omega, by go_num, HP⟩
        case measure => simp [intOf]; omega
    · have HP : Hid (s ∉ l) := by
        have := HK.out
        rw [List.take_of_length_le (by omega)] at this
        exact this
      go_wp2_with fail
      go_ret
      exact ⟨_, rfl, ⟨fun h => absurd h (by omega), fun h => absurd h HP.out⟩, rfl⟩

set_option maxRecDepth 100000 in
set_option maxHeartbeats 1600000 in
theorem hasI_any {w : World} {a : Option Addr} {l : List Int} {c : Nat} (h : At1 w a (ints l)) (hl : l.length ≤ 140737488351232) (s : Int) :
    Calls Tryz.prog 102 #[.slice a l.length c, .int .i64 s] w fun e w' => e = .returned (.bool (decide (s ∈ l))) ∧ w' = w := by
  have C := hide (indexI_any (c := c) h hl s)
  clear h
  go_enter Tryz.func102, Tryz.ntmps102
  go_wp2_with fail
  refine C.out.mono ?_
  rintro _ w1 ⟨i, rfl, hi, hw⟩
  subst w1
  have HI := hide hi
  clear hi C
  go_wp2_with fail
  go_ret
  exact ⟨ret_bool (decide_eq_decide.2 HI.out), rfl⟩

set_option maxRecDepth 100000 in
set_option maxHeartbeats 3200000 in
theorem equalS_any {w : World} {a b : Option Addr} {l m : List Bytes} {c d : Nat} (ha : At1 w a (strs l)) (hb : At1 w b (strs m)) (hl : l.length ≤ 140737488351232) :
    Calls Tryz.prog 99 #[.slice a l.length c, .slice b m.length d] w fun e w' => e = .returned (.bool (decide (l = m))) ∧ ∃ q, w' = w.drewN q := by
  have HA := hide ha
  have HB := hide hb
  clear ha hb
  by_cases he : l.length = m.length
  · have HE := hide he
    rw [← he]
    clear he
    go_enter Tryz.func99, Tryz.ntmps99
    go_wp2_with fail
    go_loopw [13] (fun x wr => ∃ k : Nat, k ≤ l.length ∧ x = .int .i64 k ∧ Hid (l.take k = m.take k) ∧ Hid (∃ q, wr = w.drewN q)) (fun x _ => l.length - (intOf x).toNat)
    case atStart => exact ⟨0, by omega, rfl, hide (by simp), hide ⟨0, rfl⟩⟩
    case round =>
      obtain ⟨k, hk, rfl, HK, HW⟩ := hrel
      by_cases hlt : k < l.length
      · obtain ⟨g, o, rfl, kc⟩ := HA.out.str hlt
        obtain ⟨g2, o2, rfl, kc2⟩ := HB.out.str (i := k) (by rw [← HE.out]; exact hlt)
        have kd : wr.cell? ⟨g, o + k, none⟩ = some (.string ⟨(l.getD k []).toArray⟩) := by obtain ⟨q, rfl⟩ := HW.out; exact kc
        have kd2 : wr.cell? ⟨g2, o2 + k, none⟩ = some (.string ⟨(m.getD k []).toArray⟩) := by obtain ⟨q, rfl⟩ := HW.out; exact kc2
        have HT : Hid (l.take (k + 1) = l.take k ++ [l.getD k []]) := by show _ = _; rw [List.take_add_one, List.getD_eq_getElem?_getD, List.getElem?_eq_getElem hlt]; rfl
        have HT2 : Hid (m.take (k + 1) = m.take k ++ [m.getD k []]) := by show _ = _; rw [List.take_add_one, List.getD_eq_getElem?_getD, List.getElem?_eq_getElem (by rw [← HE.out]; exact hlt)]; rfl
        have HNE : Hid (¬ l.getD k [] = m.getD k [] → ¬ l = m) := hide (fun h e => h (by rw [e]))
        clear kc kc2
        by_cases hs : l.getD k [] = m.getD k []
        · rw [← hs] at kd2 HT2
          clear hs HNE
          generalize l.getD k [] = x at kd kd2 HT HT2
          go_wp2_with fail
          go_quiet (fail)
          go_wp2_with fail
          go_roundw
          case rel => exact ⟨k + 1, by omega, by go_num, hide (by rw [HT.out, HT2.out, HK.out]), hide (by obtain ⟨q, rfl⟩ := HW.out; exact ⟨_, World.drewN_drewN _ _ _⟩)⟩
          case measure => simp [intOf]; omega
        · have HF := hide (HNE.out hs)
          generalize l.getD k [] = x at kd hs HT
          generalize m.getD k [] = y at kd2 hs HT2
          have hbb : (x == y) = false := beq_eq_false_iff_ne.2 hs
          clear hs HNE
          go_wp2_with fail
          go_quiet (fail)
          go_wp2_with fail
          go_ret
          exact ⟨ret_bool (by rw [decide_eq_false HF.out]), by obtain ⟨q, rfl⟩ := HW.out; exact ⟨_, World.drewN_drewN _ _ _⟩⟩
      · have HF : Hid (l = m) := by
          have := HK.out
          rw [List.take_of_length_le (by omega), List.take_of_length_le (by have := HE.out; omega)] at this
          exact this
        go_wp2_with fail
        go_ret
        exact ⟨ret_bool (by rw [decide_eq_true HF.out]), HW.out⟩
  · have HF : Hid (¬ l = m) := hide (fun e => he (by rw [e]))
    generalize l.length = x at *
    generalize m.length = y at *
    have hbb : ¬ ((x : Int) = y) := by omega
    go_enter Tryz.func99, Tryz.ntmps99
    go_wp2_with fail
    go_ret
    exact ⟨ret_bool (by rw [decide_eq_false HF.out]), 0, rfl⟩
end Go.Proofs.YtbdlgglbcaoakaaGreat
