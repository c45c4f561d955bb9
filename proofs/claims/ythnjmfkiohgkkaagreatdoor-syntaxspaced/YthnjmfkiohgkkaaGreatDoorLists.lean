/- Lists of things, read. By program. -/
import Derived.Test.YthnjmfkiohgkkaaGreatDoorAddS
import Derived.LoopTactic
import Derived.LoopN
namespace Go.Proofs.YthnjmfkiohgkkaaGreatDoor.Sy
open Go.RowKit

/-- The number of the next token, as it lies in memory. -/
def nOf (R : Nat) (w : World) : Nat := match w.cell? ⟨R, 1, none⟩ with
  | some (.int _ n) => n.toNat
  | _ => 0
theorem Rd.nOf_eq {R : Nat} {L : List Tok} {N : Nat} {s : RS} {st : St9} {w : World} (h : Rd R L N s st w) : nOf R w = s.n := by
  unfold nOf
  rw [h.c1]
  simp
theorem Fq.more {R : Nat} {w w1 w2 : World} {row : Option Nat} (h : Fq R w w1) (k : Fg R row w1 w2) (hr : ∀ g, row = some g → w.heap.size ≤ g) : Fq R w w2 :=
  ⟨k.os.trans h.os, k.tape.trans h.tape, k.output.trans h.output, Nat.le_trans h.size k.size, fun i hi hn => (k.block i (Nat.lt_of_lt_of_le hi h.size) hn fun e => by have := hr i e.symm; omega).trans (h.block i hi hn)⟩

theorem add_eats {α : Type} {k : Nat} {most : Int} {read : M α} {s u : RS} {a : α} (hr : ∀ s a u, read s = .ok a u → s.n < u.n) (h : addM k most read s = .ok a u) : s.n < u.n := hr { s with full := s.full || decide (most ≤ (k : Int)) } a u (set_go h)
theorem loop_go {α : Type} {most : Int} {read : M α} {more : M Bool} {f : Nat} {acc : List α} {s : RS} {o : Out (List α)} (h : loopM most read more (f + 1) acc s = o) :
    (more >>= fun b => if b = true then addM acc.length most read >>= fun x => loopM most read more f (acc ++ [x]) else pure acc) s = o := h

section
variable (R : Nat) (L : List Tok) (N : Nat) (s : RS) (st : St9) (w : World)

set_option maxRecDepth 100000 in
set_option maxHeartbeats 1600000 in
theorem list_string_name (readM : M Bytes) (CR : ∀ s w, Rd R L N s st w → Calls Tryz.prog 72 #[.pointer (some ⟨R, 0, none⟩)] w (Ends R L N st w repS (readM s)))
    (moreM : M Bool) (CM : ∀ s w, Rd R L N s st w → Calls Tryz.prog 123 #[.pointer (some ⟨R, 0, none⟩)] w (Ends R L N st w repB (moreM s)))
    (hr : ∀ s a u, readM s = .ok a u → s.n < u.n) (hm : ∀ s u, moreM s = .ok true u → s.n < u.n) (most : Int)
    (h : Rd R L N s st w) (o : Out (List Bytes)) (ho : listM (kt L) most readM moreM s = o) :
    Calls Tryz.prog 122 #[.pointer (some ⟨R, 0, none⟩), .int .i64 most, .func (.func 72) #[.pointer (some ⟨R, 0, none⟩)] #[], .func (.func 123) #[.pointer (some ⟨R, 0, none⟩)] #[]] w
      (Ends R L N st w (fun w' l v => Rows (New w) 9 1 cS w' l v) o) := by
  have HO := hide ho
  have HLT := hide h.lt
  have HR0 := hide hr
  have HM0 := hide hm
  have CM := hide CM
  have HZR : Hid (∀ g, New w g → R < g) := hide fun g hg => Nat.lt_of_lt_of_le h.lt hg
  have CA := hide (fun s w' => add_string_name R L N s st w' readM CR (New w))
  have C1 := hide (CA.out s w [] (.slice none 0 0) most (by simp) (Rows.nil _ _ _ _ _) (fun g hg => hg) HZR.out h _ rfl)
  have HN := hide (show (kt L).length = L.length by simp [kt])
  clear ho h hr hm CR
  go_enter Tryz.func122, Tryz.ntmps122
  go_wp2_with fail
  refine C1.out.mono ?_
  intro e w1 he
  rcases he.split with ⟨a1, s1, v1, ho, rfl, hv, hR, hF⟩ | ⟨c, m, ho, rfl, hF⟩
  rotate_left 1
  · exact on_panic rfl (.of_bad (bind_no HO.out ho) hF)
  have HO1 := hide (bind_go HO.out ho)
  have HV1 := hide hv
  have HR1 := hide hR
  have HF1 := hide (Fg.fq hF)
  have HE1 : Hid (1 ≤ s1.n) := hide (by have := add_eats HR0.out ho; omega)
  clear he ho hv hR hF HO C1
  go_wp2_with fail
  go_loopw [9] (fun x wr => ∃ (acc : List Bytes) (t : RS) (f : Nat), Hid (Rows (New w) 9 1 cS wr acc x) ∧ Hid (Rd R L N t st wr) ∧ Hid (Fq R w wr) ∧ Hid (loopM most readM moreM f acc t = o) ∧ Hid (L.length - t.n < f) ∧ Hid (acc.length ≤ t.n)) (fun _ wr => L.length - nOf R wr)
  case atStart => exact ⟨[a1], s1, (kt L).length + 1, HV1, HR1, HF1, HO1, hide (by rw [HN.out]; omega), HE1⟩
  case round =>
    obtain ⟨acc, t, f, HV, HR, HF, HO, Hf, Hn⟩ := hrel
    clear HV1 HR1 HF1 HO1
    obtain ⟨f, rfl⟩ : ∃ g, f = g + 1 := ⟨f - 1, by have := Hf.out; omega⟩
    have HO := hide (loop_go HO.out)
    go_wp2_with fail
    refine (CM.out _ _ HR.out).mono ?_
    intro e w2 he
    rcases he.split with ⟨b, t2, v2, ho, rfl, hv, hR, hF⟩ | ⟨c, m, ho, rfl, hF⟩
    rotate_left 1
    · exact ⟨rfl, .of_bad (bind_no HO.out ho) (HF.out.trans hF)⟩
    cases hv
    have HR2 := hide hR
    have HF2 := hide (HF.out.trans hF)
    have HK : Hid (∀ T, 62 ∉ T → Kp T (New w) _ w2) := hide fun T hT => Kp.of_fq hF HR.out hT
    have HV2 := hide (Rows.keep HV.out (HK.out [9] (by decide)) (by decide) (fun _ _ h => h))
    cases b with
    | false =>
      have h2 := bind_go HO.out ho
      have HO2 := hide (ite_f h2 rfl)
      clear h2
      clear he ho hR hF HO HR HF HV HK
      go_wp2_with fail
      go_ret
      exact .of_ok HO2.out HV2.out HR2.out HF2.out
    | true =>
      have h2 := bind_go HO.out ho
      have HO2 := hide (ite_t h2 rfl)
      clear h2
      have HT2 := hide (HM0.out _ _ ho)
      have C3 := hide (CA.out t2 w2 acc _ most (by have := HR.out.nle; have := HR.out.Lle; have := Hn.out; omega) HV2.out (fun g hg => Nat.le_trans HF2.out.size hg) HZR.out HR2.out _ rfl)
      have HC1 := hide HR.out.c1
      clear he ho hR hF HO HK
      go_wp2_with fail
      refine C3.out.mono ?_
      intro e w3 he
      rcases he.split with ⟨a3, t3, v3, ho, rfl, hv, hR, hF⟩ | ⟨c, m, ho, rfl, hF⟩
      rotate_left 1
      · exact ⟨rfl, .of_bad (bind_no HO2.out ho) (HF2.out.trans hF)⟩
      have HO3 := hide (bind_go HO2.out ho)
      have HV3 := hide hv
      have HR3 := hide hR
      have HF3 := hide (HF2.out.more hF fun g hg => by obtain ⟨xs, hx, _⟩ := HV2.out; exact hx.2 g hg)
      have HT3 : Hid (t2.n < t3.n) := hide (add_eats HR0.out ho)
      clear he ho hv hR hF HO2 C3
      go_wp2_with fail
      go_roundw
      case rel => exact ⟨acc ++ [a3], t3, f, HV3, HR3, HF3, HO3, hide (by have := HT2.out; have := HT3.out; have := Hf.out; have := HR3.out.nle; omega), hide (by have := HT2.out; have := HT3.out; have := Hn.out; simp; omega)⟩
      case measure =>
        rw [HR3.out.nOf_eq, HR.out.nOf_eq]
        have := HT2.out; have := HT3.out; have := HR3.out.nle
        omega

set_option maxRecDepth 100000 in
set_option maxHeartbeats 1600000 in
theorem list_string_arg (readM : M Bytes) (CR : ∀ s w, Rd R L N s st w → Calls Tryz.prog 159 #[.pointer (some ⟨R, 0, none⟩)] w (Ends R L N st w repS (readM s)))
    (moreM : M Bool) (CM : ∀ s w, Rd R L N s st w → Calls Tryz.prog 123 #[.pointer (some ⟨R, 0, none⟩)] w (Ends R L N st w repB (moreM s)))
    (hr : ∀ s a u, readM s = .ok a u → s.n < u.n) (hm : ∀ s u, moreM s = .ok true u → s.n < u.n) (most : Int)
    (h : Rd R L N s st w) (o : Out (List Bytes)) (ho : listM (kt L) most readM moreM s = o) :
    Calls Tryz.prog 122 #[.pointer (some ⟨R, 0, none⟩), .int .i64 most, .func (.func 159) #[.pointer (some ⟨R, 0, none⟩)] #[], .func (.func 123) #[.pointer (some ⟨R, 0, none⟩)] #[]] w
      (Ends R L N st w (fun w' l v => Rows (New w) 9 1 cS w' l v) o) := by
  have HO := hide ho
  have HLT := hide h.lt
  have HR0 := hide hr
  have HM0 := hide hm
  have CM := hide CM
  have HZR : Hid (∀ g, New w g → R < g) := hide fun g hg => Nat.lt_of_lt_of_le h.lt hg
  have CA := hide (fun s w' => add_string_arg R L N s st w' readM CR (New w))
  have C1 := hide (CA.out s w [] (.slice none 0 0) most (by simp) (Rows.nil _ _ _ _ _) (fun g hg => hg) HZR.out h _ rfl)
  have HN := hide (show (kt L).length = L.length by simp [kt])
  clear ho h hr hm CR
  go_enter Tryz.func122, Tryz.ntmps122
  go_wp2_with fail
  refine C1.out.mono ?_
  intro e w1 he
  rcases he.split with ⟨a1, s1, v1, ho, rfl, hv, hR, hF⟩ | ⟨c, m, ho, rfl, hF⟩
  rotate_left 1
  · exact on_panic rfl (.of_bad (bind_no HO.out ho) hF)
  have HO1 := hide (bind_go HO.out ho)
  have HV1 := hide hv
  have HR1 := hide hR
  have HF1 := hide (Fg.fq hF)
  have HE1 : Hid (1 ≤ s1.n) := hide (by have := add_eats HR0.out ho; omega)
  clear he ho hv hR hF HO C1
  go_wp2_with fail
  go_loopw [9] (fun x wr => ∃ (acc : List Bytes) (t : RS) (f : Nat), Hid (Rows (New w) 9 1 cS wr acc x) ∧ Hid (Rd R L N t st wr) ∧ Hid (Fq R w wr) ∧ Hid (loopM most readM moreM f acc t = o) ∧ Hid (L.length - t.n < f) ∧ Hid (acc.length ≤ t.n)) (fun _ wr => L.length - nOf R wr)
  case atStart => exact ⟨[a1], s1, (kt L).length + 1, HV1, HR1, HF1, HO1, hide (by rw [HN.out]; omega), HE1⟩
  case round =>
    obtain ⟨acc, t, f, HV, HR, HF, HO, Hf, Hn⟩ := hrel
    clear HV1 HR1 HF1 HO1
    obtain ⟨f, rfl⟩ : ∃ g, f = g + 1 := ⟨f - 1, by have := Hf.out; omega⟩
    have HO := hide (loop_go HO.out)
    go_wp2_with fail
    refine (CM.out _ _ HR.out).mono ?_
    intro e w2 he
    rcases he.split with ⟨b, t2, v2, ho, rfl, hv, hR, hF⟩ | ⟨c, m, ho, rfl, hF⟩
    rotate_left 1
    · exact ⟨rfl, .of_bad (bind_no HO.out ho) (HF.out.trans hF)⟩
    cases hv
    have HR2 := hide hR
    have HF2 := hide (HF.out.trans hF)
    have HK : Hid (∀ T, 62 ∉ T → Kp T (New w) _ w2) := hide fun T hT => Kp.of_fq hF HR.out hT
    have HV2 := hide (Rows.keep HV.out (HK.out [9] (by decide)) (by decide) (fun _ _ h => h))
    cases b with
    | false =>
      have h2 := bind_go HO.out ho
      have HO2 := hide (ite_f h2 rfl)
      clear h2
      clear he ho hR hF HO HR HF HV HK
      go_wp2_with fail
      go_ret
      exact .of_ok HO2.out HV2.out HR2.out HF2.out
    | true =>
      have h2 := bind_go HO.out ho
      have HO2 := hide (ite_t h2 rfl)
      clear h2
      have HT2 := hide (HM0.out _ _ ho)
      have C3 := hide (CA.out t2 w2 acc _ most (by have := HR.out.nle; have := HR.out.Lle; have := Hn.out; omega) HV2.out (fun g hg => Nat.le_trans HF2.out.size hg) HZR.out HR2.out _ rfl)
      have HC1 := hide HR.out.c1
      clear he ho hR hF HO HK
      go_wp2_with fail
      refine C3.out.mono ?_
      intro e w3 he
      rcases he.split with ⟨a3, t3, v3, ho, rfl, hv, hR, hF⟩ | ⟨c, m, ho, rfl, hF⟩
      rotate_left 1
      · exact ⟨rfl, .of_bad (bind_no HO2.out ho) (HF2.out.trans hF)⟩
      have HO3 := hide (bind_go HO2.out ho)
      have HV3 := hide hv
      have HR3 := hide hR
      have HF3 := hide (HF2.out.more hF fun g hg => by obtain ⟨xs, hx, _⟩ := HV2.out; exact hx.2 g hg)
      have HT3 : Hid (t2.n < t3.n) := hide (add_eats HR0.out ho)
      clear he ho hv hR hF HO2 C3
      go_wp2_with fail
      go_roundw
      case rel => exact ⟨acc ++ [a3], t3, f, HV3, HR3, HF3, HO3, hide (by have := HT2.out; have := HT3.out; have := Hf.out; have := HR3.out.nle; omega), hide (by have := HT2.out; have := HT3.out; have := Hn.out; simp; omega)⟩
      case measure =>
        rw [HR3.out.nOf_eq, HR.out.nOf_eq]
        have := HT2.out; have := HT3.out; have := HR3.out.nle
        omega

set_option maxRecDepth 100000 in
set_option maxHeartbeats 1600000 in
theorem list_money_money (readM : M Int) (CR : ∀ s w, Rd R L N s st w → Calls Tryz.prog 126 #[.pointer (some ⟨R, 0, none⟩)] w (Ends R L N st w repI (readM s)))
    (moreM : M Bool) (CM : ∀ s w, Rd R L N s st w → Calls Tryz.prog 123 #[.pointer (some ⟨R, 0, none⟩)] w (Ends R L N st w repB (moreM s)))
    (hr : ∀ s a u, readM s = .ok a u → s.n < u.n) (hm : ∀ s u, moreM s = .ok true u → s.n < u.n) (most : Int)
    (h : Rd R L N s st w) (o : Out (List Int)) (ho : listM (kt L) most readM moreM s = o) :
    Calls Tryz.prog 125 #[.pointer (some ⟨R, 0, none⟩), .int .i64 most, .func (.func 126) #[.pointer (some ⟨R, 0, none⟩)] #[], .func (.func 123) #[.pointer (some ⟨R, 0, none⟩)] #[]] w
      (Ends R L N st w (fun w' l v => Rows (New w) 93 1 cI w' l v) o) := by
  have HO := hide ho
  have HLT := hide h.lt
  have HR0 := hide hr
  have HM0 := hide hm
  have CM := hide CM
  have HZR : Hid (∀ g, New w g → R < g) := hide fun g hg => Nat.lt_of_lt_of_le h.lt hg
  have CA := hide (fun s w' => add_money_money R L N s st w' readM CR (New w))
  have C1 := hide (CA.out s w [] (.slice none 0 0) most (by simp) (Rows.nil _ _ _ _ _) (fun g hg => hg) HZR.out h _ rfl)
  have HN := hide (show (kt L).length = L.length by simp [kt])
  clear ho h hr hm CR
  go_enter Tryz.func125, Tryz.ntmps125
  go_wp2_with fail
  refine C1.out.mono ?_
  intro e w1 he
  rcases he.split with ⟨a1, s1, v1, ho, rfl, hv, hR, hF⟩ | ⟨c, m, ho, rfl, hF⟩
  rotate_left 1
  · exact on_panic rfl (.of_bad (bind_no HO.out ho) hF)
  have HO1 := hide (bind_go HO.out ho)
  have HV1 := hide hv
  have HR1 := hide hR
  have HF1 := hide (Fg.fq hF)
  have HE1 : Hid (1 ≤ s1.n) := hide (by have := add_eats HR0.out ho; omega)
  clear he ho hv hR hF HO C1
  go_wp2_with fail
  go_loopw [9] (fun x wr => ∃ (acc : List Int) (t : RS) (f : Nat), Hid (Rows (New w) 93 1 cI wr acc x) ∧ Hid (Rd R L N t st wr) ∧ Hid (Fq R w wr) ∧ Hid (loopM most readM moreM f acc t = o) ∧ Hid (L.length - t.n < f) ∧ Hid (acc.length ≤ t.n)) (fun _ wr => L.length - nOf R wr)
  case atStart => exact ⟨[a1], s1, (kt L).length + 1, HV1, HR1, HF1, HO1, hide (by rw [HN.out]; omega), HE1⟩
  case round =>
    obtain ⟨acc, t, f, HV, HR, HF, HO, Hf, Hn⟩ := hrel
    clear HV1 HR1 HF1 HO1
    obtain ⟨f, rfl⟩ : ∃ g, f = g + 1 := ⟨f - 1, by have := Hf.out; omega⟩
    have HO := hide (loop_go HO.out)
    go_wp2_with fail
    refine (CM.out _ _ HR.out).mono ?_
    intro e w2 he
    rcases he.split with ⟨b, t2, v2, ho, rfl, hv, hR, hF⟩ | ⟨c, m, ho, rfl, hF⟩
    rotate_left 1
    · exact ⟨rfl, .of_bad (bind_no HO.out ho) (HF.out.trans hF)⟩
    cases hv
    have HR2 := hide hR
    have HF2 := hide (HF.out.trans hF)
    have HK : Hid (∀ T, 62 ∉ T → Kp T (New w) _ w2) := hide fun T hT => Kp.of_fq hF HR.out hT
    have HV2 := hide (Rows.keep HV.out (HK.out [93] (by decide)) (by decide) (fun _ _ h => h))
    cases b with
    | false =>
      have h2 := bind_go HO.out ho
      have HO2 := hide (ite_f h2 rfl)
      clear h2
      clear he ho hR hF HO HR HF HV HK
      go_wp2_with fail
      go_ret
      exact .of_ok HO2.out HV2.out HR2.out HF2.out
    | true =>
      have h2 := bind_go HO.out ho
      have HO2 := hide (ite_t h2 rfl)
      clear h2
      have HT2 := hide (HM0.out _ _ ho)
      have C3 := hide (CA.out t2 w2 acc _ most (by have := HR.out.nle; have := HR.out.Lle; have := Hn.out; omega) HV2.out (fun g hg => Nat.le_trans HF2.out.size hg) HZR.out HR2.out _ rfl)
      have HC1 := hide HR.out.c1
      clear he ho hR hF HO HK
      go_wp2_with fail
      refine C3.out.mono ?_
      intro e w3 he
      rcases he.split with ⟨a3, t3, v3, ho, rfl, hv, hR, hF⟩ | ⟨c, m, ho, rfl, hF⟩
      rotate_left 1
      · exact ⟨rfl, .of_bad (bind_no HO2.out ho) (HF2.out.trans hF)⟩
      have HO3 := hide (bind_go HO2.out ho)
      have HV3 := hide hv
      have HR3 := hide hR
      have HF3 := hide (HF2.out.more hF fun g hg => by obtain ⟨xs, hx, _⟩ := HV2.out; exact hx.2 g hg)
      have HT3 : Hid (t2.n < t3.n) := hide (add_eats HR0.out ho)
      clear he ho hv hR hF HO2 C3
      go_wp2_with fail
      go_roundw
      case rel => exact ⟨acc ++ [a3], t3, f, HV3, HR3, HF3, HO3, hide (by have := HT2.out; have := HT3.out; have := Hf.out; have := HR3.out.nle; omega), hide (by have := HT2.out; have := HT3.out; have := Hn.out; simp; omega)⟩
      case measure =>
        rw [HR3.out.nOf_eq, HR.out.nOf_eq]
        have := HT2.out; have := HT3.out; have := HR3.out.nle
        omega

set_option maxRecDepth 100000 in
set_option maxHeartbeats 1600000 in
theorem list_term_term (readM : M TermM) (CR : ∀ s w, Rd R L N s st w → Calls Tryz.prog 196 #[.pointer (some ⟨R, 0, none⟩)] w (Ends R L N st w (vTerm (New w)) (readM s)))
    (moreM : M Bool) (CM : ∀ s w, Rd R L N s st w → Calls Tryz.prog 197 #[.pointer (some ⟨R, 0, none⟩)] w (Ends R L N st w repB (moreM s)))
    (hr : ∀ s a u, readM s = .ok a u → s.n < u.n) (hm : ∀ s u, moreM s = .ok true u → s.n < u.n) (most : Int)
    (h : Rd R L N s st w) (o : Out (List TermM)) (ho : listM (kt L) most readM moreM s = o) :
    Calls Tryz.prog 195 #[.pointer (some ⟨R, 0, none⟩), .int .i64 most, .func (.func 196) #[.pointer (some ⟨R, 0, none⟩)] #[], .func (.func 197) #[.pointer (some ⟨R, 0, none⟩)] #[]] w
      (Ends R L N st w (fun w' l v => Rows (New w) 109 4 (cTerm (New w)) w' l v) o) := by
  have HO := hide ho
  have HLT := hide h.lt
  have HR0 := hide hr
  have HM0 := hide hm
  have CM := hide CM
  have HZR : Hid (∀ g, New w g → R < g) := hide fun g hg => Nat.lt_of_lt_of_le h.lt hg
  have CA := hide (fun s w' => add_term_term R L N s st w' readM CR (New w))
  have C1 := hide (CA.out s w [] (.slice none 0 0) most (by simp) (Rows.nil _ _ _ _ _) (fun g hg => hg) HZR.out h _ rfl)
  have HN := hide (show (kt L).length = L.length by simp [kt])
  clear ho h hr hm CR
  go_enter Tryz.func195, Tryz.ntmps195
  go_wp2_with fail
  refine C1.out.mono ?_
  intro e w1 he
  rcases he.split with ⟨a1, s1, v1, ho, rfl, hv, hR, hF⟩ | ⟨c, m, ho, rfl, hF⟩
  rotate_left 1
  · exact on_panic rfl (.of_bad (bind_no HO.out ho) hF)
  have HO1 := hide (bind_go HO.out ho)
  have HV1 := hide hv
  have HR1 := hide hR
  have HF1 := hide (Fg.fq hF)
  have HE1 : Hid (1 ≤ s1.n) := hide (by have := add_eats HR0.out ho; omega)
  clear he ho hv hR hF HO C1
  go_wp2_with fail
  go_loopw [9] (fun x wr => ∃ (acc : List TermM) (t : RS) (f : Nat), Hid (Rows (New w) 109 4 (cTerm (New w)) wr acc x) ∧ Hid (Rd R L N t st wr) ∧ Hid (Fq R w wr) ∧ Hid (loopM most readM moreM f acc t = o) ∧ Hid (L.length - t.n < f) ∧ Hid (acc.length ≤ t.n)) (fun _ wr => L.length - nOf R wr)
  case atStart => exact ⟨[a1], s1, (kt L).length + 1, HV1, HR1, HF1, HO1, hide (by rw [HN.out]; omega), HE1⟩
  case round =>
    obtain ⟨acc, t, f, HV, HR, HF, HO, Hf, Hn⟩ := hrel
    clear HV1 HR1 HF1 HO1
    obtain ⟨f, rfl⟩ : ∃ g, f = g + 1 := ⟨f - 1, by have := Hf.out; omega⟩
    have HO := hide (loop_go HO.out)
    go_wp2_with fail
    refine (CM.out _ _ HR.out).mono ?_
    intro e w2 he
    rcases he.split with ⟨b, t2, v2, ho, rfl, hv, hR, hF⟩ | ⟨c, m, ho, rfl, hF⟩
    rotate_left 1
    · exact ⟨rfl, .of_bad (bind_no HO.out ho) (HF.out.trans hF)⟩
    cases hv
    have HR2 := hide hR
    have HF2 := hide (HF.out.trans hF)
    have HK : Hid (∀ T, 62 ∉ T → Kp T (New w) _ w2) := hide fun T hT => Kp.of_fq hF HR.out hT
    have HV2 := hide (Rows.keep HV.out (HK.out [109, 9] (by decide)) (by decide) (fun _ _ h => h.keep (HK.out [9] (by decide)) (by decide)))
    cases b with
    | false =>
      have h2 := bind_go HO.out ho
      have HO2 := hide (ite_f h2 rfl)
      clear h2
      clear he ho hR hF HO HR HF HV HK
      go_wp2_with fail
      go_ret
      exact .of_ok HO2.out HV2.out HR2.out HF2.out
    | true =>
      have h2 := bind_go HO.out ho
      have HO2 := hide (ite_t h2 rfl)
      clear h2
      have HT2 := hide (HM0.out _ _ ho)
      have C3 := hide (CA.out t2 w2 acc _ most (by have := HR.out.nle; have := HR.out.Lle; have := Hn.out; omega) HV2.out (fun g hg => Nat.le_trans HF2.out.size hg) HZR.out HR2.out _ rfl)
      have HC1 := hide HR.out.c1
      clear he ho hR hF HO HK
      go_wp2_with fail
      refine C3.out.mono ?_
      intro e w3 he
      rcases he.split with ⟨a3, t3, v3, ho, rfl, hv, hR, hF⟩ | ⟨c, m, ho, rfl, hF⟩
      rotate_left 1
      · exact ⟨rfl, .of_bad (bind_no HO2.out ho) (HF2.out.trans hF)⟩
      have HO3 := hide (bind_go HO2.out ho)
      have HV3 := hide hv
      have HR3 := hide hR
      have HF3 := hide (HF2.out.more hF fun g hg => by obtain ⟨xs, hx, _⟩ := HV2.out; exact hx.2 g hg)
      have HT3 : Hid (t2.n < t3.n) := hide (add_eats HR0.out ho)
      clear he ho hv hR hF HO2 C3
      go_wp2_with fail
      go_roundw
      case rel => exact ⟨acc ++ [a3], t3, f, HV3, HR3, HF3, HO3, hide (by have := HT2.out; have := HT3.out; have := Hf.out; have := HR3.out.nle; omega), hide (by have := HT2.out; have := HT3.out; have := Hn.out; simp; omega)⟩
      case measure =>
        rw [HR3.out.nOf_eq, HR.out.nOf_eq]
        have := HT2.out; have := HT3.out; have := HR3.out.nle
        omega

set_option maxRecDepth 100000 in
set_option maxHeartbeats 1600000 in
theorem list_prem_prem (readM : M PremM) (CR : ∀ s w, Rd R L N s st w → Calls Tryz.prog 132 #[.pointer (some ⟨R, 0, none⟩)] w (Ends R L N st w (vPrem (New w)) (readM s)))
    (moreM : M Bool) (CM : ∀ s w, Rd R L N s st w → Calls Tryz.prog 123 #[.pointer (some ⟨R, 0, none⟩)] w (Ends R L N st w repB (moreM s)))
    (hr : ∀ s a u, readM s = .ok a u → s.n < u.n) (hm : ∀ s u, moreM s = .ok true u → s.n < u.n) (most : Int)
    (h : Rd R L N s st w) (o : Out (List PremM)) (ho : listM (kt L) most readM moreM s = o) :
    Calls Tryz.prog 131 #[.pointer (some ⟨R, 0, none⟩), .int .i64 most, .func (.func 132) #[.pointer (some ⟨R, 0, none⟩)] #[], .func (.func 123) #[.pointer (some ⟨R, 0, none⟩)] #[]] w
      (Ends R L N st w (fun w' l v => Rows (New w) 107 11 (cPrem (New w)) w' l v) o) := by
  have HO := hide ho
  have HLT := hide h.lt
  have HR0 := hide hr
  have HM0 := hide hm
  have CM := hide CM
  have HZR : Hid (∀ g, New w g → R < g) := hide fun g hg => Nat.lt_of_lt_of_le h.lt hg
  have CA := hide (fun s w' => add_prem_prem R L N s st w' readM CR (New w))
  have C1 := hide (CA.out s w [] (.slice none 0 0) most (by simp) (Rows.nil _ _ _ _ _) (fun g hg => hg) HZR.out h _ rfl)
  have HN := hide (show (kt L).length = L.length by simp [kt])
  clear ho h hr hm CR
  go_enter Tryz.func131, Tryz.ntmps131
  go_wp2_with fail
  refine C1.out.mono ?_
  intro e w1 he
  rcases he.split with ⟨a1, s1, v1, ho, rfl, hv, hR, hF⟩ | ⟨c, m, ho, rfl, hF⟩
  rotate_left 1
  · exact on_panic rfl (.of_bad (bind_no HO.out ho) hF)
  have HO1 := hide (bind_go HO.out ho)
  have HV1 := hide hv
  have HR1 := hide hR
  have HF1 := hide (Fg.fq hF)
  have HE1 : Hid (1 ≤ s1.n) := hide (by have := add_eats HR0.out ho; omega)
  clear he ho hv hR hF HO C1
  go_wp2_with fail
  go_loopw [9] (fun x wr => ∃ (acc : List PremM) (t : RS) (f : Nat), Hid (Rows (New w) 107 11 (cPrem (New w)) wr acc x) ∧ Hid (Rd R L N t st wr) ∧ Hid (Fq R w wr) ∧ Hid (loopM most readM moreM f acc t = o) ∧ Hid (L.length - t.n < f) ∧ Hid (acc.length ≤ t.n)) (fun _ wr => L.length - nOf R wr)
  case atStart => exact ⟨[a1], s1, (kt L).length + 1, HV1, HR1, HF1, HO1, hide (by rw [HN.out]; omega), HE1⟩
  case round =>
    obtain ⟨acc, t, f, HV, HR, HF, HO, Hf, Hn⟩ := hrel
    clear HV1 HR1 HF1 HO1
    obtain ⟨f, rfl⟩ : ∃ g, f = g + 1 := ⟨f - 1, by have := Hf.out; omega⟩
    have HO := hide (loop_go HO.out)
    go_wp2_with fail
    refine (CM.out _ _ HR.out).mono ?_
    intro e w2 he
    rcases he.split with ⟨b, t2, v2, ho, rfl, hv, hR, hF⟩ | ⟨c, m, ho, rfl, hF⟩
    rotate_left 1
    · exact ⟨rfl, .of_bad (bind_no HO.out ho) (HF.out.trans hF)⟩
    cases hv
    have HR2 := hide hR
    have HF2 := hide (HF.out.trans hF)
    have HK : Hid (∀ T, 62 ∉ T → Kp T (New w) _ w2) := hide fun T hT => Kp.of_fq hF HR.out hT
    have HV2 := hide (Rows.keep HV.out (HK.out [107, 9, 109] (by decide)) (by decide) (fun _ _ h => h.keep (HK.out [9, 109] (by decide)) (by decide) (by decide)))
    cases b with
    | false =>
      have h2 := bind_go HO.out ho
      have HO2 := hide (ite_f h2 rfl)
      clear h2
      clear he ho hR hF HO HR HF HV HK
      go_wp2_with fail
      go_ret
      exact .of_ok HO2.out HV2.out HR2.out HF2.out
    | true =>
      have h2 := bind_go HO.out ho
      have HO2 := hide (ite_t h2 rfl)
      clear h2
      have HT2 := hide (HM0.out _ _ ho)
      have C3 := hide (CA.out t2 w2 acc _ most (by have := HR.out.nle; have := HR.out.Lle; have := Hn.out; omega) HV2.out (fun g hg => Nat.le_trans HF2.out.size hg) HZR.out HR2.out _ rfl)
      have HC1 := hide HR.out.c1
      clear he ho hR hF HO HK
      go_wp2_with fail
      refine C3.out.mono ?_
      intro e w3 he
      rcases he.split with ⟨a3, t3, v3, ho, rfl, hv, hR, hF⟩ | ⟨c, m, ho, rfl, hF⟩
      rotate_left 1
      · exact ⟨rfl, .of_bad (bind_no HO2.out ho) (HF2.out.trans hF)⟩
      have HO3 := hide (bind_go HO2.out ho)
      have HV3 := hide hv
      have HR3 := hide hR
      have HF3 := hide (HF2.out.more hF fun g hg => by obtain ⟨xs, hx, _⟩ := HV2.out; exact hx.2 g hg)
      have HT3 : Hid (t2.n < t3.n) := hide (add_eats HR0.out ho)
      clear he ho hv hR hF HO2 C3
      go_wp2_with fail
      go_roundw
      case rel => exact ⟨acc ++ [a3], t3, f, HV3, HR3, HF3, HO3, hide (by have := HT2.out; have := HT3.out; have := Hf.out; have := HR3.out.nle; omega), hide (by have := HT2.out; have := HT3.out; have := Hn.out; simp; omega)⟩
      case measure =>
        rw [HR3.out.nOf_eq, HR.out.nOf_eq]
        have := HT2.out; have := HT3.out; have := HR3.out.nle
        omega

end
end Go.Proofs.YthnjmfkiohgkkaaGreatDoor.Sy
