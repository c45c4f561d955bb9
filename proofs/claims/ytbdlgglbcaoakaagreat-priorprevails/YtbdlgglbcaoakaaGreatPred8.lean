/- Predicates. -/
import Derived.Test.YtbdlgglbcaoakaaGreatLast8
namespace Go.Proofs.YtbdlgglbcaoakaaGreat
open Go.RowKit Go.Shelf Go.Maps Go.WideMaps

theorem allM_step {α β : Type} {f : Nat → α → Er Unit} {l : List α} {k : Nat} {x : α} {g : Unit → Er β} {o : Er β} (h : (allM f k (l.drop k) >>= g) = o) (hx : l[k]? = some x) : (f k x >>= fun _ => (allM f (k + 1) (l.drop (k + 1)) >>= g)) = o := by
  have hlt := (List.getElem?_eq_some_iff.1 hx).1
  have e : l.drop k = x :: l.drop (k + 1) := by
    rw [List.drop_eq_getElem_cons hlt]
    rw [List.getElem?_eq_getElem hlt] at hx
    cases hx
    rfl
  rw [e] at h
  rw [← h]
  show _ = ((f k x >>= fun _ => allM f (k + 1) (l.drop (k + 1))) >>= g)
  cases f k x <;> rfl
theorem allM_end {α β : Type} {f : Nat → α → Er Unit} {l : List α} {k : Nat} {g : Unit → Er β} {o : Er β} (h : (allM f k (l.drop k) >>= g) = o) (hk : l.length ≤ k) : g () = o := by
  rw [List.drop_eq_nil_of_le hk] at h
  exact h
theorem bind_unit {α : Type} {x : Er α} {a : α} (h : x = .ok a) : (x >>= fun _ => (.ok () : Er Unit)) = .ok () := by rw [h]; rfl
theorem bind_unit_no {α : Type} {x : Er α} {c : Int} (h : x = .error c) : (x >>= fun _ => (.ok () : Er Unit)) = .error c := by rw [h]; rfl
theorem bind_pure {x : Er Unit} {o : Er Unit} (h : x = o) : (x >>= fun _ => (.ok () : Er Unit)) = o := by rw [← h]; cases x <;> rfl
theorem Lk.cell {w X : World} (h : Lk w X) (p : Addr) : X.cell? p = w.cell? p := World.cell?_of_block (by rw [h.heap])
theorem Lk.trans {w X Y : World} (h : Lk w X) (k : Lk X Y) : Lk w Y := ⟨k.heap.trans h.heap, k.os.trans h.os, k.tape.trans h.tape, k.output.trans h.output⟩
theorem Lk.refl {w : World} : Lk w w := ⟨rfl, rfl, rfl, rfl⟩
theorem At1.like {w X : World} {a : Option Addr} {vs : List Value} (h : At1 w a vs) (hk : Lk w X) : At1 X a vs := h.below hk.below
theorem At1.takeI {w : World} {a : Option Addr} {l : List Int} (h : At1 w a (ints l)) (k : Nat) : At1 w a (ints (l.take k)) := by
  intro i v hi
  refine h i v ?_
  unfold ints at *
  rw [List.getElem?_map] at *
  rw [List.getElem?_take] at hi
  by_cases hik : i < k
  · rwa [if_pos hik] at hi
  · rw [if_neg hik] at hi; cases hi
theorem At1.takeS {w : World} {a : Option Addr} {l : List Bytes} (h : At1 w a (strs l)) (k : Nat) : At1 w a (strs (l.take k)) := by
  intro i v hi
  refine h i v ?_
  unfold strs at *
  rw [List.getElem?_map] at *
  rw [List.getElem?_take] at hi
  by_cases hik : i < k
  · rwa [if_pos hik] at hi
  · rw [if_neg hik] at hi; cases hi

section
variable {R : Nat} {S : StatM} {st : St9} {mp : Mp8} {it : Nat} {seen : List Bytes} {w : World}
abbrev predV (p : PredM) (ka : Option Addr) (kc : Nat) (va : Option Addr) (vc : Nat) : Array Value := #[.string ⟨p.name.toArray⟩, .int .i64 p.sort, .slice ka p.kinds.length kc, .slice va p.values.length vc]

set_option maxRecDepth 100000 in
set_option maxHeartbeats 3200000 in
theorem pred_any (h : Res R S st mp it seen w) (n : Nat) (p : PredM) {ka va : Option Addr} {kc vc : Nat} (h1 : p.name.length ≤ maxLen) (hk : Strs R w p.kinds (.slice ka p.kinds.length kc)) (hv : Moneys R w p.values (.slice va p.values.length vc)) :
    Calls Tryz.prog 66 #[ptr R, .int .i64 n, .agg (predV p ka kc va vc)] w fun e w' => Ed w it rU (predM S.ctx n p) e w' := by
  have hA : Below w.heap.size w (w.alloc (.cells (predV p ka kc va vc) 119)) := (Below.refl _ _).alloc (Nat.le_refl _) _
  have hR := h.below hA
  have hRl := loc_lt h.box
  have HD := hide (fun X (hX : Lk (w.alloc (.cells (predV p ka kc va vc) 119)) X) => hA.trans (hX.below.mono hA.size))
  have C := hide (fun X hX => called_any (hR.like (w' := X) hX).c9 (hR.like (w' := X) hX).mP p.name h1 n)
  have CW := hide (fun X hX b c => want_any (hR.like (w' := X) hX).c9 b c)
  have CF := hide (fun X hX s hs => find_any (hR.like (w' := X) hX).c9 (hR.like (w' := X) hX).mK' s hs 81)
  have HKS := hide (fun X (hX : Lk (w.alloc (.cells (predV p ka kc va vc) 119)) X) => (hk.keep (w' := w.alloc (.cells (predV p ka kc va vc) 119)) (fun g hg => hA.block g (by omega))).keep (w' := X) (fun g hg => by rw [hX.heap]))
  have HVS := hide ((hv.keep (w' := w.alloc (.cells (predV p ka kc va vc) 119)) (fun g hg => hA.block g (by omega))).at1)
  have hkl : p.kinds.length ≤ 140737488351232 := by obtain ⟨_, _, _, _, h⟩ := hk.form; exact h
  obtain ⟨hvc, hvl⟩ : p.values.length ≤ vc ∧ p.values.length ≤ 140737488351232 := by obtain ⟨_, _, e, h, h'⟩ := hv.form; cases e; exact ⟨h, h'⟩
  have c10 := hR.c10
  have c12 := hR.c12
  have b0 := cell_of_row _ w.heap.size 0 _ _ _ (heap_alloc_new w (.cells (predV p ka kc va vc) 119))
  have b1 := cell_of_row _ w.heap.size 1 _ _ _ (heap_alloc_new w (.cells (predV p ka kc va vc) 119))
  have b2 := cell_of_row _ w.heap.size 2 _ _ _ (heap_alloc_new w (.cells (predV p ka kc va vc) 119))
  have b3 := cell_of_row _ w.heap.size 3 _ _ _ (heap_alloc_new w (.cells (predV p ka kc va vc) 119))
  simp only [predV, List.getElem?_toArray, List.getElem?_cons_zero, List.getElem?_cons_succ] at b0 b1 b2 b3
  obtain ⟨o, ho⟩ : ∃ o, predM S.ctx n p = o := ⟨_, rfl⟩
  rw [ho]
  have HO := hide ho
  unfold predM at HO
  unfold str at *
  simp only [predV] at *
  clear h hA hR ho hk hv hRl
  go_enter Tryz.func66, Tryz.ntmps66
  go_upto_region 1 with fail
  refine region_last (by kernel_rfl) (by kernel_rfl) (by kernel_rfl) (by kernel_rfl) (by kernel_rfl) ?_
  dsimp only [List.dropLast, List.getLast, List.cons_append, List.nil_append]
  repeat (go_big_quiet_step (fail))
  refine wpQuiet_nil ?_
  rintro _ ⟨nq, rfl⟩
  go_wp2_with fail
  refine (C.out _ .of).mono ?_
  intro e w1 hE
  rcases hE.no with ⟨c1, h3, rfl, hw⟩ | ⟨v1, h3, rfl, hw⟩
  · subst w1
    exact on_panic rfl (Ed.bad (ex_no HO.out h3) (HD.out _ .of))
  subst w1
  have HO1 := hide (ex_go HO.out h3)
  clear hE h3 HO C
  by_cases hs1 : p.sort < 1
  · have hs1' : ¬ (1 ≤ p.sort) := by omega
    rw [decide_eq_false hs1', Bool.false_and] at HO1
    go_wp2_with fail
    refine (CW.out _ .of _ _).mono ?_
    intro e w1 hE
    rcases hE.no with ⟨c1, h3, rfl, hw⟩ | ⟨_, h3, rfl, hw⟩
    · subst w1
      exact on_panic rfl (Ed.bad (ex_no HO1.out h3) (HD.out _ .of))
    · cases h3
  have hs1' : 1 ≤ p.sort := by omega
  rw [decide_eq_true hs1', Bool.true_and] at HO1
  go_wp2_with fail
  refine (CW.out _ .of _ _).mono ?_
  intro e w1 hE
  rcases hE.no with ⟨c1, h3, rfl, hw⟩ | ⟨v1, h3, rfl, hw⟩
  · subst w1
    exact on_panic rfl (Ed.bad (ex_no HO1.out h3) (HD.out _ .of))
  subst w1
  have HO2 := hide (ex_go HO1.out h3)
  clear hE h3 HO1 hs1 hs1'
  by_cases hk4 : ¬ ((p.kinds.length : Int) ≤ 4)
  · have hk4' : ¬ ((p.kinds.length : Int) ≤ 4) := by omega
    rw [decide_eq_false hk4', Bool.false_and] at HO2
    go_wp2_with fail
    refine (CW.out _ .of _ _).mono ?_
    intro e w1 hE
    rcases hE.no with ⟨c1, h3, rfl, hw⟩ | ⟨_, h3, rfl, hw⟩
    · subst w1
      exact on_panic rfl (Ed.bad (ex_no HO2.out h3) (HD.out _ .of))
    · cases h3
  have hk4' : (p.kinds.length : Int) ≤ 4 := by omega
  rw [decide_eq_true hk4', Bool.true_and] at HO2
  go_wp2_with fail
  refine (CW.out _ .of _ _).mono ?_
  intro e w1 hE
  rcases hE.no with ⟨c1, h3, rfl, hw⟩ | ⟨v1, h3, rfl, hw⟩
  · subst w1
    exact on_panic rfl (Ed.bad (ex_no HO2.out h3) (HD.out _ .of))
  subst w1
  have HO3 := hide (ex_go HO2.out h3)
  clear hE h3 HO2
  go_wp2_with fail
  go_loopw [44] (fun x wr => ∃ k : Nat, k ≤ p.kinds.length ∧ x = .int .i64 k ∧ Hid ((allM (fun _ s => findM S.ctx.kinds s 81 >>= fun _ => .ok ()) k (p.kinds.drop k) >>= fun _ => wantM (decide (0 < (p.values.length : Int)) == decide (p.sort = 3)) 85 >>= fun _ => allM (fun i v => wantM (awardB v && !decide (v ∈ p.values.take i)) 85) 0 p.values) = o) ∧ Hid (Lk (w.alloc (.cells #[.string ⟨p.name.toArray⟩, .int .i64 p.sort, .slice ka p.kinds.length kc, .slice va p.values.length vc] 119)) wr)) (fun x _ => p.kinds.length - (intOf x).toNat)
  case atStart => exact ⟨0, by omega, rfl, HO3, hide .of⟩
  case round =>
    obtain ⟨k, hk, rfl, HK, HL⟩ := hrel
    clear HO3
    have d10 := (HL.out.cell _).trans c10
    have d1 := (HL.out.cell _).trans b1
    have d3 := (HL.out.cell _).trans b3
    by_cases hlt : k < p.kinds.length
    · obtain ⟨x, hx⟩ : ∃ x, p.kinds[k]? = some x := ⟨p.kinds[k], List.getElem?_eq_getElem hlt⟩
      obtain ⟨g, oo, rfl, hg, e0, hs⟩ := at_S (HKS.out wr HL.out) hx
      have HS := hide (allM_step HK.out hx)
      unfold str at e0
      clear hx HK
      go_wp2_with fail
      refine (CF.out _ HL.out x hs).mono ?_
      intro e w1 hE
      rcases hE.no with ⟨c1, h3, rfl, hw⟩ | ⟨_, h3, rfl, hw⟩
      · subst w1
        exact ⟨rfl, Ed.bad (ex_no HS.out (bind_unit_no h3)) (HD.out _ HL.out)⟩
      subst w1
      have HT := hide (ex_go HS.out (bind_unit h3))
      clear hE h3 HS
      go_wp2_with fail
      go_roundw
      case rel => exact ⟨k + 1, by omega, by go_num, HT, HL⟩
      case measure => simp [intOf]; omega
    · have HO9 := hide (allM_end HK.out (by omega))
      clear HK hk4 hk4' d10 HKS hkl CF
      rw [show decide (0 < (p.values.length : Int)) = decide (0 < p.values.length) from by simp] at HO9
      go_wp2_with fail
      refine (CW.out _ HL.out _ _).mono ?_
      intro e w1 hE
      rcases hE.no with ⟨c1, h3, rfl, hw⟩ | ⟨v1, h3, rfl, hw⟩
      · subst w1
        exact ⟨rfl, Ed.bad (ex_no HO9.out h3) (HD.out _ HL.out)⟩
      subst w1
      have HO10 := hide (ex_go HO9.out h3)
      clear hE h3 HO9
      have HZ : Hid ((allM (fun i v => wantM (awardB v && !decide (v ∈ p.values.take i)) 85) 0 (p.values.drop 0) >>= fun _ => .ok ()) = o) := hide (bind_pure HO10.out)
      clear HO10 hk hlt
      go_wp2_with fail
      go_loopw [69] (fun x ws => ∃ k : Nat, k ≤ p.values.length ∧ x = .int .i64 k ∧ Hid ((allM (fun i v => wantM (awardB v && !decide (v ∈ p.values.take i)) 85) k (p.values.drop k) >>= fun _ => .ok ()) = o) ∧ ws = wr) (fun x _ => p.values.length - (intOf x).toNat)
      case atStart => exact ⟨0, by omega, rfl, HZ, rfl⟩
      case round =>
        obtain ⟨m, hm, rfl, HK, rfl⟩ := hrel
        clear HZ
        by_cases hlt : m < p.values.length
        · obtain ⟨x, hx⟩ : ∃ x, p.values[m]? = some x := ⟨p.values[m], List.getElem?_eq_getElem hlt⟩
          obtain ⟨g, oo, rfl, e0⟩ := (HVS.out.like HL.out) m _ (show (ints p.values)[m]? = some (.int .i64 x) from by unfold ints; rw [List.getElem?_map, hx]; rfl)
          have HS := hide (allM_step HK.out hx)
          have CA := hide (award_any x wr)
          have hlm : (p.values.take m).length = m := by simp; omega
          have CH := hide (hasM_any (c := vc) ((HVS.out.like HL.out).takeI m) (by rw [hlm]; omega) x)
          rw [hlm] at CH
          clear hx HK hlm
          cases ha : awardB x with
          | false =>
            rw [ha] at CA HS
            rw [Bool.false_and] at HS
            go_wp2_with (go_at_call 96; refine CA.out.mono ?_; rintro _ wn ⟨rfl, hwn⟩; subst wn)
            refine (CW.out _ HL.out _ _).mono ?_
            intro e w1 hE
            rcases hE.no with ⟨c1, h3, rfl, hw⟩ | ⟨_, h3, rfl, hw⟩
            · subst w1
              exact ⟨rfl, Ed.bad (ex_no HS.out h3) (HD.out _ HL.out)⟩
            · cases h3
          | true =>
            rw [ha] at CA HS
            rw [Bool.true_and] at HS
            go_wp2_with (first | (go_at_call 96; refine CA.out.mono ?_; rintro _ wn ⟨rfl, hwn⟩; subst wn) | (go_at_call 97; refine CH.out.mono ?_; rintro _ wn ⟨rfl, hwn⟩; subst wn))
            refine (CW.out _ HL.out _ _).mono ?_
            intro e w1 hE
            rcases hE.no with ⟨c1, h3, rfl, hw⟩ | ⟨_, h3, rfl, hw⟩
            · subst w1
              exact ⟨rfl, Ed.bad (ex_no HS.out h3) (HD.out _ HL.out)⟩
            subst w1
            have HT := hide (ex_go HS.out h3)
            clear hE h3 HS CA CH
            go_wp2_with fail
            go_roundw
            case rel => exact ⟨m + 1, by omega, by go_num, HT, by trivial⟩
            case measure => simp [intOf]; omega
        · have HE := allM_end HK.out (by omega)
          go_wp2_with fail
          go_end0
          exact Ed.ok HE rfl (HD.out _ HL.out)
end
end Go.Proofs.YtbdlgglbcaoakaaGreat
/- The predicate of a name. -/
namespace Go.Proofs.YtbdlgglbcaoakaaGreat
open Go.RowKit Go.Shelf Go.Maps Go.WideMaps

section
variable {R : Nat} {S : StatM} {st : St9} {mp : Mp8} {it : Nat} {seen : List Bytes} {w : World}
theorem q_ok {α : Type} {P : Program} {f : Nat} {args : Array Value} {w : World} {it : Int} {val : α → Value} {o : Er α} {a : α} (h : Calls P f args w fun e w' => Qd w it val o e w') (ho : o = .ok a) : Calls P f args w fun e w' => e = .returned (val a) ∧ w' = w := by
  subst ho
  refine h.mono ?_
  rintro e w' ⟨rfl, h2⟩
  exact ⟨h2, rfl⟩
theorem q_bad {α : Type} {P : Program} {f : Nat} {args : Array Value} {w : World} {it : Int} {val : α → Value} {o : Er α} {c : Int} (h : Calls P f args w fun e w' => Qd w it val o e w') (ho : o = .error c) : Calls P f args w fun e w' => e = .panicked [fl c it] ∧ w' = w := by
  subst ho
  refine h.mono ?_
  rintro e w' ⟨rfl, h2⟩
  exact ⟨h2, rfl⟩
theorem find_ok {l : List Bytes} {s : Bytes} {c : Int} {m : Nat} (h : findM l s c = .ok m) : s ∈ l ∧ m = posB l s ∧ m < l.length := by
  unfold findM at h
  by_cases hm : s ∈ l
  · rw [decide_eq_true hm] at h
    have h2 : (Except.ok (posB l s) : Er Nat) = .ok m := h
    injection h2 with e
    refine ⟨hm, e.symm, ?_⟩
    rw [← e]
    unfold posB
    rw [if_pos hm]
    exact List.idxOf_lt_length_of_mem hm
  · rw [decide_eq_false hm] at h
    cases h
/-- How a predicate's value stands for it. -/
def rP (R : Nat) (w : World) (p : PredM) (v : Value) : Prop := ∃ ka kc va vc, v = .agg (predV p ka kc va vc) ∧ p.name.length ≤ maxLen ∧ Strs R w p.kinds (.slice ka p.kinds.length kc) ∧ Moneys R w p.values (.slice va p.values.length vc)

/-- Where a predicate's cells lie. -/
def PredAt (R : Nat) (st : St9) (w : World) (m : Nat) (p : PredM) (ka : Option Addr) (kc : Nat) (va : Option Addr) (vc : Nat) : Prop :=
  ∃ g oo n pc, st.preds = .slice (some ⟨g, oo, none⟩) n pc ∧ m < n ∧ n ≤ 256 ∧ g < R ∧ w.cell? ⟨g, oo + m * 4, none⟩ = some (.string ⟨p.name.toArray⟩) ∧ w.cell? ⟨g, oo + m * 4 + 1, none⟩ = some (.int .i64 p.sort) ∧ w.cell? ⟨g, oo + m * 4 + 2, none⟩ = some (.slice ka p.kinds.length kc) ∧ w.cell? ⟨g, oo + m * 4 + 3, none⟩ = some (.slice va p.values.length vc)
theorem PredAt.below {w' : World} {m : Nat} {p : PredM} {ka va : Option Addr} {kc vc : Nat} (h : PredAt R st w m p ka kc va vc) (hb : Below w.heap.size w w') : PredAt R st w' m p ka kc va vc := by
  obtain ⟨g, oo, n, pc, h1, h2, h2', h3, e0, e1, e2, e3⟩ := h
  have hg := World.block_lt_of_cell? w _ e0
  exact ⟨g, oo, n, pc, h1, h2, h2', h3, (World.cell?_of_block (hb.block g hg)).trans e0, (World.cell?_of_block (hb.block g hg)).trans e1, (World.cell?_of_block (hb.block g hg)).trans e2, (World.cell?_of_block (hb.block g hg)).trans e3⟩
theorem Res.predAt (h : Res R S st mp it seen w) {m : Nat} {p : PredM} (hp : S.preds[m]? = some p) : ∃ ka kc va vc, PredAt R st w m p ka kc va vc ∧ p.name.length ≤ maxLen ∧ Strs R w p.kinds (.slice ka p.kinds.length kc) ∧ Moneys R w p.values (.slice va p.values.length vc) := by
  obtain ⟨pa, pc, hpv, -, -⟩ := h.rep.preds.form
  have hpr := h.rep.preds
  rw [hpv] at hpr
  obtain ⟨g, oo, ka, kc, va, vc, rfl, hg, e0, e1, e2, e3, hs2, hks, hvs⟩ := at_P hpr hp
  have hpl : S.preds.length ≤ 256 := by have := h.fit; unfold StatM.fitsB at this; simp only [Bool.and_eq_true, decide_eq_true_eq] at this; omega
  unfold str at *
  exact ⟨ka, kc, va, vc, ⟨g, oo, _, pc, hpv, (List.getElem?_eq_some_iff.1 hp).1, hpl, hg, e0, e1, e2, e3⟩, hs2, hks, hvs⟩

set_option maxRecDepth 100000 in
set_option maxHeartbeats 3200000 in
theorem findPred_ok (h : Res R S st mp it seen w) (s : Bytes) (hs : s.length ≤ maxLen) {m : Nat} (hf : findM S.ctx.names s 82 = .ok m) {p : PredM} {ka va : Option Addr} {kc vc : Nat} (hp : PredAt R st w m p ka kc va vc) :
    Calls Tryz.prog 98 #[ptr R, str s] w fun e w' => e = .returned (.agg (predV p ka kc va vc)) ∧ Below w.heap.size w w' := by
  have hA : Below w.heap.size w (w.alloc (.cells #[.string ⟨#[]⟩, .int .i64 0, .slice none 0 0, .slice none 0 0] 119)) := (Below.refl _ _).alloc (Nat.le_refl _) _
  have hR := h.below hA
  have C := hide (fun X hX => q_ok (find_any (hR.like (w' := X) hX).c9 (hR.like (w' := X) hX).mP s hs 82) hf)
  obtain ⟨g, oo, n, pc, hpv, hlen, hn, hg, e0, e1, e2, e3⟩ := hp.below hA
  have c3 := hR.c3
  rw [hpv] at c3
  have c12 := hR.c12
  have b0 := heap_alloc_new w (.cells #[.string ⟨#[]⟩, .int .i64 0, .slice none 0 0, .slice none 0 0] 119)
  have z0 := cell_of_row _ w.heap.size 0 _ _ _ b0
  have z1 := cell_of_row _ w.heap.size 1 _ _ _ b0
  have z2 := cell_of_row _ w.heap.size 2 _ _ _ b0
  have z3 := cell_of_row _ w.heap.size 3 _ _ _ b0
  have zf := fun i => frozen_of_row _ w.heap.size i _ _ b0
  simp only [List.getElem?_toArray, List.getElem?_cons_zero, List.getElem?_cons_succ] at z0 z1 z2 z3
  unfold str at *
  unfold vN at C
  have HA := hide hA
  clear h hR hf hp hpv hA
  go_enter Tryz.func98, Tryz.ntmps98
  go_upto_region 1 with fail
  refine region_last (by kernel_rfl) (by kernel_rfl) (by kernel_rfl) (by kernel_rfl) (by kernel_rfl) ?_
  dsimp only [List.dropLast, List.getLast, List.cons_append, List.nil_append]
  repeat (go_big_quiet_step ((go_at_call 95; exact Calls.quiet_of_same (C.out _ .of))))
  refine wpQuiet_nil ?_
  rintro _ ⟨nq, rfl⟩
  go_wp2_with fail
  have hb := HA.out.trans ((((((below_drewN (w.alloc (.cells #[.string ⟨#[]⟩, .int .i64 0, .slice none 0 0, .slice none 0 0] 119)) nq).mono HA.out.size).setCell (p := ⟨w.heap.size, 0, none⟩) (Nat.le_refl _) (.string ⟨p.name.toArray⟩)).setCell (p := ⟨w.heap.size, 1, none⟩) (Nat.le_refl _) (.int .i64 p.sort)).setCell (p := ⟨w.heap.size, 2, none⟩) (Nat.le_refl _) (.slice ka p.kinds.length kc)).setCell (p := ⟨w.heap.size, 3, none⟩) (Nat.le_refl _) (.slice va p.values.length vc))
  simp [bodyPost, results, Tryz.results98, go_sem]
  exact hb

set_option maxRecDepth 100000 in
set_option maxHeartbeats 3200000 in
theorem findPred_any (h : Res R S st mp it seen w) (s : Bytes) (hs : s.length ≤ maxLen) : Calls Tryz.prog 98 #[ptr R, str s] w fun e w' => Ed w it (rP R) (findPredM S.ctx s) e w' := by
  have hA : Below w.heap.size w (w.alloc (.cells #[.string ⟨#[]⟩, .int .i64 0, .slice none 0 0, .slice none 0 0] 119)) := (Below.refl _ _).alloc (Nat.le_refl _) _
  have hR := h.below hA
  have hRl := loc_lt h.box
  have HD := hide (fun X (hX : Lk (w.alloc (.cells #[.string ⟨#[]⟩, .int .i64 0, .slice none 0 0, .slice none 0 0] 119)) X) => hA.trans (hX.below.mono hA.size))
  have CF := hide (fun X hX => find_any (hR.like (w' := X) hX).c9 (hR.like (w' := X) hX).mP s hs 82)
  obtain ⟨pa, pc, hpv, -, -⟩ := h.rep.preds.form
  have c3 := hR.c3
  rw [hpv] at c3
  have c12 := hR.c12
  obtain ⟨o, ho⟩ : ∃ o, findPredM S.ctx s = o := ⟨_, rfl⟩
  rw [ho]
  have HO := hide ho
  unfold findPredM at HO
  unfold str at *
  clear ho
  cases hf : findM S.ctx.names s 82 with
  | error c =>
    have C := hide (fun X hX => q_bad (CF.out X hX) hf)
    have HO := hide (ex_no HO.out hf)
    clear h hR CF
    go_enter Tryz.func98, Tryz.ntmps98
    go_upto_region 1 with fail
    refine wp_region_any (by kernel_rfl) ?_
    change wpAny _ _ _ _ _ _ _ (World.drew _)
    refine wpAny_take (i := 0) (v := ?v1) rfl (by kernel_rfl) (by kernel_rfl) (by kernel_rfl) (fun _ _ _ h => h) (Or.inl ⟨by rfl, ?hy1⟩) ?rest1
    case hy1 => intro w; first | (go_simp; done) | (go_simp; with_reducible rfl)
    refine wpAny_take (i := 5) (v := ?v2) rfl (by kernel_rfl) (by kernel_rfl) (by kernel_rfl) (fun _ _ _ h => h) (Or.inl ⟨by rfl, ?hy2⟩) ?rest2
    case hy2 => intro w; first | (go_simp; done) | (go_simp; with_reducible rfl)
    refine wpAny_take (i := 6) (v := ?v3) rfl (by kernel_rfl) (by kernel_rfl) (by kernel_rfl) (fun _ _ _ h => h) (Or.inl ⟨by rfl, ?hy3⟩) ?rest3
    case hy3 => intro w; first | (go_simp; done) | (go_simp; with_reducible rfl)
    refine wpAny_take (i := 10) (v := ?v4) rfl (by kernel_rfl) (by kernel_rfl) (by kernel_rfl) (fun _ _ _ h => h) (Or.inl ⟨by rfl, ?hy4⟩) ?rest4
    case hy4 => intro w; first | (go_simp; done) | (go_simp; with_reducible rfl)
    refine wpAny_take (i := 1) (v := ?v5) rfl (by kernel_rfl) (by kernel_rfl) (by kernel_rfl) (fun _ _ _ h => h) (Or.inl ⟨by rfl, ?hy5⟩) ?rest5
    case hy5 => intro w; first | (go_simp; done) | (go_simp; with_reducible rfl)
    refine wpAny_take (i := 2) (v := ?v6) rfl (by kernel_rfl) (by kernel_rfl) (by kernel_rfl) (fun _ _ _ h => h) (Or.inl ⟨by rfl, ?hy6⟩) ?rest6
    case hy6 => intro w; first | (go_simp; done) | (go_simp; with_reducible rfl)
    refine wpAny_take (i := 3) (v := ?v7) rfl (by kernel_rfl) (by kernel_rfl) (by kernel_rfl) (fun _ _ _ h => h) (Or.inl ⟨by rfl, ?hy7⟩) ?rest7
    case hy7 => intro w; first | (go_simp; done) | (go_simp; with_reducible rfl)
    refine wpAny_take (i := 7) (v := ?v8) rfl (by kernel_rfl) (by kernel_rfl) (by kernel_rfl) (fun _ _ _ h => h) (Or.inl ⟨by rfl, ?hy8⟩) ?rest8
    case hy8 => intro w; first | (go_simp; done) | (go_simp; with_reducible rfl)
    refine wpAny_take (i := 8) (v := ?v9) rfl (by kernel_rfl) (by kernel_rfl) (by kernel_rfl) (fun _ _ _ h => h) (Or.inl ⟨by rfl, ?hy9⟩) ?rest9
    case hy9 => intro w; first | (go_simp; done) | (go_simp; with_reducible rfl)
    refine wpAny_ready (rs := [4, 9]) (by kernel_rfl) (by simp) ?_
    refine AllReady.cons rfl (fun K hK => ?_) ?_
    · go_simp
      refine hK _ _ ?_
      clear hK K
      refine wpAny_ready (rs := [9]) (by kernel_rfl) (by simp) ?_
      refine AllReady.cons rfl (fun K hK => ?_) ?_
      · go_simp
        refine hK _ _ ?_
        clear hK K
        refine wpAny_ready (rs := [11]) (by kernel_rfl) (by simp) ?_
        refine AllReady.cons rfl (fun K hK => ?_) ?_
        · go_simp
          refine (C.out _ .of).mono ?_
          rintro _ w1 ⟨rfl, hw1⟩
          subst w1
          exact on_panic rfl (Ed.bad HO.out (HD.out _ .of))
        exact AllReady.nil
      exact AllReady.nil
    refine AllReady.cons rfl (fun K hK => ?_) ?_
    · go_simp
      refine hK _ _ ?_
      clear hK K
      refine wpAny_ready (rs := [4, 11]) (by kernel_rfl) (by simp) ?_
      refine AllReady.cons rfl (fun K hK => ?_) ?_
      · go_simp
        refine hK _ _ ?_
        clear hK K
        refine wpAny_ready (rs := [11]) (by kernel_rfl) (by simp) ?_
        refine AllReady.cons rfl (fun K hK => ?_) ?_
        · go_simp
          refine (C.out _ .of).mono ?_
          rintro _ w1 ⟨rfl, hw1⟩
          subst w1
          exact on_panic rfl (Ed.bad HO.out (HD.out _ .of))
        exact AllReady.nil
      refine AllReady.cons rfl (fun K hK => ?_) ?_
      · go_simp
        refine (C.out _ .of).mono ?_
        rintro _ w1 ⟨rfl, hw1⟩
        subst w1
        exact on_panic rfl (Ed.bad HO.out (HD.out _ .of))
      exact AllReady.nil
    exact AllReady.nil
  | ok m =>
    obtain ⟨hm1, hm2, hm3⟩ := find_ok hf
    have hlen : m < S.preds.length := by simpa [Ctx.names, StatM.ctx] using hm3
    obtain ⟨p, hp⟩ : ∃ p, S.preds[m]? = some p := ⟨S.preds[m], List.getElem?_eq_getElem hlen⟩
    have HP : .ok p = o := by
      have h1 := ex_go HO.out hf
      have h2 : S.ctx.preds.getD m noPred = p := by show S.preds.getD m noPred = p; rw [List.getD_eq_getElem?_getD, hp]; rfl
      rw [h2] at h1
      exact h1
    obtain ⟨ka, kc, va, vc, hpa, hpn, hks, hvs⟩ := h.predAt hp
    refine (findPred_ok h s hs hf hpa).mono ?_
    rintro e w' ⟨rfl, hb⟩
    have hk := fun g (hg : g < R) => hb.block g (by omega)
    exact Ed.ok HP ⟨ka, kc, va, vc, rfl, hpn, hks.keep hk, hvs.keep hk⟩ hb
end
end Go.Proofs.YtbdlgglbcaoakaaGreat
