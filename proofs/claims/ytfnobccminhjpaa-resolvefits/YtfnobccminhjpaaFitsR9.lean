/- ResolveFits, walked. -/
import Derived.Test.YtfnobccminhjpaaFitsW9
import Derived.Test.YtfnobccminhjpaaLessW9
namespace Go.Proofs.Ytfnobccminhjpaa
open Go.RowKit Go.Shelf Go.Maps Go.WideMaps

theorem Lw.drew {H : Nat} {S : StatM} {st : St9} {w w' : World} (h : Lw H S st w w') : Lw H S st w w'.drew := h.below ⟨rfl, rfl, rfl, Nat.le_refl _, fun _ _ => rfl⟩
/-- The statute in its box, and a rule's variables beside. -/
structure Rv (H : Nat) (S : StatM) (st : St9) (v : Scope) (nv kv : Value) (w w' : World) : Prop where
  lw : Lw H S st w w'
  names : w'.ownsRow 0 9 1 nv v.length (strs v.names)
  kinds : w'.ownsRow 0 3 1 kv v.length (ints v.kinds)
section
variable {H : Nat} {S : StatM} {st : St9} {v : Scope} {nv kv : Value} {w w' w'' : World}
theorem Rv.below (h : Rv H S st v nv kv w w') (hb : Below w'.heap.size w' w'') : Rv H S st v nv kv w w'' := ⟨h.lw.below hb, owns_keep h.names fun g hg => hb.block g (owns_lt h.names hg), owns_keep h.kinds fun g hg => hb.block g (owns_lt h.kinds hg)⟩
theorem Rv.drew (h : Rv H S st v nv kv w w') : Rv H S st v nv kv w w'.drew := h.below ⟨rfl, rfl, rfl, Nat.le_refl _, fun _ _ => rfl⟩
theorem Lw.cell (h : Lw H S st w w') {g i : Nat} {u : Value} (hg : g < H) (hw : w.cell? ⟨g, i, none⟩ = some u) : w'.cell? ⟨g, i, none⟩ = some u := (World.cell?_of_block (h.low.block g hg)).trans hw
theorem Lw.strs (h : Lw H S st w w') {l : List Bytes} {u : Value} (hs : Strs H w l u) : Strs w'.heap.size w' l u := Strs.mono (by have := loc_lt h.box; omega) (Strs.keep (fun g hg => h.low.block g hg) hs)
theorem row_cell {e g n c i : Nat} {x : Value} {xs : List Value} (h : w.ownsRow 0 e 1 (.slice (some ⟨g, 0, none⟩) n c) n xs) (hx : xs[i]? = some x) : w.cell? ⟨g, i, none⟩ = some x := by
  obtain ⟨g2, c2, e1, hc, _⟩ := owns_at h hx
  cases e1
  exact hc
theorem owns_zero {b e k n : Nat} {u : Value} {xs : List Value} (h : w.ownsRow b e k u n xs) : w.ownsRow 0 e k u n xs := by
  obtain ⟨h1, h2⟩ := h
  refine ⟨h1, ?_⟩
  rcases h2 with h2 | ⟨g, cap, cur, e, _, h4⟩
  · exact .inl h2
  · exact .inr ⟨g, cap, cur, e, Nat.zero_le _, h4⟩
theorem Ex.done {e : Ending} (h : Ex w 0 (.ok v) e w') : Below w.heap.size w w' ∧ ∃ na nc ka kc, e = .returned (.tuple #[.slice na v.length nc, .slice ka v.length kc, .int .i64 0]) ∧ w'.ownsRow 0 9 1 (.slice na v.length nc) v.length (strs v.names) ∧ w'.ownsRow 0 3 1 (.slice ka v.length kc) v.length (ints v.kinds) := by
  obtain ⟨hb, ⟨h1, _⟩ | ⟨_, d, h1, _⟩ | ⟨_, v2, nv, kv, h1, rfl, hn, hk⟩⟩ := h
  · exact absurd rfl h1
  · cases h1
  · cases h1
    obtain ⟨na, nc, rfl⟩ := owns_slice hn
    obtain ⟨ka, kc, rfl⟩ := owns_slice hk
    exact ⟨hb, na, nc, ka, kc, rfl, owns_zero hn, owns_zero hk⟩
end
section
variable {S : StatM} {st : St9} {w : World}
set_option maxRecDepth 100000 in
set_option maxHeartbeats 12800000 in
theorem resolveFits_walk (h : SR w.heap.size w S st) : Calls Try.prog 4 #[st.agg] w fun e w' => e = .returned (.bool true) ∧ Below w.heap.size w w' := by
  obtain ⟨tt, ht⟩ := h.title
  obtain ⟨a1, b1, f1, _, _⟩ := h.kinds.form
  obtain ⟨a2, b2, f2, _, _⟩ := h.members.form
  obtain ⟨a3, b3, f3, _, _⟩ := h.preds.form
  obtain ⟨a4, b4, f4, _, _⟩ := h.classes.form
  obtain ⟨a5, b5, f5, _, _⟩ := h.sources.form
  obtain ⟨a6, b6, f6, _, _⟩ := h.rules.form
  obtain ⟨a7, b7, f7, _, _⟩ := h.excepts.form
  obtain ⟨a8, b8, f8, _, _⟩ := h.totals.form
  obtain ⟨s0, s1, s2, s3, s4, s5, s6, s7, s8⟩ := st
  simp only at ht f1 f2 f3 f4 f5 f6 f7 f8
  subst ht f1 f2 f3 f4 f5 f6 f7 f8
  have hA : Below w.heap.size w (w.alloc (.cells #[.string tt, .slice a1 S.kinds.length b1, .slice a2 S.members.length b2, .slice a3 S.preds.length b3, .slice a4 S.classes.length b4, .slice a5 S.sources.length b5, .slice a6 S.rules.length b6, .slice a7 S.excepts.length b7, .slice a8 S.totals.length b8] 31)) := (Below.refl _ w).alloc (Nat.le_refl _) _
  have K1 : Hid (Lw w.heap.size S ⟨.string tt, .slice a1 S.kinds.length b1, .slice a2 S.members.length b2, .slice a3 S.preds.length b3, .slice a4 S.classes.length b4, .slice a5 S.sources.length b5, .slice a6 S.rules.length b6, .slice a7 S.excepts.length b7, .slice a8 S.totals.length b8⟩ w (w.alloc (.cells #[.string tt, .slice a1 S.kinds.length b1, .slice a2 S.members.length b2, .slice a3 S.preds.length b3, .slice a4 S.classes.length b4, .slice a5 S.sources.length b5, .slice a6 S.rules.length b6, .slice a7 S.excepts.length b7, .slice a8 S.totals.length b8] 31))) := hide ⟨hA, h.keep fun g hg => hA.block g hg, heap_alloc_new w _⟩
  have CW := hide works_any
  have HR := hide h
  obtain ⟨H, hH⟩ : ∃ H, H = w.heap.size := ⟨_, rfl⟩
  rw [← hH] at K1 HR ⊢
  have HH := hide hH
  clear h hA
  unfold St9.agg
  simp only
  go_enter Try.func4, Try.ntmps4
  go_upto_region 3 with (first | (go_at_call 5; refine (CW.out _).mono ?_; rintro _ w2 ⟨rfl, hw2⟩; have K2 := hide (K1.out.below hw2); clear hw2 CW K1))
  rw [← hH]
  clear hH
  obtain ⟨c0, c1, c2, c3, c4, c5, c6, c7, c8, cf⟩ := K2.out.cells
  simp only at c0 c1 c2 c3 c4 c5 c6 c7 c8
  clear cf
  have CK := hide (check_any K2.out.sr)
  unfold St9.agg at CK
  simp only at CK
  by_cases he : (checkM S).1 = 0
  case neg =>
    have hbq : ((checkM S).1 == 0) = false := by simpa using he
    generalize (checkM S).1 = e0 at *
    generalize (checkM S).2 = n0 at *
    go_wp2_with (first | (go_at_call 6; refine CK.out.mono ?_; rintro _ w3 ⟨rfl, hw3⟩))
    go_ret
    exact ⟨rfl, (K2.out.below hw3).low⟩
  rw [he] at CK
  generalize (checkM S).2 = n0 at *
  obtain ⟨k16, m64, p256, r512⟩ := chk_lens he
  have HE := hide he
  clear he
  go_wp2_with (first | (go_at_call 6; refine CK.out.mono ?_; rintro _ w3 ⟨rfl, hw3⟩; have K3 := hide (K2.out.below hw3); clear hw3 CK K2 c0 c1 c2 c3 c4 c5 c6 c7 c8))
  go_loopw [5] (fun x wr => ∃ i : Nat, i ≤ S.rules.length ∧ x = .int .i64 i ∧ Hid (Lw H S ⟨.string tt, .slice a1 S.kinds.length b1, .slice a2 S.members.length b2, .slice a3 S.preds.length b3, .slice a4 S.classes.length b4, .slice a5 S.sources.length b5, .slice a6 S.rules.length b6, .slice a7 S.excepts.length b7, .slice a8 S.totals.length b8⟩ w wr)) (fun x _ => S.rules.length - (intOf x).toNat)
  case atStart => exact ⟨0, by omega, rfl, K3⟩
  case round =>
    clear K3
    obtain ⟨i, hi, rfl, K⟩ := hrel
    obtain ⟨c0, c1, c2, c3, c4, c5, c6, c7, c8, cf⟩ := K.out.cells
    simp only at c0 c1 c2 c3 c4 c5 c6 c7 c8
    clear cf
    by_cases hlt : i < S.rules.length
    case neg =>
      go_wp2_with fail
      clear hi hlt c0 c1 c2 c3 c4 c5 c6 c7 c8
      go_loopw [12, 13] (fun g x wr => ∃ k : Nat, k ≤ S.kinds.length ∧ x = .int .i64 k ∧ g = .int .i64 (cnt S.kinds k S.members : Nat) ∧ Hid (Lw H S ⟨.string tt, .slice a1 S.kinds.length b1, .slice a2 S.members.length b2, .slice a3 S.preds.length b3, .slice a4 S.classes.length b4, .slice a5 S.sources.length b5, .slice a6 S.rules.length b6, .slice a7 S.excepts.length b7, .slice a8 S.totals.length b8⟩ w wr)) (fun _ x _ => S.kinds.length - (intOf x).toNat)
      case atStart => exact ⟨0, by omega, rfl, by rw [cnt_zero]; rfl, K⟩
      case round =>
        clear K
        obtain ⟨k, hk, rfl, rfl, K⟩ := hrel
        obtain ⟨c0, c1, c2, c3, c4, c5, c6, c7, c8, cf⟩ := K.out.cells
        simp only at c0 c1 c2 c3 c4 c5 c6 c7 c8
        clear cf
        by_cases hkl : k < S.kinds.length
        case pos =>
          have HST := hide (cnt_step S.kinds k S.members)
          have hle := cnt_le S.kinds (k + 1) S.members
          rw [HST.out] at hle
          have CO := hide (of_any K.out.sr (by omega) (by omega) (k : Int))
          unfold St9.agg at CO
          simp only at CO
          generalize ofN S.kinds (k : Int) S.members = n1 at *
          generalize cnt S.kinds k S.members = n2 at *
          go_wp2_with (first | (go_at_call 10; refine CO.out.mono ?_; rintro _ w5 ⟨oa, oc, rfl, hw5⟩; have K5 := hide (K.out.below hw5); clear hw5 CO K c0 c1 c2 c3 c4 c5 c6 c7 c8))
          go_roundw
          case rel => exact ⟨k + 1, by omega, by go_num, by rw [HST.out]; go_num, K5⟩
          case measure => simp [intOf]; omega
        have hk' : k = S.kinds.length := by omega
        subst hk'
        rw [cnt_all HE.out]
        go_wp2_with fail
        go_ret
        exact ⟨by simp, K.out.low⟩
    obtain ⟨t, ht⟩ : ∃ t, S.rules[i]? = some t := ⟨_, List.getElem?_eq_getElem hlt⟩
    obtain ⟨v, hv, hv28, hhd, hbd, hrng, h16⟩ := fit_all HE.out ht
    obtain ⟨rg, ro, ba, bc, xa, xc, e6, hrg, -, -, -, -, D4, -, D6, D7, D8, D9, D10, -, -, hpl, HPB, HPA⟩ := at_R HR.out.rules ht
    cases e6
    have HRG := hide hrg
    have HD4 := hide D4
    have HD6 := hide D6
    have HD7 := hide D7
    have HD8 := hide D8
    have HD9 := hide D9
    have HD10 := hide D10
    have HPBH := hide HPB
    have HPAH := hide HPA
    have HHD := hide hhd
    have HBD := hide hbd
    have HRNG := hide hrng
    have CV := hide (vars_any K.out.sr (i : Int))
    rw [HE.out, hv] at CV
    unfold St9.agg at CV
    simp only at CV
    clear ht hv hhd hbd hrng hrg D4 D6 D7 D8 D9 D10 HPB HPA
    go_upto_region 10 with (first | (go_at_call 7; refine CV.out.mono ?_; intro e w4 hE; obtain ⟨hw4, na, nc, ka, kc, rfl, hnv, hkv⟩ := hE.done; have K4 : Hid (Rv H S ⟨.string tt, .slice a1 S.kinds.length b1, .slice a2 S.members.length b2, .slice a3 S.preds.length b3, .slice a4 S.classes.length b4, .slice a5 S.sources.length b5, .slice (some ⟨rg, ro, none⟩) S.rules.length b6, .slice a7 S.excepts.length b7, .slice a8 S.totals.length b8⟩ v (.slice na v.length nc) (.slice ka v.length kc) w w4) := hide ⟨K.out.below hw4, hnv, hkv⟩; clear hE hw4 hnv hkv CV K c0 c1 c2 c3 c4 c5 c6 c7 c8))
    have F7H : Hid (∀ X, Rv H S ⟨.string tt, .slice a1 S.kinds.length b1, .slice a2 S.members.length b2, .slice a3 S.preds.length b3, .slice a4 S.classes.length b4, .slice a5 S.sources.length b5, .slice (some ⟨rg, ro, none⟩) S.rules.length b6, .slice a7 S.excepts.length b7, .slice a8 S.totals.length b8⟩ v (.slice na v.length nc) (.slice ka v.length kc) w X → (fun X : World => X.cell? ⟨H, 0, none⟩ = some (.string tt) ∧ X.cell? ⟨H, 1, none⟩ = some (.slice a1 S.kinds.length b1) ∧ X.cell? ⟨H, 2, none⟩ = some (.slice a2 S.members.length b2) ∧ X.cell? ⟨H, 3, none⟩ = some (.slice a3 S.preds.length b3) ∧ X.cell? ⟨H, 4, none⟩ = some (.slice a4 S.classes.length b4) ∧ X.cell? ⟨H, 5, none⟩ = some (.slice a5 S.sources.length b5) ∧ X.cell? ⟨H, 6, none⟩ = some (.slice (some ⟨rg, ro, none⟩) S.rules.length b6) ∧ X.cell? ⟨H, 7, none⟩ = some (.slice a7 S.excepts.length b7) ∧ X.cell? ⟨H, 8, none⟩ = some (.slice a8 S.totals.length b8) ∧ X.cell? ⟨rg, ro + i * 11 + 6, none⟩ = some (.bool t.head.neg) ∧ X.cell? ⟨rg, ro + i * 11 + 7, none⟩ = some (.string ⟨t.head.pred.toArray⟩) ∧ X.cell? ⟨rg, ro + i * 11 + 8, none⟩ = some (.slice xa t.head.args.length xc) ∧ X.cell? ⟨rg, ro + i * 11 + 9, none⟩ = some (.bool t.head.hasValue) ∧ X.cell? ⟨rg, ro + i * 11 + 10, none⟩ = some (.int .i64 t.head.value) ∧ Rv H S ⟨.string tt, .slice a1 S.kinds.length b1, .slice a2 S.members.length b2, .slice a3 S.preds.length b3, .slice a4 S.classes.length b4, .slice a5 S.sources.length b5, .slice (some ⟨rg, ro, none⟩) S.rules.length b6, .slice a7 S.excepts.length b7, .slice a8 S.totals.length b8⟩ v (.slice na v.length nc) (.slice ka v.length kc) w X) X) := hide fun X hX => ⟨cell_of_row X _ 0 _ _ _ hX.lw.box, cell_of_row X _ 1 _ _ _ hX.lw.box, cell_of_row X _ 2 _ _ _ hX.lw.box, cell_of_row X _ 3 _ _ _ hX.lw.box, cell_of_row X _ 4 _ _ _ hX.lw.box, cell_of_row X _ 5 _ _ _ hX.lw.box, cell_of_row X _ 6 _ _ _ hX.lw.box, cell_of_row X _ 7 _ _ _ hX.lw.box, cell_of_row X _ 8 _ _ _ hX.lw.box, hX.lw.cell HRG.out HD6.out, hX.lw.cell HRG.out HD7.out, hX.lw.cell HRG.out HD8.out, hX.lw.cell HRG.out HD9.out, hX.lw.cell HRG.out HD10.out, hX⟩
    have G7H : Hid (∀ X Y, (fun X : World => X.cell? ⟨H, 0, none⟩ = some (.string tt) ∧ X.cell? ⟨H, 1, none⟩ = some (.slice a1 S.kinds.length b1) ∧ X.cell? ⟨H, 2, none⟩ = some (.slice a2 S.members.length b2) ∧ X.cell? ⟨H, 3, none⟩ = some (.slice a3 S.preds.length b3) ∧ X.cell? ⟨H, 4, none⟩ = some (.slice a4 S.classes.length b4) ∧ X.cell? ⟨H, 5, none⟩ = some (.slice a5 S.sources.length b5) ∧ X.cell? ⟨H, 6, none⟩ = some (.slice (some ⟨rg, ro, none⟩) S.rules.length b6) ∧ X.cell? ⟨H, 7, none⟩ = some (.slice a7 S.excepts.length b7) ∧ X.cell? ⟨H, 8, none⟩ = some (.slice a8 S.totals.length b8) ∧ X.cell? ⟨rg, ro + i * 11 + 6, none⟩ = some (.bool t.head.neg) ∧ X.cell? ⟨rg, ro + i * 11 + 7, none⟩ = some (.string ⟨t.head.pred.toArray⟩) ∧ X.cell? ⟨rg, ro + i * 11 + 8, none⟩ = some (.slice xa t.head.args.length xc) ∧ X.cell? ⟨rg, ro + i * 11 + 9, none⟩ = some (.bool t.head.hasValue) ∧ X.cell? ⟨rg, ro + i * 11 + 10, none⟩ = some (.int .i64 t.head.value) ∧ Rv H S ⟨.string tt, .slice a1 S.kinds.length b1, .slice a2 S.members.length b2, .slice a3 S.preds.length b3, .slice a4 S.classes.length b4, .slice a5 S.sources.length b5, .slice (some ⟨rg, ro, none⟩) S.rules.length b6, .slice a7 S.excepts.length b7, .slice a8 S.totals.length b8⟩ v (.slice na v.length nc) (.slice ka v.length kc) w X) X → Below X.heap.size X Y → (fun X : World => X.cell? ⟨H, 0, none⟩ = some (.string tt) ∧ X.cell? ⟨H, 1, none⟩ = some (.slice a1 S.kinds.length b1) ∧ X.cell? ⟨H, 2, none⟩ = some (.slice a2 S.members.length b2) ∧ X.cell? ⟨H, 3, none⟩ = some (.slice a3 S.preds.length b3) ∧ X.cell? ⟨H, 4, none⟩ = some (.slice a4 S.classes.length b4) ∧ X.cell? ⟨H, 5, none⟩ = some (.slice a5 S.sources.length b5) ∧ X.cell? ⟨H, 6, none⟩ = some (.slice (some ⟨rg, ro, none⟩) S.rules.length b6) ∧ X.cell? ⟨H, 7, none⟩ = some (.slice a7 S.excepts.length b7) ∧ X.cell? ⟨H, 8, none⟩ = some (.slice a8 S.totals.length b8) ∧ X.cell? ⟨rg, ro + i * 11 + 6, none⟩ = some (.bool t.head.neg) ∧ X.cell? ⟨rg, ro + i * 11 + 7, none⟩ = some (.string ⟨t.head.pred.toArray⟩) ∧ X.cell? ⟨rg, ro + i * 11 + 8, none⟩ = some (.slice xa t.head.args.length xc) ∧ X.cell? ⟨rg, ro + i * 11 + 9, none⟩ = some (.bool t.head.hasValue) ∧ X.cell? ⟨rg, ro + i * 11 + 10, none⟩ = some (.int .i64 t.head.value) ∧ Rv H S ⟨.string tt, .slice a1 S.kinds.length b1, .slice a2 S.members.length b2, .slice a3 S.preds.length b3, .slice a4 S.classes.length b4, .slice a5 S.sources.length b5, .slice (some ⟨rg, ro, none⟩) S.rules.length b6, .slice a7 S.excepts.length b7, .slice a8 S.totals.length b8⟩ v (.slice na v.length nc) (.slice ka v.length kc) w X) Y) := hide fun X Y hX hb => F7H.out Y (hX.2.2.2.2.2.2.2.2.2.2.2.2.2.2.below hb)
    have CF := hide (fun X (hX : (fun X : World => X.cell? ⟨H, 0, none⟩ = some (.string tt) ∧ X.cell? ⟨H, 1, none⟩ = some (.slice a1 S.kinds.length b1) ∧ X.cell? ⟨H, 2, none⟩ = some (.slice a2 S.members.length b2) ∧ X.cell? ⟨H, 3, none⟩ = some (.slice a3 S.preds.length b3) ∧ X.cell? ⟨H, 4, none⟩ = some (.slice a4 S.classes.length b4) ∧ X.cell? ⟨H, 5, none⟩ = some (.slice a5 S.sources.length b5) ∧ X.cell? ⟨H, 6, none⟩ = some (.slice (some ⟨rg, ro, none⟩) S.rules.length b6) ∧ X.cell? ⟨H, 7, none⟩ = some (.slice a7 S.excepts.length b7) ∧ X.cell? ⟨H, 8, none⟩ = some (.slice a8 S.totals.length b8) ∧ X.cell? ⟨rg, ro + i * 11 + 6, none⟩ = some (.bool t.head.neg) ∧ X.cell? ⟨rg, ro + i * 11 + 7, none⟩ = some (.string ⟨t.head.pred.toArray⟩) ∧ X.cell? ⟨rg, ro + i * 11 + 8, none⟩ = some (.slice xa t.head.args.length xc) ∧ X.cell? ⟨rg, ro + i * 11 + 9, none⟩ = some (.bool t.head.hasValue) ∧ X.cell? ⟨rg, ro + i * 11 + 10, none⟩ = some (.int .i64 t.head.value) ∧ Rv H S ⟨.string tt, .slice a1 S.kinds.length b1, .slice a2 S.members.length b2, .slice a3 S.preds.length b3, .slice a4 S.classes.length b4, .slice a5 S.sources.length b5, .slice (some ⟨rg, ro, none⟩) S.rules.length b6, .slice a7 S.excepts.length b7, .slice a8 S.totals.length b8⟩ v (.slice na v.length nc) (.slice ka v.length kc) w X) X) => fits_any (l := t.head) hX.2.2.2.2.2.2.2.2.2.2.2.2.2.2.lw.sr (by omega) (by omega) (by omega) hX.2.2.2.2.2.2.2.2.2.2.2.2.2.2.names hX.2.2.2.2.2.2.2.2.2.2.2.2.2.2.kinds (by omega) hpl (hX.2.2.2.2.2.2.2.2.2.2.2.2.2.2.lw.strs HPAH.out))
    rw [HHD.out] at CF
    unfold St9.agg str at CF
    simp only at CF
    go_region_held3 (fun X : World => X.cell? ⟨H, 0, none⟩ = some (.string tt) ∧ X.cell? ⟨H, 1, none⟩ = some (.slice a1 S.kinds.length b1) ∧ X.cell? ⟨H, 2, none⟩ = some (.slice a2 S.members.length b2) ∧ X.cell? ⟨H, 3, none⟩ = some (.slice a3 S.preds.length b3) ∧ X.cell? ⟨H, 4, none⟩ = some (.slice a4 S.classes.length b4) ∧ X.cell? ⟨H, 5, none⟩ = some (.slice a5 S.sources.length b5) ∧ X.cell? ⟨H, 6, none⟩ = some (.slice (some ⟨rg, ro, none⟩) S.rules.length b6) ∧ X.cell? ⟨H, 7, none⟩ = some (.slice a7 S.excepts.length b7) ∧ X.cell? ⟨H, 8, none⟩ = some (.slice a8 S.totals.length b8) ∧ X.cell? ⟨rg, ro + i * 11 + 6, none⟩ = some (.bool t.head.neg) ∧ X.cell? ⟨rg, ro + i * 11 + 7, none⟩ = some (.string ⟨t.head.pred.toArray⟩) ∧ X.cell? ⟨rg, ro + i * 11 + 8, none⟩ = some (.slice xa t.head.args.length xc) ∧ X.cell? ⟨rg, ro + i * 11 + 9, none⟩ = some (.bool t.head.hasValue) ∧ X.cell? ⟨rg, ro + i * 11 + 10, none⟩ = some (.int .i64 t.head.value) ∧ Rv H S ⟨.string tt, .slice a1 S.kinds.length b1, .slice a2 S.members.length b2, .slice a3 S.preds.length b3, .slice a4 S.classes.length b4, .slice a5 S.sources.length b5, .slice (some ⟨rg, ro, none⟩) S.rules.length b6, .slice a7 S.excepts.length b7, .slice a8 S.totals.length b8⟩ v (.slice na v.length nc) (.slice ka v.length kc) w X) (first | assumption | exact F7H.out _ (Rv.drew K4.out) | exact G7H.out _ _ ‹_› ‹_›) (first | (go_at_call 8; refine (CF.out _ ‹_›).mono ?_; rintro e w6 ⟨rfl, hb9⟩))
    have K6 := hide (K4.out.drew.below hb9)
    clear K4 hb9 CF F7H G7H
    go_wp2_with fail
    go_loopw [9] (fun x wr => ∃ j : Nat, j ≤ v.length ∧ x = .int .i64 j ∧ Hid (Rv H S ⟨.string tt, .slice a1 S.kinds.length b1, .slice a2 S.members.length b2, .slice a3 S.preds.length b3, .slice a4 S.classes.length b4, .slice a5 S.sources.length b5, .slice (some ⟨rg, ro, none⟩) S.rules.length b6, .slice a7 S.excepts.length b7, .slice a8 S.totals.length b8⟩ v (.slice na v.length nc) (.slice ka v.length kc) w wr)) (fun x _ => v.length - (intOf x).toNat)
    case atStart => exact ⟨0, by omega, rfl, K6⟩
    case round =>
      clear K6
      obtain ⟨j, hj, rfl, KJ⟩ := hrel
      by_cases hjl : j < v.length
      case pos =>
        obtain ⟨x, hx⟩ : ∃ x, v[j]? = some x := ⟨_, List.getElem?_eq_getElem hjl⟩
        obtain ⟨hvx, hx0, hx1⟩ := HRNG.out x (List.mem_of_getElem? hx)
        have hxn : Hid ((strs v.names)[j]? = some (str x.1)) := by unfold Hid strs Scope.names; rw [List.getElem?_map, List.getElem?_map, hx]; rfl
        have hxk : Hid ((ints v.kinds)[j]? = some (.int .i64 x.2)) := by unfold Hid ints Scope.kinds; rw [List.getElem?_map, List.getElem?_map, hx]; rfl
        obtain ⟨ng, nc2, e1, -, -, -⟩ := owns_at KJ.out.names hxn.out
        obtain ⟨kg, kc2, e2, -, -, -⟩ := owns_at KJ.out.kinds hxk.out
        simp only [Value.slice.injEq, true_and] at e1 e2
        obtain ⟨rfl, rfl⟩ := e1
        obtain ⟨rfl, rfl⟩ := e2
        have CI := hide (fun X => isVar_any ⟨x.1.toArray⟩ X)
        rw [show isVarB (ByteArray.mk x.1.toArray).data.toList = true from hvx] at CI
        have hn0 : ¬ (x.2 < 0) := by omega
        have hn1 : ¬ ((S.kinds.length : Int) ≤ x.2) := by omega
        have hd0 : decide (x.2 < 0) = false := decide_eq_false hn0
        have hd1 : decide ((S.kinds.length : Int) ≤ x.2) = false := decide_eq_false hn1
        clear hx hvx
        go_upto_region 15 with fail
        have F7H : Hid (∀ X, Rv H S ⟨.string tt, .slice a1 S.kinds.length b1, .slice a2 S.members.length b2, .slice a3 S.preds.length b3, .slice a4 S.classes.length b4, .slice a5 S.sources.length b5, .slice (some ⟨rg, ro, none⟩) S.rules.length b6, .slice a7 S.excepts.length b7, .slice a8 S.totals.length b8⟩ v (.slice (some ⟨ng, 0, none⟩) v.length nc) (.slice (some ⟨kg, 0, none⟩) v.length kc) w X → (fun X : World => X.cell? ⟨H, 0, none⟩ = some (.string tt) ∧ X.cell? ⟨H, 1, none⟩ = some (.slice a1 S.kinds.length b1) ∧ X.cell? ⟨H, 2, none⟩ = some (.slice a2 S.members.length b2) ∧ X.cell? ⟨H, 3, none⟩ = some (.slice a3 S.preds.length b3) ∧ X.cell? ⟨H, 4, none⟩ = some (.slice a4 S.classes.length b4) ∧ X.cell? ⟨H, 5, none⟩ = some (.slice a5 S.sources.length b5) ∧ X.cell? ⟨H, 6, none⟩ = some (.slice (some ⟨rg, ro, none⟩) S.rules.length b6) ∧ X.cell? ⟨H, 7, none⟩ = some (.slice a7 S.excepts.length b7) ∧ X.cell? ⟨H, 8, none⟩ = some (.slice a8 S.totals.length b8) ∧ X.cell? ⟨ng, j, none⟩ = some (.string ⟨x.1.toArray⟩) ∧ X.cell? ⟨kg, j, none⟩ = some (.int .i64 x.2) ∧ Rv H S ⟨.string tt, .slice a1 S.kinds.length b1, .slice a2 S.members.length b2, .slice a3 S.preds.length b3, .slice a4 S.classes.length b4, .slice a5 S.sources.length b5, .slice (some ⟨rg, ro, none⟩) S.rules.length b6, .slice a7 S.excepts.length b7, .slice a8 S.totals.length b8⟩ v (.slice (some ⟨ng, 0, none⟩) v.length nc) (.slice (some ⟨kg, 0, none⟩) v.length kc) w X) X) := hide fun X hX => ⟨cell_of_row X _ 0 _ _ _ hX.lw.box, cell_of_row X _ 1 _ _ _ hX.lw.box, cell_of_row X _ 2 _ _ _ hX.lw.box, cell_of_row X _ 3 _ _ _ hX.lw.box, cell_of_row X _ 4 _ _ _ hX.lw.box, cell_of_row X _ 5 _ _ _ hX.lw.box, cell_of_row X _ 6 _ _ _ hX.lw.box, cell_of_row X _ 7 _ _ _ hX.lw.box, cell_of_row X _ 8 _ _ _ hX.lw.box, row_cell hX.names hxn.out, row_cell hX.kinds hxk.out, hX⟩
        have G7H : Hid (∀ X Y, (fun X : World => X.cell? ⟨H, 0, none⟩ = some (.string tt) ∧ X.cell? ⟨H, 1, none⟩ = some (.slice a1 S.kinds.length b1) ∧ X.cell? ⟨H, 2, none⟩ = some (.slice a2 S.members.length b2) ∧ X.cell? ⟨H, 3, none⟩ = some (.slice a3 S.preds.length b3) ∧ X.cell? ⟨H, 4, none⟩ = some (.slice a4 S.classes.length b4) ∧ X.cell? ⟨H, 5, none⟩ = some (.slice a5 S.sources.length b5) ∧ X.cell? ⟨H, 6, none⟩ = some (.slice (some ⟨rg, ro, none⟩) S.rules.length b6) ∧ X.cell? ⟨H, 7, none⟩ = some (.slice a7 S.excepts.length b7) ∧ X.cell? ⟨H, 8, none⟩ = some (.slice a8 S.totals.length b8) ∧ X.cell? ⟨ng, j, none⟩ = some (.string ⟨x.1.toArray⟩) ∧ X.cell? ⟨kg, j, none⟩ = some (.int .i64 x.2) ∧ Rv H S ⟨.string tt, .slice a1 S.kinds.length b1, .slice a2 S.members.length b2, .slice a3 S.preds.length b3, .slice a4 S.classes.length b4, .slice a5 S.sources.length b5, .slice (some ⟨rg, ro, none⟩) S.rules.length b6, .slice a7 S.excepts.length b7, .slice a8 S.totals.length b8⟩ v (.slice (some ⟨ng, 0, none⟩) v.length nc) (.slice (some ⟨kg, 0, none⟩) v.length kc) w X) X → Below X.heap.size X Y → (fun X : World => X.cell? ⟨H, 0, none⟩ = some (.string tt) ∧ X.cell? ⟨H, 1, none⟩ = some (.slice a1 S.kinds.length b1) ∧ X.cell? ⟨H, 2, none⟩ = some (.slice a2 S.members.length b2) ∧ X.cell? ⟨H, 3, none⟩ = some (.slice a3 S.preds.length b3) ∧ X.cell? ⟨H, 4, none⟩ = some (.slice a4 S.classes.length b4) ∧ X.cell? ⟨H, 5, none⟩ = some (.slice a5 S.sources.length b5) ∧ X.cell? ⟨H, 6, none⟩ = some (.slice (some ⟨rg, ro, none⟩) S.rules.length b6) ∧ X.cell? ⟨H, 7, none⟩ = some (.slice a7 S.excepts.length b7) ∧ X.cell? ⟨H, 8, none⟩ = some (.slice a8 S.totals.length b8) ∧ X.cell? ⟨ng, j, none⟩ = some (.string ⟨x.1.toArray⟩) ∧ X.cell? ⟨kg, j, none⟩ = some (.int .i64 x.2) ∧ Rv H S ⟨.string tt, .slice a1 S.kinds.length b1, .slice a2 S.members.length b2, .slice a3 S.preds.length b3, .slice a4 S.classes.length b4, .slice a5 S.sources.length b5, .slice (some ⟨rg, ro, none⟩) S.rules.length b6, .slice a7 S.excepts.length b7, .slice a8 S.totals.length b8⟩ v (.slice (some ⟨ng, 0, none⟩) v.length nc) (.slice (some ⟨kg, 0, none⟩) v.length kc) w X) Y) := hide fun X Y hX hb => F7H.out Y (hX.2.2.2.2.2.2.2.2.2.2.2.below hb)
        go_region_held3 (fun X : World => X.cell? ⟨H, 0, none⟩ = some (.string tt) ∧ X.cell? ⟨H, 1, none⟩ = some (.slice a1 S.kinds.length b1) ∧ X.cell? ⟨H, 2, none⟩ = some (.slice a2 S.members.length b2) ∧ X.cell? ⟨H, 3, none⟩ = some (.slice a3 S.preds.length b3) ∧ X.cell? ⟨H, 4, none⟩ = some (.slice a4 S.classes.length b4) ∧ X.cell? ⟨H, 5, none⟩ = some (.slice a5 S.sources.length b5) ∧ X.cell? ⟨H, 6, none⟩ = some (.slice (some ⟨rg, ro, none⟩) S.rules.length b6) ∧ X.cell? ⟨H, 7, none⟩ = some (.slice a7 S.excepts.length b7) ∧ X.cell? ⟨H, 8, none⟩ = some (.slice a8 S.totals.length b8) ∧ X.cell? ⟨ng, j, none⟩ = some (.string ⟨x.1.toArray⟩) ∧ X.cell? ⟨kg, j, none⟩ = some (.int .i64 x.2) ∧ Rv H S ⟨.string tt, .slice a1 S.kinds.length b1, .slice a2 S.members.length b2, .slice a3 S.preds.length b3, .slice a4 S.classes.length b4, .slice a5 S.sources.length b5, .slice (some ⟨rg, ro, none⟩) S.rules.length b6, .slice a7 S.excepts.length b7, .slice a8 S.totals.length b8⟩ v (.slice (some ⟨ng, 0, none⟩) v.length nc) (.slice (some ⟨kg, 0, none⟩) v.length kc) w X) (first | assumption | exact F7H.out _ (Rv.drew KJ.out) | exact G7H.out _ _ ‹_› ‹_›) (first | (go_at_call 9; refine (CI.out _).mono ?_; rintro e w9 ⟨rfl, hw9⟩; subst w9))
        clear CI F7H G7H
        go_wp2_with fail
        go_roundw
        case rel => exact ⟨j + 1, by omega, by go_num, hide KJ.out.drew⟩
        case measure => simp [intOf]; omega
      go_wp2_with fail
      clear hj hjl
      go_loopw [10] (fun x wr => ∃ q : Nat, q ≤ t.body.length ∧ x = .int .i64 q ∧ Hid (Rv H S ⟨.string tt, .slice a1 S.kinds.length b1, .slice a2 S.members.length b2, .slice a3 S.preds.length b3, .slice a4 S.classes.length b4, .slice a5 S.sources.length b5, .slice (some ⟨rg, ro, none⟩) S.rules.length b6, .slice a7 S.excepts.length b7, .slice a8 S.totals.length b8⟩ v (.slice na v.length nc) (.slice ka v.length kc) w wr)) (fun x _ => t.body.length - (intOf x).toNat)
      case atStart => exact ⟨0, by omega, rfl, KJ⟩
      case round =>
        clear KJ
        obtain ⟨q, hq, rfl, KJ⟩ := hrel
        obtain ⟨c0, c1, c2, c3, c4, c5, c6, c7, c8, cf⟩ := KJ.out.lw.cells
        simp only at c0 c1 c2 c3 c4 c5 c6 c7 c8
        clear cf
        have d4 := KJ.out.lw.cell HRG.out HD4.out
        by_cases hql : q < t.body.length
        case neg =>
          go_wp2_with fail
          go_roundw
          case rel => exact ⟨i + 1, by omega, by go_num, hide KJ.out.lw⟩
          case measure => simp [intOf]; omega
        obtain ⟨pm, hpm⟩ : ∃ pm, t.body[q]? = some pm := ⟨_, List.getElem?_eq_getElem hql⟩
        have HFM := hide (HBD.out pm (List.mem_of_getElem? hpm))
        obtain ⟨yg, yo, ya, yc, la, lc, ra, rc, e5, hyg, P0, P1, P2, P3, P4, P5, P6, P7, P8, P9, P10, hpp, -, -, HYA, -, -⟩ := at_Prem HPBH.out hpm
        cases e5
        replace P0 := KJ.out.lw.cell hyg P0
        replace P1 := KJ.out.lw.cell hyg P1
        replace P2 := KJ.out.lw.cell hyg P2
        replace P3 := KJ.out.lw.cell hyg P3
        replace P4 := KJ.out.lw.cell hyg P4
        replace P5 := KJ.out.lw.cell hyg P5
        replace P6 := KJ.out.lw.cell hyg P6
        replace P7 := KJ.out.lw.cell hyg P7
        replace P8 := KJ.out.lw.cell hyg P8
        replace P9 := KJ.out.lw.cell hyg P9
        replace P10 := KJ.out.lw.cell hyg P10
        have HYAH := hide HYA
        clear hpm HYA hyg
        have KA := hide (KJ.out.below ((Below.refl _ wr).alloc (Nat.le_refl _) (.cells #[.int .i64 pm.kind, .bool pm.lit.neg, .string ⟨pm.lit.pred.toArray⟩, .slice ya pm.lit.args.length yc, .bool pm.lit.hasValue, .int .i64 pm.lit.value, .slice la pm.guard.left.length lc, .int .i64 pm.guard.op, .slice ra pm.guard.right.length rc, .string ⟨pm.a.toArray⟩, .string ⟨pm.b.toArray⟩] 56)))
        have hbx : (wr.alloc (.cells #[.int .i64 pm.kind, .bool pm.lit.neg, .string ⟨pm.lit.pred.toArray⟩, .slice ya pm.lit.args.length yc, .bool pm.lit.hasValue, .int .i64 pm.lit.value, .slice la pm.guard.left.length lc, .int .i64 pm.guard.op, .slice ra pm.guard.right.length rc, .string ⟨pm.a.toArray⟩, .string ⟨pm.b.toArray⟩] 56)).heap[wr.heap.size]? = some (.cells #[.int .i64 pm.kind, .bool pm.lit.neg, .string ⟨pm.lit.pred.toArray⟩, .slice ya pm.lit.args.length yc, .bool pm.lit.hasValue, .int .i64 pm.lit.value, .slice la pm.guard.left.length lc, .int .i64 pm.guard.op, .slice ra pm.guard.right.length rc, .string ⟨pm.a.toArray⟩, .string ⟨pm.b.toArray⟩] 56 (0, 0)) := heap_alloc_new wr _
        have HBX := hide hbx
        clear hbx
        go_upto_region 21 with fail
        clear KJ d4 P0 P1 P2 P3 P4 P5 P6 P7 P8 P9 P10 c0 c1 c2 c3 c4 c5 c6 c7 c8
        generalize (wr.alloc (.cells #[.int .i64 pm.kind, .bool pm.lit.neg, .string ⟨pm.lit.pred.toArray⟩, .slice ya pm.lit.args.length yc, .bool pm.lit.hasValue, .int .i64 pm.lit.value, .slice la pm.guard.left.length lc, .int .i64 pm.guard.op, .slice ra pm.guard.right.length rc, .string ⟨pm.a.toArray⟩, .string ⟨pm.b.toArray⟩] 56)) = wa at *
        generalize wr.heap.size = bx at *
        obtain ⟨c0, c1, c2, c3, c4, c5, c6, c7, c8, cf⟩ := KA.out.lw.cells
        simp only at c0 c1 c2 c3 c4 c5 c6 c7 c8
        clear cf
        have P0 := cell_of_row wa bx 0 _ _ _ HBX.out
        have P1 := cell_of_row wa bx 1 _ _ _ HBX.out
        have P2 := cell_of_row wa bx 2 _ _ _ HBX.out
        have P3 := cell_of_row wa bx 3 _ _ _ HBX.out
        have P4 := cell_of_row wa bx 4 _ _ _ HBX.out
        have P5 := cell_of_row wa bx 5 _ _ _ HBX.out
        have P6 := cell_of_row wa bx 6 _ _ _ HBX.out
        have P7 := cell_of_row wa bx 7 _ _ _ HBX.out
        have P8 := cell_of_row wa bx 8 _ _ _ HBX.out
        have P9 := cell_of_row wa bx 9 _ _ _ HBX.out
        have P10 := cell_of_row wa bx 10 _ _ _ HBX.out
        simp only [List.getElem?_toArray, List.getElem?_cons_zero, List.getElem?_cons_succ] at P0 P1 P2 P3 P4 P5 P6 P7 P8 P9 P10
        by_cases hk1 : pm.kind = 1
        · have CF := hide (fits_any (l := pm.lit) KA.out.lw.sr (by omega) (by omega) (by omega) KA.out.names KA.out.kinds (by omega) hpp (KA.out.lw.strs HYAH.out))
          rw [HFM.out hk1] at CF
          unfold St9.agg str at CF
          simp only at CF
          rw [hk1] at P0
          go_wp2_with (first | (go_at_call 8; refine CF.out.mono ?_; rintro e w6 ⟨rfl, hb9⟩; have K7 := hide (KA.out.below hb9); clear hb9 CF))
          go_roundw
          case rel => exact ⟨q + 1, by omega, by go_num, K7⟩
          case measure => simp [intOf]; omega
        · have hbk : (pm.kind == 1) = false := beq_eq_false_iff_ne.2 hk1
          go_wp2_with fail
          go_roundw
          case rel => exact ⟨q + 1, by omega, by go_num, KA⟩
          case measure => simp [intOf]; omega
end
end Go.Proofs.Ytfnobccminhjpaa
