/- TheoryCones, walked: up to what is marked. -/
import Derived.Test.YtanonjggegibkaaBothW
import Derived.Test.YtanonjggegibkaaWorks
namespace Go.Proofs.Ytanonjggegibkaa
open Go.RowKit

theorem src_ints {N : Nat} {w : World} {l : List Int} {a : Option Addr} {c : Nat} (h : Ints N w l (.slice a l.length c)) : Src Try.prog 1 26 (.slice a l.length c) l.length (ints l) w := by
  cases hl : l with
  | nil =>
    subst hl
    cases a with
    | none => exact Src.ofNil w Try.underlying26 c
    | some a => exact Src.ofSlice w Try.underlying26 _ 0 c [] rfl (fun j u hu => by simp at hu) (by simp)
  | cons y t =>
    rw [← hl]
    obtain ⟨g, o, e, _⟩ := at_I h (i := 0) (x := y) (by rw [hl]; rfl)
    subst e
    refine Src.ofSlice w Try.underlying26 _ l.length c (ints l) (by rw [ints_len]; omega) (fun j u hu => ?_) fun u hu => ?_
    · unfold ints at hu
      rw [List.getElem?_map] at hu
      obtain ⟨x, hx, rfl⟩ := Option.map_eq_some_iff.1 hu
      obtain ⟨g', o', e', _, hc⟩ := at_I h hx
      cases e'
      rw [Addr.add_lit]
      exact hc
    · obtain ⟨x, _, rfl⟩ := List.mem_map.1 hu
      rfl
theorem places_len {R : List Bool} : (placesM R).length ≤ R.length := placesK_len
/-- What Cone answers where all may be. -/
theorem Cnd.yes {T : Th} {l : List Int} {w w' : World} {e : Ending} (h : Cnd T l w e w') (h0 : (checkM T).1 = 0) (hl : ∀ x ∈ l, 0 ≤ x ∧ x < T.lits) : ∃ (R : List Bool) (xa : Option Addr) (xc : Nat), R.length = T.lits.toNat ∧ (∀ y, 0 ≤ y → (hit R y = true ↔ Rch T l y)) ∧ e = .returned (.tuple #[.slice xa (placesM R).length xc, .int .i64 0]) ∧ w'.ownsRow w.heap.size 3 1 (.slice xa (placesM R).length xc) (placesM R).length (ints (placesM R)) := by
  rcases h with ⟨h1, _⟩ | ⟨_, ⟨x, hx, hn⟩, _⟩ | ⟨_, _, h⟩
  · exact absurd h0 h1
  · exact absurd (hl x hx) hn
  · exact h
theorem Cnd.no {T : Th} {l : List Int} {w w' : World} {e : Ending} (h : Cnd T l w e w') (hn : ¬ ((checkM T).1 = 0 ∧ ∀ x ∈ l, 0 ≤ x ∧ x < T.lits)) : ∃ z : Int, (z != 0) = true ∧ e = .returned (.tuple #[.slice none 0 0, .int .i64 z]) := by
  rcases h with ⟨h1, h⟩ | ⟨_, _, h⟩ | ⟨h1, h2, _⟩
  · exact ⟨_, by simpa using h1, h⟩
  · exact ⟨91, by decide, h⟩
  · exact absurd ⟨h1, h2⟩ hn
theorem mrg_len : ∀ {a b : List Int}, (mrg a b).length ≤ a.length + b.length
  | [], b => by rw [mrg_nil2]; simp
  | x :: a, [] => by rw [mrg_nil]; simp
  | x :: a, y :: b => by
    by_cases h : x < y
    · rw [mrg_lt h]
      have := mrg_len (a := a) (b := y :: b)
      simp at *
      omega
    · by_cases h2 : y < x
      · rw [mrg_gt h2]
        have := mrg_len (a := x :: a) (b := b)
        simp at *
        omega
      · have e : y = x := by omega
        subst e
        rw [mrg_eq]
        have := mrg_len (a := a) (b := b)
        simp at *
        omega
termination_by a b => a.length + b.length
theorem hit_lt {R : List Bool} {z : Int} (h : hit R z = true) : z.toNat < R.length := by
  apply Classical.byContradiction
  intro hn
  unfold hit at h
  rw [List.getD_eq_getElem?_getD, List.getElem?_eq_none (by omega)] at h
  cases h
theorem places_in {R : List Bool} {n : Nat} (hR : R.length = n) : ∀ z ∈ placesM R, 0 ≤ z ∧ z < (n : Int) := fun z hz => by
  obtain ⟨h0, h1⟩ := placesM_mem.1 hz
  have := hit_lt h1
  omega
/-- The cone's cone is the cone. -/
theorem places_own {T : Th} {la : List Int} {R S : List Bool} (hR : ∀ y, 0 ≤ y → (hit R y = true ↔ Rch T la y)) (hS : ∀ y, 0 ≤ y → (hit S y = true ↔ Rch T (placesM R) y)) (hin : ∀ y, Rch T la y → 0 ≤ y) : placesM S = placesM R :=
  places_ext fun z hz => by
    rw [hS z hz, hR z hz]
    exact rch_own fun y => ⟨fun h => by obtain ⟨h0, h1⟩ := placesM_mem.1 h; exact (hR y h0).1 h1, fun h => placesM_mem.2 ⟨hin y h, (hR y (hin y h)).2 h⟩⟩
theorem places_both {T : Th} {la lb : List Int} {R1 R2 R3 : List Bool} (h1 : ∀ y, 0 ≤ y → (hit R1 y = true ↔ Rch T la y)) (h2 : ∀ y, 0 ≤ y → (hit R2 y = true ↔ Rch T lb y)) (h3 : ∀ y, 0 ≤ y → (hit R3 y = true ↔ Rch T (la ++ lb) y)) : placesM R3 = mrg (placesM R1) (placesM R2) :=
  rise_ext placesK_rise (mrg_rise placesK_rise placesK_rise) fun z => by
    rw [mrg_mem, placesM_mem, placesM_mem, placesM_mem]
    constructor
    · rintro ⟨h0, h⟩
      rcases rch_both.1 ((h3 z h0).1 h) with h | h
      · exact .inl ⟨h0, (h1 z h0).2 h⟩
      · exact .inr ⟨h0, (h2 z h0).2 h⟩
    · rintro (⟨h0, h⟩ | ⟨h0, h⟩)
      · exact ⟨h0, (h3 z h0).2 (rch_both.2 (.inl ((h1 z h0).1 h)))⟩
      · exact ⟨h0, (h3 z h0).2 (rch_both.2 (.inr ((h2 z h0).1 h)))⟩
set_option maxRecDepth 100000 in
set_option maxHeartbeats 6400000 in
theorem theoryCones_any {w : World} {T : Th} {fa ra ba : Option Addr} {fc rc bc : Nat} {la lb : List Int} {a b : Option Addr} {ca cb : Nat} (h : TA w.heap.size w T fa fc ra rc ba bc) (ha : Ints w.heap.size w la (.slice a la.length ca)) (hb : Ints w.heap.size w lb (.slice b lb.length cb)) (hab : (la.length + lb.length) * 8 ≤ 140737488355328) :
    Calls Try.prog 8 #[tv T fa fc ra rc ba bc, .slice a la.length ca, .slice b lb.length cb] w fun e w' => e = .returned (.bool true) ∧ Below w.heap.size w w' := by
  obtain ⟨iI, hiI, zI0, zI1, zI2⟩ := info_parts infoI
  have hB := below_new w (.cells #[.int .i64 T.lits, .slice fa T.foes.length fc, .slice ra T.rules.length rc, .slice ba T.beats.length bc] 25)
  have HX := hide (heap_alloc_new w (.cells #[.int .i64 T.lits, .slice fa T.foes.length fc, .slice ra T.rules.length rc, .slice ba T.beats.length bc] 25))
  have HL := hide (TR.go hB h)
  have HIa := hide (Ints.go hB ha)
  have HIb := hide (Ints.go hB hb)
  have HA := hide hB
  have hlA := ha.lim
  have hlB := hb.lim
  clear h hB ha hb
  go_enter Try.func8, Try.ntmps8
  go_upto_region 1 with fail
  generalize w.alloc (.cells #[.int .i64 T.lits, .slice fa T.foes.length fc, .slice ra T.rules.length rc, .slice ba T.beats.length bc] 25) = W at *
  have HXz := hide (fun X (hX : Below W.heap.size W X) => (hX.block _ (loc_lt HX.out)).trans HX.out)
  have HLz := hide (fun X (hX : Below W.heap.size W X) => TR.go hX HL.out)
  have Haz := hide (fun X (hX : Below W.heap.size W X) => Ints.go hX HIa.out)
  have Hbz := hide (fun X (hX : Below W.heap.size W X) => Ints.go hX HIb.out)
  clear HX HL HIa HIb
  have CW := hide (works_any W)
  go_upto_region 3 with (go_at_call 21; refine CW.out.mono ?_; rintro _ w1 ⟨rfl, hw1⟩; have B1 := hide hw1; clear hw1)
  clear CW
  obtain ⟨-, c0, c1, c2, c3⟩ := Bt.of (HXz.out _ B1.out)
  have C1 := hide (cone_any (HLz.out _ B1.out) (Haz.out _ B1.out))
  by_cases hka : (checkM T).1 = 0 ∧ ∀ x ∈ la, 0 ≤ x ∧ x < T.lits
  · have HKA := hide hka
    clear hka
    go_upto_region 4 with (go_at_call 31; refine C1.out.mono ?_; rintro e w2 ⟨hcn, hw2⟩; obtain ⟨R1, xa, xc, h1, h2, rfl, ho1⟩ := hcn.yes HKA.out.1 HKA.out.2; have B2 := hide (B1.out.trans (hw2.mono B1.out.size)); have HR1 := hide h1; have HH1 := hide h2; have HO1 := hide ho1; clear hcn hw2 h1 h2 ho1)
    clear C1 c0 c1 c2 c3
    obtain ⟨-, c0, c1, c2, c3⟩ := Bt.of (HXz.out _ B2.out)
    have C2 := hide (cone_any (HLz.out _ B2.out) (Hbz.out _ B2.out))
    by_cases hkb : (checkM T).1 = 0 ∧ ∀ x ∈ lb, 0 ≤ x ∧ x < T.lits
    · have HKB := hide hkb
      clear hkb
      go_upto_region 7 with (go_at_call 31; refine C2.out.mono ?_; rintro e w3 ⟨hcn, hw3⟩; obtain ⟨R2, ya, yc, h1, h2, rfl, ho1⟩ := hcn.yes HKB.out.1 HKB.out.2; have B3 := hide (B2.out.trans (hw3.mono B2.out.size)); have HB23 := hide hw3; have HR2 := hide h1; have HH2 := hide h2; have HO2 := hide ho1; clear hcn hw3 h1 h2 ho1)
      clear C2 c0 c1 c2 c3
      have hN := below_new w3 (.cells #[] 3)
      have HE : Hid ((w3.alloc (.cells #[] 3)).ownsRow w3.heap.size 3 1 (.slice (some ⟨w3.heap.size, 0, none⟩) 0 0) 0 []) := hide ⟨rfl, .inr ⟨w3.heap.size, 0, #[], rfl, Nat.le_refl _, heap_alloc_new w3 _, Nat.le_refl _, by unfold maxLen; omega, rfl, rfl⟩⟩
      have HBa := hide (B3.out.trans (hN.mono B3.out.size))
      have HSa := hide (src_ints (Haz.out _ HBa.out))
      have hsz3 : w3.heap.size ≤ (w3.alloc (.cells #[] 3)).heap.size := hN.size
      have HG3 : Hid (∀ w4, (w3.alloc (.cells #[] 3)).grownBy w4 (Value.ownBlock (.slice (some ⟨w3.heap.size, 0, none⟩) 0 0)) → Below w3.heap.size w3 w4) := hide (fun w4 hg => (hN.trans ((Fr.of_grown (Z := fun k => w3.heap.size ≤ k) hg (fun k e => by simp [Value.ownBlock] at e; omega)).below fun k hk => ⟨by have := hN.size; omega, by omega⟩)))
      clear hN
      go_upto_region 8 with (at_builtin; first | (refine wpList_append_src _ hsz3 (by rfl) _ _ 26 26 rfl 3 iI _ 1 8 Try.underlying26 hiI zI0 zI1 zI2 rfl (.slice (some ⟨w3.heap.size, 0, none⟩) 0 0) 0 [] rfl HE.out (.slice a la.length ca) la.length (ints la) rfl HSa.out (by unfold maxLen; omega) (by omega) ?_; intro v4 w4 hown4 hg4 hat4; rw [Nat.zero_add, List.nil_append] at hown4; obtain ⟨a4, c4, rfl⟩ := owns_slice hown4; have HO4 := hide hown4; have HB4 := hide (HG3.out _ hg4); have HS4 := hide (src_ints (Hbz.out _ (B3.out.trans (HB4.out.mono B3.out.size)))); clear hown4 hg4 hat4) | (go_must (refine wpList_append_src _ HB4.out.size (by rfl) _ _ 26 26 rfl 3 iI _ 1 8 Try.underlying26 hiI zI0 zI1 zI2 rfl (.slice a4 la.length c4) la.length (ints la) rfl HO4.out (.slice b lb.length cb) lb.length (ints lb) rfl HS4.out (by unfold maxLen; omega) (by omega) ?_); intro v5 w5 hown5 hg5 hat5; obtain ⟨a5, c5, rfl⟩ := owns_slice hown5; have HO5 := hide hown5; have HG5 := hide hg5; clear hown5 hg5 hat5))
      have HB35 : Hid (Below w3.heap.size w3 w5) := hide (HB4.out.trans ((Fr.of_grown (Z := fun k => w3.heap.size ≤ k) HG5.out (fun k e => (HO4.out.lt k e).1)).below fun k hk => ⟨by have := HB4.out.size; omega, by omega⟩))
      have B5 := hide (B3.out.trans (HB35.out.mono B3.out.size))
      have hok := check_ok HKA.out.1
      have hn0 := hok.l0
      have hn1 := hok.l1
      have HIall : Hid (Ints w5.heap.size w5 (la ++ lb) (.slice a5 (la ++ lb).length c5)) := hide (ints_owns (l := la ++ lb) (by rw [List.length_append]; have := HO5.out; unfold ints at this ⊢; rw [List.map_append]; exact this) (Nat.le_refl _) (by rw [List.length_append]; omega))
      have HX1 := hide (ints_owns (B := w2.heap.size) HO1.out (Nat.le_refl _) (by have := places_len (R := R1); have := HR1.out; omega))
      have HX2 := hide (ints_owns (B := w3.heap.size) HO2.out (Nat.le_refl _) (by have := places_len (R := R2); have := HR2.out; omega))
      have HB25 := hide (HB23.out.trans (HB35.out.mono HB23.out.size))
      have C3 := hide (cone_any (HLz.out _ B5.out) HIall.out)
      rw [List.length_append] at C3
      obtain ⟨-, c0, c1, c2, c3⟩ := Bt.of (HXz.out _ B5.out)
      have HWH := hide (ok_wh hok)
      clear HE HBa HSa HG3 HO4 HB4 HS4 HO5 HG5 HIall hsz3
      go_upto_region 9 with (go_at_call 31; refine C3.out.mono ?_; rintro e w6 ⟨hcn, hw6⟩; obtain ⟨R3, za, zc, h1, h2, he, ho1⟩ := hcn.yes HKA.out.1 (fun x hx => (List.mem_append.1 hx).elim (HKA.out.2 x) (HKB.out.2 x)); have heq := places_both HH1.out HH2.out h2; rw [heq] at he ho1; subst he; have HR3 := hide h1; have HO3 := hide ho1; have HB56 := hide hw6; clear hcn hw6 h1 h2 ho1 heq)
      clear C3 c0 c1 c2 c3
      have B6 := hide (B5.out.trans (HB56.out.mono B5.out.size))
      have HB26 := hide (HB25.out.trans (HB56.out.mono HB25.out.size))
      have HB36 := hide (HB35.out.trans (HB56.out.mono HB35.out.size))
      have C4 := hide (cone_any (HLz.out _ B6.out) (Ints.go HB26.out HX1.out))
      obtain ⟨-, c0, c1, c2, c3⟩ := Bt.of (HXz.out _ B6.out)
      have HPI : Hid (∀ x ∈ placesM R1, 0 ≤ x ∧ x < T.lits) := hide (by have := places_in HR1.out; intro x hx; have := this x hx; omega)
      have HRin : Hid (∀ y, Rch T la y → 0 ≤ y) := hide fun y hy => (HWH.out.inn.rch HKA.out.2 hy).1
      go_upto_region 10 with (go_at_call 31; refine C4.out.mono ?_; rintro e w7 ⟨hcn, hw7⟩; obtain ⟨R4, va, vc, h1, h2, he, ho1⟩ := hcn.yes HKA.out.1 HPI.out; have heq := places_own HH1.out h2 HRin.out; rw [heq] at he ho1; subst he; have HO7 := hide ho1; have HB67 := hide hw7; clear hcn hw7 h1 h2 ho1 heq)
      clear C4 c0 c1 c2 c3
      have B7 := hide (B6.out.trans (HB67.out.mono B6.out.size))
      have HB27 := hide (HB26.out.trans (HB67.out.mono HB26.out.size))
      have HB37 := hide (HB36.out.trans (HB67.out.mono HB36.out.size))
      have hX4 : (placesM R1).length ≤ 4096 := by have := places_len (R := R1); have := HR1.out; omega
      have hY4 : (placesM R2).length ≤ 4096 := by have := places_len (R := R2); have := HR2.out; omega
      have HMl : Hid ((mrg (placesM R1) (placesM R2)).length ≤ 140737488351232) := hide (by have := mrg_len (a := placesM R1) (b := placesM R2); omega)
      have C5 := hide (sameInts_yes (c := vc) (d := xc) (owns_at1 HO7.out) (Ints.go HB27.out HX1.out).at1 (by omega))
      have CB := hide (fun w8 (h8 : Below w7.heap.size w7 w8) => both_any (ca := xc) (cb := yc) (At1.below (Ints.go HB27.out HX1.out).at1 h8) (At1.below (Ints.go HB37.out HX2.out).at1 h8) hX4 hY4)
      have HZ7 := hide (At1.below (owns_at1 HO3.out) HB67.out)
      have HXm : Hid (∀ z, z ∈ placesM R1 ↔ 0 ≤ z ∧ hit R1 z = true) := hide fun z => placesM_mem
      have hM8 := HMl.out
      clear HPI HO1 HO2 HO3 HO7 HH2 HX2 HB56 HB67 HB25 HB26 HB35 HB36 HB37 HB23 HR2 HR3
      generalize mrg (placesM R1) (placesM R2) = M at *
      generalize placesM R1 = X at *
      generalize placesM R2 = Y at *
      go_wp2_with fail
      refine C5.out.mono ?_
      rintro _ w8 ⟨rfl, hw8⟩
      have H8 := hide hw8
      clear hw8
      go_wp2_with fail
      refine (CB.out _ H8.out).mono ?_
      rintro _ w9 ⟨br, bd, rfl, ho9, hw9⟩
      have H9 := hide (H8.out.trans (hw9.mono H8.out.size))
      have HO9 := hide (owns_at1 ho9)
      clear ho9 hw9
      have C7 := hide (sameInts_yes (c := zc) (d := bd) (At1.below HZ7.out H9.out) HO9.out hM8)
      go_wp2_with fail
      refine C7.out.mono ?_
      rintro _ w10 ⟨rfl, hw10⟩
      have H10 := hide (H9.out.trans (hw10.mono H9.out.size))
      clear hw10 C7 C5 CB HZ7 H8 H9 HO9
      have B10 := hide (B7.out.trans (H10.out.mono B7.out.size))
      have HXt := hide (Ints.go H10.out (Ints.go HB27.out HX1.out))
      clear HB27 HX1 H10 B7 HMl hM8
      obtain ⟨n, hn⟩ : ∃ n : Nat, T.lits = n := ⟨T.lits.toNat, by omega⟩
      have HN0 := hide hn
      have hn4 : n ≤ 4096 := by omega
      have HR1n : Hid (R1.length = n) := hide (by have := HR1.out; omega)
      clear hn hn0 hn1 HR1
      obtain ⟨iB, hiB, zB0, zB1, zB2⟩ := info_parts infoBo
      obtain ⟨-, c0, c1, c2, c3⟩ := Bt.of (HXz.out _ B10.out)
      go_upto_region 13 with (at_make; go_must (refine wpList_make_fix _ rfl _ _ 76 rfl 4 iB _ Try.underlying76 hiB zB0 zB1 rfl _ _ n rfl rfl HN0.out HN0.out (by rw [zB2]; omega) (by unfold maxLen; omega) ?_))
      clear c0 c1 c2 c3
      have hNb := below_new w10 (.cells (Array.replicate n (.bool false)) 4)
      have HF0 : Hid (Fx w10.heap.size 4 (bools (List.replicate n false)) (w10.alloc (.cells (Array.replicate n (.bool false)) 4))) := hide (by unfold Fx; rw [heap_alloc_new, bools_rep])
      have HBn := hide hNb
      generalize w10.alloc (.cells (Array.replicate n (.bool false)) 4) = wI at *
      clear hNb
      generalize hgI : w10.heap.size = gI at *
      have HXw := hide (fun ws (h : Below gI w10 ws) => Ints.keep (N := gI) (w' := ws) h.block HXt.out)
      have hXl := HXt.out.lim
      go_upto_region 14 with fail
      go_loopw [17] (fun x ws => ∃ (k : Nat) (S : List Bool), k ≤ X.length ∧ x = .int .i64 k ∧ Hid (S.length = n ∧ ∀ y, 0 ≤ y → (hit S y = true ↔ y ∈ X.take k)) ∧ Hid (Fx gI 4 (bools S) ws) ∧ Hid (Below gI w10 ws)) (fun x _ => X.length - (intOf x).toNat)
      case atStart => exact ⟨0, _, by omega, rfl, hide ⟨by simp, fun y _ => by rw [hit_none]; simp⟩, HF0, HBn⟩
      case round =>
        clear HF0 HBn
        obtain ⟨k, S, hk, rfl, HS, HF, HBs⟩ := hrel
        by_cases hlt : k < X.length
        · obtain ⟨z, hz⟩ := get_at hlt
          obtain ⟨gx, ox, rfl, hgx, cx⟩ := at_I (HXw.out _ HBs.out) hz
          have hzm := (HXm.out z).1 (List.mem_of_getElem? hz)
          have hzl := hit_lt hzm.2
          rw [HR1n.out] at hzl
          obtain ⟨zm, rfl⟩ := Int.eq_ofNat_of_zero_le hzm.1
          have hzn : zm < n := by simpa using hzl
          have cb := HF.out.get (boolz_at (R := S) (k := zm) (by rw [HS.out.1]; exact hzn))
          have fb := HF.out.frz zm
          have HS2 : Hid ((S.set zm true).length = n ∧ ∀ y, 0 ≤ y → (hit (S.set zm true) y = true ↔ y ∈ X.take (k + 1))) := hide ⟨by rw [List.length_set]; exact HS.out.1, fun y hy => by
            have := hit_set (R := S) (x := (zm : Int)) (y := y) ⟨by omega, by rw [HS.out.1]; omega⟩ hy
            rw [Int.toNat_natCast] at this
            rw [this, take_snoc hz, List.mem_append, Bool.or_eq_true, HS.out.2 y hy]
            simp⟩
          have HF2 : Hid (Fx gI 4 (bools (S.set zm true)) (wr.setCell ⟨gI, zm, none⟩ (.bool true))) := hide (by rw [← bools_set]; exact HF.out.set zm _)
          have HB2 := hide (HBs.out.setCell (p := ⟨gI, zm, none⟩) (Nat.le_refl gI) (.bool true))
          clear hz hzm hzl HS HF HBs
          go_wp2_with fail
          go_roundw
          case rel => exact ⟨k + 1, _, by omega, by go_num, HS2, HF2, HB2⟩
          case measure => simp [intOf]; omega
        · have hkX : X.take k = X := List.take_of_length_le (by omega)
          have HS2 : Hid (S.length = n ∧ ∀ y, 0 ≤ y → (hit S y = true ↔ Rch T la y)) := hide ⟨HS.out.1, fun y hy => by rw [HS.out.2 y hy, hkX, HXm.out y, ← HH1.out y hy]; simp [hy]⟩
          clear hkX HS
          go_upto_region 18 with fail
          have hgW : W.heap.size ≤ gI := by have := B10.out.size; omega
          have BL := hide (B10.out.trans (HBs.out.mono hgW))
          have HLw := hide (HLz.out _ BL.out)
          have Haw := hide (Haz.out _ BL.out)
          have HXw2 := hide (HXz.out _ BL.out)
          have HCb := hide (fun (z : Nat) (hz : z < n) => HF.out.get (boolz_at (R := S) (k := z) (by rw [HS2.out.1]; exact hz)))
          have HEnd := hide (HA.out.trans (BL.out.mono HA.out.size))
          have HInn := hide HWH.out.inn
          have Hfl := hide HWH.out.fl
          clear HF HBs BL B10 HXw HXt HXm HH1 HLz Haz Hbz HXz HKB HWH
          generalize hwL : wr = wL at *
          go_loopw [18] (fun x ws => ∃ i : Nat, i ≤ la.length ∧ x = .int .i64 i ∧ ws = wL) (fun x _ => la.length - (intOf x).toNat)
          case atStart => exact ⟨0, by omega, rfl, rfl⟩
          case round =>
            obtain ⟨i, hi, rfl, rfl⟩ := hrel
            by_cases hlt : i < la.length
            · obtain ⟨z, hz⟩ := get_at hlt
              obtain ⟨gx, ox, rfl, hgx, cx⟩ := at_I Haw.out hz
              obtain ⟨z0, z1⟩ := HKA.out.2 z (List.mem_of_getElem? hz)
              rw [HN0.out] at z1
              obtain ⟨zm, rfl⟩ := Int.eq_ofNat_of_zero_le z0
              have hzn : zm < n := by omega
              have cb := HCb.out zm hzn
              have hh : hit S (zm : Int) = true := (HS2.out.2 _ (by omega)).2 (.base (List.mem_of_getElem? hz))
              rw [show S.getD zm false = true from by simpa using hh] at cb
              clear hz z0 z1 hh
              go_wp2_with fail
              go_roundw
              case rel => exact ⟨i + 1, by omega, by go_num, by first | trivial | rfl⟩
              case measure => simp [intOf]; omega
            · go_upto_region 23 with fail
              obtain ⟨-, c0, c1, c2, c3⟩ := Bt.of HXw2.out
              generalize hwM : wr = wM at *
              go_loopw [19] (fun x ws => ∃ q : Nat, q ≤ n ∧ x = .int .i64 q ∧ ws = wM) (fun x _ => n - (intOf x).toNat)
              case atStart => exact ⟨0, by omega, rfl, rfl⟩
              case round =>
                obtain ⟨q, hq, rfl, rfl⟩ := hrel
                by_cases hqn : (q : Int) < T.lits
                · have hqn2 : q < n := by have := HN0.out; omega
                  have cq := HCb.out q hqn2
                  obtain ⟨fl, hfl⟩ := get_at (l := T.foes) (i := q) (by rw [Hfl.out]; have := HN0.out; omega)
                  obtain ⟨g6, o6, fb, fcc, rfl, -, kl, -, hll, hI⟩ := at_L HLw.out.foes hfl
                  have hql : q < T.foes.length := (List.getElem?_eq_some_iff.1 hfl).1
                  have HI := hide hI
                  have HFr : Hid (row T.foes (q : Int) = fl) := hide (row_at (by simpa using hfl))
                  clear hfl hI
                  go_upto_region 26 with fail
                  generalize hwK : wr = wK at *
                  go_loopw [20] (fun x ws => ∃ k : Nat, k ≤ fl.length ∧ x = .int .i64 k ∧ ws = wK) (fun x _ => fl.length - (intOf x).toNat)
                  case atStart => exact ⟨0, by omega, rfl, rfl⟩
                  case round =>
                    obtain ⟨k, hk, rfl, rfl⟩ := hrel
                    by_cases hkl : k < fl.length
                    · obtain ⟨f, hf⟩ := get_at hkl
                      obtain ⟨gf, of_, rfl, hgf, cf⟩ := at_I HI.out hf
                      have hfm : f ∈ row T.foes (q : Int) := by rw [HFr.out]; exact List.mem_of_getElem? hf
                      obtain ⟨f0, f1⟩ := HInn.out.foe _ _ hfm
                      rw [HN0.out] at f1
                      obtain ⟨fm, rfl⟩ := Int.eq_ofNat_of_zero_le f0
                      have hfn : fm < n := by omega
                      have cfm := HCb.out fm hfn
                      cases hb : S.getD q false with
                      | true =>
                        rw [hb] at cq
                        have hh : hit S (fm : Int) = true := (HS2.out.2 _ (by omega)).2 (.step ((HS2.out.2 (q : Int) (by omega)).1 (by simpa using hb)) (.inl hfm))
                        rw [show S.getD fm false = true from by simpa using hh] at cfm
                        clear hf hfm f0 f1 hb hh
                        go_wp2_with fail
                        go_roundw
                        case rel => exact ⟨k + 1, by omega, by go_num, by first | trivial | rfl⟩
                        case measure => simp [intOf]; omega
                      | false =>
                        rw [hb] at cq
                        clear hf hfm f0 f1 hb cfm
                        go_wp2_with fail
                        go_roundw
                        case rel => exact ⟨k + 1, by omega, by go_num, by first | trivial | rfl⟩
                        case measure => simp [intOf]; omega
                    · go_wp2_with fail
                      go_roundw
                      case rel => exact ⟨q + 1, by omega, by go_num, by first | trivial | rfl | exact hwK.symm | exact hwK⟩
                      case measure => simp [intOf]; omega
                · go_upto_region 31 with fail
                  have hrl := HLw.out.rules.lim
                  generalize hwP : wr = wP at *
                  go_loopw [21] (fun x ws => ∃ i : Nat, i ≤ T.rules.length ∧ x = .int .i64 i ∧ ws = wP) (fun x _ => T.rules.length - (intOf x).toNat)
                  case atStart => exact ⟨0, by omega, rfl, rfl⟩
                  case round =>
                    obtain ⟨j, hj, rfl, rfl⟩ := hrel
                    by_cases hjl : j < T.rules.length
                    · obtain ⟨r, hr⟩ := get_at hjl
                      obtain ⟨gr, go, bd2, bp, rfl, hgr, x0, x1, x2, -, hbl, hbody⟩ := at_R HLw.out.rules hr
                      have hmem := List.mem_of_getElem? hr
                      obtain ⟨q0, q1⟩ := HInn.out.head r hmem
                      rw [HN0.out] at q1
                      obtain ⟨hm, hhm⟩ := Int.eq_ofNat_of_zero_le q0
                      have hhn : hm < n := by omega
                      have ch := HCb.out hm hhn
                      rw [hhm] at x1
                      have HBI := hide (HInn.out.body r hmem)
                      have HBD := hide hbody
                      have HMR := hide hmem
                      have HHM := hide hhm
                      clear hr hmem hbody q0 q1 hhm
                      go_upto_region 34 with fail
                      generalize hwR : wr = wR at *
                      go_loopw [22] (fun x ws => ∃ k : Nat, k ≤ r.body.length ∧ x = .int .i64 k ∧ ws = wR) (fun x _ => r.body.length - (intOf x).toNat)
                      case atStart => exact ⟨0, by omega, rfl, rfl⟩
                      case round =>
                        obtain ⟨k, hk, rfl, rfl⟩ := hrel
                        by_cases hkl : k < r.body.length
                        · obtain ⟨f, hf⟩ := get_at hkl
                          obtain ⟨gf, of_, rfl, hgf, cf⟩ := at_I HBD.out hf
                          have hfm := List.mem_of_getElem? hf
                          obtain ⟨f0, f1⟩ := HBI.out f hfm
                          rw [HN0.out] at f1
                          obtain ⟨fm, rfl⟩ := Int.eq_ofNat_of_zero_le f0
                          have hfn : fm < n := by omega
                          have cfm := HCb.out fm hfn
                          cases hb : S.getD fm false with
                          | true =>
                            rw [hb] at cfm
                            have hh : hit S (hm : Int) = true := (HS2.out.2 _ (by omega)).2 (.step ((HS2.out.2 (fm : Int) (by omega)).1 (by simpa using hb)) (.inr ⟨r, HMR.out, hfm, HHM.out.symm⟩))
                            rw [show S.getD hm false = true from by simpa using hh] at ch
                            clear hf hfm f0 f1 hb hh
                            go_wp2_with fail
                            go_roundw
                            case rel => exact ⟨k + 1, by omega, by go_num, by first | trivial | rfl⟩
                            case measure => simp [intOf]; omega
                          | false =>
                            rw [hb] at cfm
                            clear hf hfm f0 f1 hb ch
                            go_wp2_with fail
                            go_roundw
                            case rel => exact ⟨k + 1, by omega, by go_num, by first | trivial | rfl⟩
                            case measure => simp [intOf]; omega
                        · go_wp2_with fail
                          go_roundw
                          case rel => exact ⟨j + 1, by omega, by go_num, by first | trivial | rfl | exact hwR.symm | exact hwR⟩
                          case measure => simp [intOf]; omega
                    · go_wp2_with fail
                      go_ret
                      refine ⟨rfl, ?_⟩
                      first | exact HEnd.out | (subst_vars; exact HEnd.out)
    · have HKB := hide hkb
      clear hkb
      go_wp2_with (go_at_call 31; refine C2.out.mono ?_; rintro e w3 ⟨hcn, hw3⟩; obtain ⟨z, hz, rfl⟩ := hcn.no HKB.out; have B3 := hide (B2.out.trans (hw3.mono B2.out.size)); clear hcn hw3)
      go_ret
      exact ⟨rfl, HA.out.trans (B3.out.mono HA.out.size)⟩
  · have HKA := hide hka
    clear hka
    go_upto_region 4 with (go_at_call 31; refine C1.out.mono ?_; rintro e w2 ⟨hcn, hw2⟩; obtain ⟨z, hz, rfl⟩ := hcn.no HKA.out; have B2 := hide (B1.out.trans (hw2.mono B1.out.size)); clear hcn hw2)
    clear C1 c0 c1 c2 c3
    obtain ⟨-, c0, c1, c2, c3⟩ := Bt.of (HXz.out _ B2.out)
    have C2 := hide (cone_any (HLz.out _ B2.out) (Hbz.out _ B2.out))
    have hany : ∀ e w3, Cnd T lb w2 e w3 → ∃ (v : Value) (z2 : Int), e = .returned (.tuple #[v, .int .i64 z2]) := by
      rintro e w3 (⟨_, rfl⟩ | ⟨_, _, rfl⟩ | ⟨_, _, R, xa, xc, _, _, rfl, _⟩)
      · exact ⟨_, _, rfl⟩
      · exact ⟨_, _, rfl⟩
      · exact ⟨_, _, rfl⟩
    have HAN := hide hany
    clear hany
    go_wp2_with (go_at_call 31; refine C2.out.mono ?_; rintro e w3 ⟨hcn, hw3⟩; obtain ⟨v, z2, rfl⟩ := HAN.out _ _ hcn; have B3 := hide (B2.out.trans (hw3.mono B2.out.size)); clear hcn hw3)
    go_ret
    exact ⟨rfl, HA.out.trans (B3.out.mono HA.out.size)⟩
end Go.Proofs.Ytanonjggegibkaa
