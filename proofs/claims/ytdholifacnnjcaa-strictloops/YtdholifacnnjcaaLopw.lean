/- StrictLoops walked. -/
import Derived.Test.YtdholifacnnjcaaMorw
import Derived.Test.YtdholifacnnjcaaLed
import Derived.Deep.RegionHeld3
namespace Go.Proofs.Ytdholifacnnjcaa
open Go.RowKit

theorem next_sg {T : Th} {F : List Int} {n : Nat} {sg : List Int} (hpd : ∀ q : Nat, q < n → (sg.getD q 0 = 1 ↔ PD T F q)) (hmd : ∀ q : Nat, q < n → (sg.getD q 0 = 2 ↔ MD T F q)) (h3 : ∀ q : Nat, q < n → sg.getD q 0 = 0 ∨ sg.getD q 0 = 1 ∨ sg.getD q 0 = 2) (hN : Nm T F n) {q : Int} (hq : 0 ≤ q ∧ q < (n : Int)) (h0 : gi sg q = 0) : ∃ k r j R x, Nx sg T n q k r j R x := by
  obtain ⟨qn, rfl⟩ := Int.eq_ofNat_of_zero_le hq.1
  have hqn : qn < n := by omega
  rw [gi_nat] at h0
  have hnp : ¬ PD T F qn := fun hp => by have := (hpd qn hqn).2 hp; omega
  have hnm : ¬ MD T F qn := fun hp => by have := (hmd qn hqn).2 hp; omega
  have sgb : ∀ y : Int, 0 ≤ y ∧ y < (n : Int) → gi sg y = 2 → MD T F y := by
    intro y hy e
    obtain ⟨yn, rfl⟩ := Int.eq_ofNat_of_zero_le hy.1
    rw [gi_nat] at e
    exact (hmd yn (by omega)).1 e
  have sga : ∀ y : Int, 0 ≤ y ∧ y < (n : Int) → gi sg y = 1 → PD T F y := by
    intro y hy e
    obtain ⟨yn, rfl⟩ := Int.eq_ofNat_of_zero_le hy.1
    rw [gi_nat] at e
    exact (hpd yn (by omega)).1 e
  cases hk : idxF (standM sg T) 0 (strL T T.rules.length (qn : Int)) with
  | none =>
    exfalso
    apply hnm
    refine MD.of (fun hf => hnp (.fact hf)) fun R hR hkd hhd => ?_
    obtain ⟨a, ha, hya⟩ := List.mem_iff_getElem.1 hR
    have hya : T.rules[a]? = some R := by rw [List.getElem?_eq_getElem ha, hya]
    have hs := idxF_none hk (a : Int) (strL_mem ha hya hkd hhd)
    unfold standM at hs
    rw [Int.toNat_natCast, hya] at hs
    simp only [Option.map_some, Option.getD_some, Bool.not_eq_false'] at hs
    obtain ⟨j, hj⟩ := Option.isSome_iff_exists.1 hs
    obtain ⟨i, x, -, hx, hp, -⟩ := idxF_some hj
    have hxm := List.mem_of_getElem? hx
    exact ⟨x, hxm, sgb x (hN.body R hR x hxm) (by simpa using hp)⟩
  | some k =>
    obtain ⟨i, r0, e, hr0, hp, -⟩ := idxF_some hk
    have e : k = i := by omega
    subst e
    obtain ⟨r, R, rfl, hrl, hR, hkd, hhd⟩ := strL_at hr0
    have hmem := List.mem_of_getElem? hR
    have hst : ∀ x ∈ R.body, gi sg x ≠ 2 := by
      intro x hx e2
      unfold standM at hp
      rw [Int.toNat_natCast, hR] at hp
      simp only [Option.map_some, Option.getD_some] at hp
      cases hi : idxF (fun x => decide (gi sg x = 2)) 0 R.body with
      | none =>
        have := idxF_none hi x hx
        exact absurd e2 (of_decide_eq_false this)
      | some j => rw [hi] at hp; cases hp
    cases hj : idxF (missM sg) 0 R.body with
    | none =>
      exfalso
      apply hnp
      rw [← hhd]
      refine .rule hmem hkd fun x hx => sga x (hN.body R hmem x hx) ?_
      have := idxF_none hj x hx
      simpa using this
    | some j =>
      obtain ⟨i, x, e, hx, hpx, -⟩ := idxF_some hj
      have e : j = i := by omega
      subst e
      have hxm := List.mem_of_getElem? hx
      have hx0 := hN.body R hmem x hxm
      refine ⟨k, r, j, R, x, hk, hr0, hR, hkd, hhd, hj, hx, hx0, ?_, ?_⟩
      · obtain ⟨xn, rfl⟩ := Int.eq_ofNat_of_zero_le hx0.1
        have h1 : gi sg (xn : Int) ≠ 1 := by simpa using hpx
        have h2 := hst _ hxm
        rw [gi_nat] at h1 h2 ⊢
        rcases h3 xn (by omega) with h | h | h
        · exact h
        · exact absurd h h1
        · exact absurd h h2
      · unfold nxM
        rw [hk]
        simp only
        have e1 : (strL T T.rules.length (qn : Int)).getD k 0 = (r : Int) := by rw [List.getD_eq_getElem?_getD, hr0]; rfl
        rw [e1, Int.toNat_natCast, hR]
        simp only [hj]
        rw [List.getD_eq_getElem?_getD, hx]
        rfl
/-- What the law asks of the way. -/
structure Lfx (n : Nat) (sg : List Int) (T : Th) (L : List Int) (m lit : Nat) : Prop where
  len : L.length = m + 1
  m1 : 1 ≤ m
  mn : m ≤ n
  hd : L[0]? = some (lit : Int)
  al : ∀ x ∈ L, ∃ xm : Nat, x = xm ∧ xm < n ∧ sg.getD xm 0 = 0
  nw : ∀ (k : Nat) x, k < m → L[k]? = some x → x ∉ L.take k
  od : ∀ x, L[m]? = some x → x ∈ L.take m
  ld : ∀ (k : Nat) y x, L[k]? = some y → L[k + 1]? = some x → ∃ R ∈ T.rules, R.kind = 1 ∧ R.head = y ∧ x ∈ R.body
theorem Lfx.of {T : Th} {F : List Int} {n : Nat} {sg : List Int} (hpd : ∀ q : Nat, q < n → (sg.getD q 0 = 1 ↔ PD T F q)) (hmd : ∀ q : Nat, q < n → (sg.getD q 0 = 2 ↔ MD T F q)) (h3 : ∀ q : Nat, q < n → sg.getD q 0 = 0 ∨ sg.getD q 0 = 1 ∨ sg.getD q 0 = 2) (hN : Nm T F n) {lit : Nat} {P : List Int} {q : Int} {seen : List Bool} (h : Lq sg T n (lit : Int) P q seen) (hq : q ∈ P) : Lfx n sg T (P ++ [q]) P.length lit := by
  refine ⟨by simp, ?_, h.len, h.hd, fun x hx => ?_, fun k x hk hx => ?_, fun x hx => ?_, fun k y x hy hx => ?_⟩
  · cases P with
    | nil => simp at hq
    | cons a l => simp
  · obtain ⟨h1, h2⟩ := h.al x hx
    obtain ⟨xm, rfl⟩ := Int.eq_ofNat_of_zero_le h1.1
    exact ⟨xm, rfl, by omega, by rw [gi_nat] at h2; exact h2⟩
  · rw [List.getElem?_append_left hk] at hx
    rw [List.take_append_of_le_length (by omega)]
    intro hin
    obtain ⟨i, hi, e⟩ := List.mem_iff_getElem.1 hin
    rw [List.length_take] at hi
    rw [List.getElem_take] at e
    obtain ⟨_, e2⟩ := List.getElem?_eq_some_iff.1 hx
    have := List.nodup_iff_pairwise_ne.1 h.nd
    exact List.pairwise_iff_getElem.1 this i k (by omega) hk (by omega) (by rw [e, e2])
  · rw [List.getElem?_append_right (Nat.le_refl _), Nat.sub_self] at hx
    have : x = q := by simpa using hx.symm
    subst this
    rw [List.take_append_of_le_length (Nat.le_refl _), List.take_length]
    exact hq
  · have e := h.ch k y x hy hx
    obtain ⟨h1, h2⟩ := h.al y (List.mem_of_getElem? hy)
    obtain ⟨_, r, j, R, x', hx'⟩ := next_sg hpd hmd h3 hN h1 h2
    rw [hx'.nx] at e
    subst e
    exact ⟨R, List.mem_of_getElem? hx'.rr, hx'.kd, hx'.hd, List.mem_of_getElem? hx'.jx⟩
/-- What is read in the test of one step. -/
abbrev Sl (wz : World) (p0 p1 p2 p3 p4 p5 p6 p7 : Addr) (u0 u1 u2 u3 u4 u5 u6 u7 : Value) (X : World) : Prop := X.cell? p0 = some u0 ∧ X.cell? p1 = some u1 ∧ X.cell? p2 = some u2 ∧ X.cell? p3 = some u3 ∧ X.cell? p4 = some u4 ∧ X.cell? p5 = some u5 ∧ X.cell? p6 = some u6 ∧ X.cell? p7 = some u7 ∧ Below wz.heap.size wz X
section
variable {wz X Y : World} {p0 p1 p2 p3 p4 p5 p6 p7 : Addr} {u0 u1 u2 u3 u4 u5 u6 u7 : Value}
theorem Sl.b (h : Sl wz p0 p1 p2 p3 p4 p5 p6 p7 u0 u1 u2 u3 u4 u5 u6 u7 X) : Below wz.heap.size wz X := h.2.2.2.2.2.2.2.2
theorem Sl.drew (h : Sl wz p0 p1 p2 p3 p4 p5 p6 p7 u0 u1 u2 u3 u4 u5 u6 u7 X) : Sl wz p0 p1 p2 p3 p4 p5 p6 p7 u0 u1 u2 u3 u4 u5 u6 u7 X.drew := ⟨h.1, h.2.1, h.2.2.1, h.2.2.2.1, h.2.2.2.2.1, h.2.2.2.2.2.1, h.2.2.2.2.2.2.1, h.2.2.2.2.2.2.2.1, h.2.2.2.2.2.2.2.2.drew⟩
theorem cell_up {p : Addr} {u : Value} (h : X.cell? p = some u) (hb : Below X.heap.size X Y) : Y.cell? p = some u := (World.cell?_of_block (hb.block p.block (World.block_lt_of_cell? X _ h))).trans h
theorem Sl.below (h : Sl wz p0 p1 p2 p3 p4 p5 p6 p7 u0 u1 u2 u3 u4 u5 u6 u7 X) (hb : Below X.heap.size X Y) : Sl wz p0 p1 p2 p3 p4 p5 p6 p7 u0 u1 u2 u3 u4 u5 u6 u7 Y :=
  ⟨cell_up h.1 hb, cell_up h.2.1 hb, cell_up h.2.2.1 hb, cell_up h.2.2.2.1 hb, cell_up h.2.2.2.2.1 hb, cell_up h.2.2.2.2.2.1 hb, cell_up h.2.2.2.2.2.2.1 hb, cell_up h.2.2.2.2.2.2.2.1 hb, h.b.trans (hb.mono h.b.size)⟩
end
set_option maxRecDepth 100000 in
set_option maxHeartbeats 25600000 in
theorem loops_walk {w : World} {T : Th} {F : List Int} {fa ra ba ea : Option Addr} {fc rc bc ec : Nat} {z2 : Int} (h : TA w.heap.size w T fa fc ra rc ba bc) (hF : Ints w.heap.size w F (.slice ea F.length ec)) :
    Calls Try.prog 6 #[tv T fa fc ra rc ba bc, .slice ea F.length ec, .int .i64 z2] w fun e w' => e = .returned (.bool true) ∧ Below w.heap.size w w' := by
  obtain ⟨iB, hiB, zB0, zB1, zB2⟩ := info_parts infoBo
  obtain ⟨iI, hiI, zI0, zI1, zI2⟩ := info_parts infoI
  have HL0 := hide h
  have hFlim := hF.lim
  have hB := below_new w (.cells #[.int .i64 T.lits, .slice fa T.foes.length fc, .slice ra T.rules.length rc, .slice ba T.beats.length bc] 25)
  have hX := heap_alloc_new w (.cells #[.int .i64 T.lits, .slice fa T.foes.length fc, .slice ra T.rules.length rc, .slice ba T.beats.length bc] 25)
  have HLz : Hid (∀ X, Below (w.alloc (.cells #[.int .i64 T.lits, .slice fa T.foes.length fc, .slice ra T.rules.length rc, .slice ba T.beats.length bc] 25)).heap.size (w.alloc (.cells #[.int .i64 T.lits, .slice fa T.foes.length fc, .slice ra T.rules.length rc, .slice ba T.beats.length bc] 25)) X → TA X.heap.size X T fa fc ra rc ba bc) := hide fun X hX => TR.go hX (TR.go hB h)
  have HFz : Hid (∀ X, Below (w.alloc (.cells #[.int .i64 T.lits, .slice fa T.foes.length fc, .slice ra T.rules.length rc, .slice ba T.beats.length bc] 25)).heap.size (w.alloc (.cells #[.int .i64 T.lits, .slice fa T.foes.length fc, .slice ra T.rules.length rc, .slice ba T.beats.length bc] 25)) X → Ints X.heap.size X F (.slice ea F.length ec)) := hide fun X hX => Ints.go hX (Ints.go hB hF)
  have HXz : Hid (∀ X, Below (w.alloc (.cells #[.int .i64 T.lits, .slice fa T.foes.length fc, .slice ra T.rules.length rc, .slice ba T.beats.length bc] 25)).heap.size (w.alloc (.cells #[.int .i64 T.lits, .slice fa T.foes.length fc, .slice ra T.rules.length rc, .slice ba T.beats.length bc] 25)) X → X.heap[w.heap.size]? = some (.cells #[.int .i64 T.lits, .slice fa T.foes.length fc, .slice ra T.rules.length rc, .slice ba T.beats.length bc] 25 (0, 0))) := hide fun X hb => (hb.block _ (loc_lt hX)).trans hX
  have HB := hide hB
  obtain ⟨e0, he⟩ : ∃ a, faultM T F = a := ⟨_, rfl⟩
  have HE := hide he
  clear h hF hB hX he
  have CW := hide works_any
  go_enter Try.func6, Try.ntmps6
  go_upto_region 1 with fail
  generalize w.alloc (.cells #[.int .i64 T.lits, .slice fa T.foes.length fc, .slice ra T.rules.length rc, .slice ba T.beats.length bc] 25) = W at *
  go_upto_region 3 with (go_at_call 7; refine (CW.out _).mono ?_; rintro _ w1 ⟨rfl, hw1⟩; have HW1 := hide hw1; clear hw1)
  obtain ⟨-, c0, c1, c2, c3⟩ := Bt.of (HXz.out _ HW1.out)
  by_cases ha : e0 = 0
  · subst ha
    obtain ⟨-, hnm, hn, hn4, hrl, hbl, hfp⟩ := fault_ok HE.out
    obtain ⟨n, hnn⟩ : ∃ n, T.lits.toNat = n := ⟨_, rfl⟩
    rw [hnn] at hnm hn hn4
    have HN := hide hnn
    have HN2 := hide hn
    have HNM := hide hnm
    have HBL := hide hbl
    have HSL : Hid ((sgM T F).length = n) := hide (by rw [sgM_len, hnn])
    have HA1 : Hid (∀ q : Nat, q < n → ((sgM T F).getD q 0 = 1 ↔ PD T F q)) := hide fun q hq => (sgM_at (by rw [hnn]; exact hq)).1
    have HA2 : Hid (∀ q : Nat, q < n → ((sgM T F).getD q 0 = 2 ↔ MD T F q)) := hide fun q hq => (sgM_at (by rw [hnn]; exact hq)).2.1
    have HA3 : Hid (∀ q : Nat, q < n → (sgM T F).getD q 0 = 0 ∨ (sgM T F).getD q 0 = 1 ∨ (sgM T F).getD q 0 = 2) := hide fun q hq => (sgM_at (by rw [hnn]; exact hq)).2.2
    have CZ := hide (neither_ok (HLz.out _ HW1.out) (HFz.out _ HW1.out) HE.out)
    have HSZ := hide (selM_in (sg := sgM T F) (i := 0))
    rw [HSL.out] at HSZ
    have hl1 := Nat.le_trans (selM_len (sg := sgM T F) (i := 0)) (by rw [HSL.out]; exact hn4 : (sgM T F).length ≤ 4096)
    generalize selM (sgM T F) 0 = SZ at *
    clear hnm hn hbl hnn hfp
    go_upto_region 4 with (go_at_call 10; refine CZ.out.mono ?_; rintro _ w3 ⟨ya, yc, rfl, hat, hw2⟩; have HA := hide hat; have HW3 := hide (HW1.out.trans (hw2.mono HW1.out.size)); clear hat hw2)
    clear c0 c1 c2 c3 CZ
    obtain ⟨-, c0, c1, c2, c3⟩ := Bt.of (HXz.out _ HW3.out)
    rw [HN2.out] at c0
    by_cases hn0 : n = 0
    · have hn1 : ((n : Int) == 0) = true := by simpa using hn0
      have hn2 : (n == 0) = true := by simpa using hn0
      go_wp2_with fail
      go_ret
      exact ⟨rfl, HB.out.trans (HW3.out.mono HB.out.size)⟩
    · have hn1 : ((n : Int) == 0) = false := by simpa using hn0
      have hn2 : (n == 0) = false := by simpa using hn0
      obtain ⟨qa, qi, r1, r2, r3, r4, r5⟩ := place z2 n (by omega)
      have e1 : IntKind.i64.wrap qa = qa := by rw [IntKind.wrap_i64]; omega
      have e2 : IntKind.i64.wrap (qa + n) = qa + n := by rw [IntKind.wrap_i64]; omega
      have e3 : IntKind.i64.wrap (qi : Int) = qi := by rw [IntKind.wrap_i64]; omega
      have hni : ¬ (n : Int) = 0 := by omega
      go_upto_region 6 with fail
      go_quiet (fail)
      have HBq : Hid (Below W.heap.size W (w3.drewN nq)) := hide (HW3.out.trans ((below_drewN w3 nq).mono HW3.out.size))
      have HAb := hide (HA.out.below (below_drewN w3 nq))
      clear HA c0 c1 c2 c3 r1 r2 r3 r4 e1 e2 e3 hni hn1 hn2
      generalize w3.drewN nq = B0 at *
      obtain ⟨-, c0, c1, c2, c3⟩ := Bt.of (HXz.out _ HBq.out)
      rw [HN2.out] at c0
      have CK := hide (marked_any (c := yc) HAb.out hn4 (by omega) HSZ.out.1 HSZ.out.2.1)
      go_upto_region 8 with (go_at_call 11; refine CK.out.mono ?_; rintro _ w5 ⟨nr, Nm0, rfl, hmk, hpf, -, hw5⟩; have HMN := hide hmk; have HNF := hide hpf; have HW5 := hide (HBq.out.trans (hw5.mono HBq.out.size)); clear hmk hpf hw5)
      clear c0 c1 c2 c3 CK
      obtain ⟨-, c0, c1, c2, c3⟩ := Bt.of (HXz.out _ HW5.out)
      rw [HN2.out] at c0
      have HNO : Hid (∀ z : Nat, z < n → (Nm0.getD z false = true ↔ (sgM T F).getD z 0 = 0)) := hide fun z hz => by rw [HMN.out.at_ z hz, decide_eq_true_eq]; exact HSZ.out.2.2 z hz
      have hNv : tv T fa fc ra rc ba bc = .agg #[.int .i64 (n : Int), .slice fa T.foes.length fc, .slice ra T.rules.length rc, .slice ba T.beats.length bc] := by unfold tv; rw [HN2.out]
      have CL := hide (loop_any (lit := (qi : Int)) (HLz.out _ HW5.out) (HFz.out _ HW5.out))
      rw [hNv] at CL
      clear hNv
      by_cases hs : (sgM T F).getD qi 0 = 0
      · have CLy : Hid (Calls Try.prog 13 #[.agg #[.int .i64 (n : Int), .slice fa T.foes.length fc, .slice ra T.rules.length rc, .slice ba T.beats.length bc], .slice ea F.length ec, .int .i64 qi] w5 fun e w' => ∃ (L : List Int) (m ln : Nat) (xa : Option Addr) (xc : Nat), ln = m + 1 ∧ e = .returned (.tuple #[.slice xa ln xc, .int .i64 0]) ∧ Lfx n (sgM T F) T L m qi ∧ At1 w' xa (ints L) ∧ Below w5.heap.size w5 w') := hide (by
          refine CL.out.mono ?_
          rintro e w' ⟨hd, hb⟩
          rcases hd with h | h | h | ⟨-, -, -, P, q, seen, xa, xc, rfl, hlq, hin, ho⟩
          · exact absurd HE.out h.1
          · exact absurd ⟨by omega, by rw [HN2.out]; omega⟩ h.2.1
          · exact absurd (by rw [gi_nat]; exact hs) h.2.2.1
          · rw [HN.out] at hlq
            exact ⟨P ++ [q], P.length, P.length + 1, xa, xc, rfl, by simp, Lfx.of HA1.out HA2.out HA3.out HNM.out hlq hin, owns_at1 ho, hb⟩)
        have hnt := (HNO.out qi r5).2 hs
        have HS := hide hs
        clear CL hs
        go_upto_region 9 with (go_at_call 13; refine CLy.out.mono ?_; rintro _ w6 ⟨L, m, ln, xa, xc, hlm, rfl, hlf, hat, hw6⟩; have HLF := hide hlf; have HLA := hide hat; have HLM := hide hlm; have HW6 := hide (HW5.out.trans (hw6.mono HW5.out.size)); have HNF6 := hide (HNF.out.keep (hw6.block _ HNF.out.lt)); clear hlf hat hlm hw6)
        clear c0 c1 c2 c3 CLy HNF
        obtain ⟨-, c0, c1, c2, c3⟩ := Bt.of (HXz.out _ HW6.out)
        rw [HN2.out] at c0
        have cn := HNF6.out.get (bool_at (R := Nm0) (k := qi) (by rw [HMN.out.ln]; exact r5))
        rw [hnt] at cn
        obtain ⟨gl, ol, el, cx⟩ := HLA.out.get HLF.out.hd
        subst el
        have hm1 := HLF.out.m1
        have hmn := HLF.out.mn
        have hlm := HLM.out
        have d1 : decide ((ln : Int) < 2) = false := by simp; omega
        have d2 : decide (ln < 2) = false := by simp; omega
        have d3 : decide ((n : Int) + 1 < ln) = false := by simp; omega
        have d4 : IntKind.i64.wrap ((n : Int) + 1) = (n : Int) + 1 := by rw [IntKind.wrap_i64]; omega
        have d5 : (0 : Nat) < ln := by omega
        have cx0 : w6.cell? ⟨gl, ol, none⟩ = some (.int .i64 qi) := cx
        clear cx hlm
        have hm := fun X => run_make_fix (P := Try.prog) Try.underlying31 hiB zB0 zB1 rfl n (by rw [zB2]; omega) (by unfold maxLen; omega) X
        go_upto_region 15 with fail
        have hA := below_new w6 (.cells (Array.replicate n (.bool false)) 4)
        have HSF : Hid (Fx w6.heap.size 4 (bools (List.replicate n false)) (w6.alloc (.cells (Array.replicate n (.bool false)) 4))) := hide (by unfold Fx; rw [heap_alloc_new, bools_rep])
        have HBs := hide hA
        generalize w6.alloc (.cells (Array.replicate n (.bool false)) 4) = w7 at *
        clear hA hm c0 c1 c2 c3 cn cx0 d1 d2 d3 d4 d5 hnt hm1 hmn
        have hlnb : ln ≤ 4097 := by have := HLM.out; have := HLF.out.mn; omega
        go_loopw [14] (fun x wr => ∃ (k : Nat) (R : List Bool), k ≤ ln ∧ x = .int .i64 k ∧ Hid (R.length = n ∧ ∀ z : Nat, z < n → (R.getD z false = true ↔ (z : Int) ∈ L.take k)) ∧ Hid (Fx w6.heap.size 4 (bools R) wr) ∧ Hid (Below w6.heap.size w6 wr)) (fun x _ => ln - (intOf x).toNat)
        case atStart => exact ⟨0, _, by omega, rfl, hide ⟨by simp, fun z hz => by rw [repF]; simp⟩, HSF, HBs⟩
        case round =>
          clear HSF HBs
          obtain ⟨k, R, hk, rfl, HR, HSF, HBs⟩ := hrel
          have HWr := hide (HW6.out.trans (HBs.out.mono HW6.out.size))
          by_cases hlt : k < ln
          · obtain ⟨x, hx⟩ := get_at (l := L) (i := k) (by rw [HLF.out.len, ← HLM.out]; exact hlt)
            obtain ⟨xm, rfl, hxn, hx0⟩ := HLF.out.al x (List.mem_of_getElem? hx)
            have HLr := hide (HLA.out.below HBs.out)
            obtain ⟨ga, oa, ea, cx⟩ := HLr.out.get hx
            cases ea
            have HNr := hide (HNF6.out.keep (HBs.out.block _ HNF6.out.lt))
            have cn := HNr.out.get (bool_at (R := Nm0) (k := xm) (by rw [HMN.out.ln]; exact hxn))
            rw [(HNO.out xm hxn).2 hx0] at cn
            have cs := HSF.out.get (bool_at (R := R) (k := xm) (by rw [HR.out.1]; exact hxn))
            have HLT := hide hlt
            have HX2 := hide hx
            obtain ⟨-, c0, c1, c2, c3⟩ := Bt.of (HXz.out _ HWr.out)
            rw [HN2.out] at c0
            have HR2 : Hid ((R.set xm true).length = n ∧ ∀ z : Nat, z < n → ((R.set xm true).getD z false = true ↔ (z : Int) ∈ L.take (k + 1))) := hide ⟨by rw [List.length_set]; exact HR.out.1, fun z hz => by
              rw [getD_set (by rw [HR.out.1]; exact hxn), take_snoc hx]
              by_cases e : z = xm
              · simp [e]
              · rw [if_neg e, HR.out.2 z hz]
                have : (z : Int) ≠ xm := by omega
                simp [this]⟩
            have hsb : R.getD xm false = decide (k = m) := by
              by_cases e : k = m
              · have := HLF.out.od _ (by rw [← e]; exact hx)
                rw [← e] at this
                rw [(HR.out.2 xm hxn).2 this]; simp [e]
              · have h1 := HLF.out.nw k _ (by have := HLM.out; omega) hx
                have h2 : R.getD xm false = false := Bool.eq_false_iff.2 fun h => h1 ((HR.out.2 xm hxn).1 h)
                rw [h2]; simp [e]
            rw [hsb] at cs
            have d1 : decide ((xm : Int) < 0) = false := decide_eq_false (by omega)
            have d2 : decide ((n : Int) ≤ (xm : Int)) = false := by simp; omega
            have d2n : decide (n ≤ xm) = false := decide_eq_false (by omega)
            have el : IntKind.i64.wrap ((ln : Int) - 1) = (m : Int) := by have := HLM.out; have := HLF.out.mn; rw [IntKind.wrap_i64]; omega
            clear hx hx0 hsb
            by_cases hk0 : k = 0
            · have e1 : decide (0 < (k : Int)) = false := by simp; omega
              have e2 : decide (0 < k) = false := by simp; omega
              have e3 : ((k : Int) == (m : Int)) = false := by have := HLF.out.m1; simp; omega
              have e4 : decide (k = m) = false := by have := HLF.out.m1; simp; omega
              have e5 : (k == m) = false := by have := HLF.out.m1; simp; omega
              rw [e4] at cs
              have HK0 := hide hk0
              clear hk0
              go_upto_region 17 with fail
              go_big_quiet (fail)
              have HYb : Hid (Below wr.heap.size wr (wr.drewN nq)) := hide (below_drewN wr nq)
              have HSy := hide (HSF.out.keep (HYb.out.block _ HSF.out.lt))
              have HBy := hide (HBs.out.trans (HYb.out.mono HBs.out.size))
              have cx2 := cell_up cx HYb.out
              have cs2 := cell_up cs HYb.out
              have fs := HSy.out.frz xm
              have HS2 : Hid (Fx w6.heap.size 4 (bools (R.set xm true)) (World.setCell (wr.drewN nq) ⟨w6.heap.size, xm, none⟩ (.bool true))) := hide (by rw [← bools_set]; exact HSy.out.set xm _)
              have HB2 := hide (HBy.out.setCell (p := ⟨w6.heap.size, xm, none⟩) (Nat.le_refl _) (.bool true))
              go_wp2_with fail
              go_roundw
              case rel => exact ⟨k + 1, _, by have := HLT.out; omega, by go_num, HR2, HS2, HB2⟩
              case measure => have := HLT.out; simp [intOf]; omega
            · obtain ⟨j, hj⟩ : ∃ j, k = j + 1 := ⟨k - 1, by omega⟩
              obtain ⟨y, hy⟩ := get_at (l := L) (i := j) (by have := HLF.out.len; have := HLM.out; omega)
              obtain ⟨ym, rfl, hyn, -⟩ := HLF.out.al y (List.mem_of_getElem? hy)
              have HLD := hide (HLF.out.ld j _ _ hy (by rw [← hj]; exact HX2.out))
              obtain ⟨gb, ob, eb, cy⟩ := HLr.out.get hy
              cases eb
              have e1 : decide (0 < (k : Int)) = true := by simp; omega
              have e2 : decide (0 < k) = true := by simp; omega
              have ek : IntKind.i64.wrap ((k : Int) - 1) = (j : Int) := by have := HLM.out; have := HLF.out.mn; rw [IntKind.wrap_i64]; omega
              have hjl : j < ln := by omega
              obtain ⟨bb, hbb⟩ : ∃ b, decide (k = m) = b := ⟨_, rfl⟩
              have e3 : ((k : Int) == (m : Int)) = bb := by rw [← hbb]; by_cases e : k = m <;> simp [e] <;> omega
              have e5 : (k == m) = bb := by rw [← hbb]; by_cases e : k = m <;> simp [e]
              rw [hbb] at cs
              have hNv : tv T fa fc ra rc ba bc = .agg #[.int .i64 (n : Int), .slice fa T.foes.length fc, .slice ra T.rules.length rc, .slice ba T.beats.length bc] := by unfold tv; rw [HN2.out]
              have C : Hid (∀ X, Below wr.heap.size wr X → Calls Try.prog 14 #[.agg #[.int .i64 (n : Int), .slice fa T.foes.length fc, .slice ra T.rules.length rc, .slice ba T.beats.length bc], .int .i64 ym, .int .i64 xm] X fun e w' => e = .returned (.bool true) ∧ Below X.heap.size X w') := hide fun X hX => by
                rw [← hNv]
                exact leads_any (HLz.out _ (HWr.out.trans (hX.mono HWr.out.size))) HBL.out hrl HLD.out
              have HT : Sl wr ⟨w.heap.size, 0, none⟩ ⟨w.heap.size, 1, none⟩ ⟨w.heap.size, 2, none⟩ ⟨w.heap.size, 3, none⟩ ⟨gl, ol + k, none⟩ ⟨gl, ol + j, none⟩ ⟨nr, xm, none⟩ ⟨w6.heap.size, xm, none⟩ (.int .i64 n) (.slice fa T.foes.length fc) (.slice ra T.rules.length rc) (.slice ba T.beats.length bc) (.int .i64 xm) (.int .i64 ym) (.bool true) (.bool bb) wr := ⟨c0, c1, c2, c3, cx, cy, cn, cs, Below.refl _ _⟩
              clear hj hy hk0 hbb hNv
              go_upto_region 17 with fail
              go_region_held3 (fun X : World => Sl wr ⟨w.heap.size, 0, none⟩ ⟨w.heap.size, 1, none⟩ ⟨w.heap.size, 2, none⟩ ⟨w.heap.size, 3, none⟩ ⟨gl, ol + k, none⟩ ⟨gl, ol + j, none⟩ ⟨nr, xm, none⟩ ⟨w6.heap.size, xm, none⟩ (.int .i64 n) (.slice fa T.foes.length fc) (.slice ra T.rules.length rc) (.slice ba T.beats.length bc) (.int .i64 xm) (.int .i64 ym) (.bool true) (.bool bb) X) (first | exact Sl.drew ‹_› | assumption | exact Sl.below ‹_› ‹_›) (first | (go_at_call 14; refine (C.out _ (Sl.b ‹_›)).mono ?_; rintro e w' ⟨rfl, hb⟩))
              rename_i hS4
              have HYb : Hid (Below wr.heap.size wr w') := hide (Sl.b hS4)
              have HSy := hide (HSF.out.keep (HYb.out.block _ HSF.out.lt))
              have HBy := hide (HBs.out.trans (HYb.out.mono HBs.out.size))
              have cx2 := cell_up cx HYb.out
              have cs2 := cell_up cs HYb.out
              have fs := HSy.out.frz xm
              have HS2 : Hid (Fx w6.heap.size 4 (bools (R.set xm true)) (World.setCell w' ⟨w6.heap.size, xm, none⟩ (.bool true))) := hide (by rw [← bools_set]; exact HSy.out.set xm _)
              have HB2 := hide (HBy.out.setCell (p := ⟨w6.heap.size, xm, none⟩) (Nat.le_refl _) (.bool true))
              clear hS4 HT
              go_wp2_with fail
              go_roundw
              case rel => exact ⟨k + 1, _, by have := HLT.out; omega, by go_num, HR2, HS2, HB2⟩
              case measure => have := HLT.out; simp [intOf]; omega
          · have hkn : ln = k := by omega
            subst hkn
            clear hlt
            go_wp2_with fail
            go_ret
            exact ⟨rfl, HB.out.trans (HWr.out.mono HB.out.size)⟩
      · have CLn : Hid (Calls Try.prog 13 #[.agg #[.int .i64 (n : Int), .slice fa T.foes.length fc, .slice ra T.rules.length rc, .slice ba T.beats.length bc], .slice ea F.length ec, .int .i64 qi] w5 fun e w' => e = .returned (.tuple #[.slice none 0 0, .int .i64 203]) ∧ Below w5.heap.size w5 w') := hide (by
          refine CL.out.mono ?_
          rintro e w' ⟨hd, hb⟩
          rcases hd with h | h | h | h
          · exact absurd HE.out h.1
          · exact absurd ⟨by omega, by rw [HN2.out]; omega⟩ h.2.1
          · exact ⟨h.2.2.2, hb⟩
          · exact absurd (by have := h.2.2.1; rw [gi_nat] at this; exact this) hs)
        have hnt : Nm0.getD qi false = false := Bool.eq_false_iff.2 fun h => hs ((HNO.out qi r5).1 h)
        clear CL hs
        go_upto_region 9 with (go_at_call 13; refine CLn.out.mono ?_; rintro _ w6 ⟨rfl, hw6⟩; have HW6 := hide (HW5.out.trans (hw6.mono HW5.out.size)); have HNF6 := hide (HNF.out.keep (hw6.block _ HNF.out.lt)); clear hw6)
        clear c0 c1 c2 c3 CLn HNF
        have cn := HNF6.out.get (bool_at (R := Nm0) (k := qi) (by rw [HMN.out.ln]; exact r5))
        rw [hnt] at cn
        go_wp2_with fail
        go_ret
        exact ⟨rfl, HB.out.trans (HW6.out.mono HB.out.size)⟩
  · have hab2 : (e0 != 0) = true := by simpa using ha
    have CN := hide (neither_no (HLz.out _ HW1.out) (HFz.out _ HW1.out) HE.out ha)
    go_wp2_with (go_at_call 10; refine CN.out.mono ?_; rintro _ w3 ⟨rfl, hw3⟩; have HW3 := hide (HW1.out.trans (hw3.mono HW1.out.size)); clear hw3)
    go_ret
    exact ⟨rfl, HB.out.trans (HW3.out.mono HB.out.size)⟩
end Go.Proofs.Ytdholifacnnjcaa
