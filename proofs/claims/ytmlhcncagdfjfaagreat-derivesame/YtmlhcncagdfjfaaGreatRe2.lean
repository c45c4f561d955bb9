import Derived.Test.YtmlhcncagdfjfaaGreatDrP
import Derived.Test.YtmlhcncagdfjfaaGreatCnq
import Derived.Test.YtmlhcncagdfjfaaGreatLnD
import Derived.Test.YtmlhcncagdfjfaaGreatDrX
namespace Go.Proofs.YtmlhcncagdfjfaaGreat.De
open Go.RowKit Fa
def pairT : Th := ⟨2, [[1], [0]], [⟨2, 0, []⟩, ⟨2, 1, []⟩], [[1], []]⟩
def dJ (x : Int × Int) : List (Int × Int) → Nat → Int
 | [], _ => -1
 | y :: l, k => if y = x then (k : Int) else dJ x l (k + 1)
def vG (l : List (Int × Int)) : Bool := (List.range l.length).all fun i => match l[i]? with
 | some x => bh pairT [] (jx 2 (dK (l.take i))) x.2 x.1
 | none => true
def iu : List StM := [⟨2, 1, 3, -1, []⟩, ⟨3, 0, 2, 0, [(-1, 0)]⟩]
def pairS : List (Int × Int) := dF [6, 10] 2
def xk (l : List (Int × Int)) : Bool := !(decide l.Nodup && vG l) || (decide (0 ≤ dJ (0, 3) l 0) && decide (jt pairT (dE pairT [] 2 (fun _ => 0) (l.take ((dJ (0, 3) l 0).toNat + 1))) = iu) && decide (dJ (1, 3) l 0 = -1))
def wL : Bool := pairS.all fun a => pairS.all fun b => pairS.all fun c => pairS.all fun d => xk [a, b, c, d]
theorem ri : wL = true := by kernel_rfl
theorem iq : dS pairT [] = 0 := by kernel_rfl
theorem uO : gA pairT [] [6, 10] 2 := ⟨by kernel_rfl, by kernel_rfl⟩
theorem wy : pairS.length = 4 := by kernel_rfl
theorem ns {m : List Int} {k : Nat} {td : List (Int × Int)} (hs : gA pairT [] m k) (ht : Tld pairT [] 2 td) (hn : td.Nodup) (hm : ∀ x, x ∈ td ↔ x ∈ dF m 2) :
    0 ≤ dJ (0, 3) td 0 ∧ jt pairT (dE pairT [] 2 (fun _ => 0) (td.take ((dJ (0, 3) td 0).toNat + 1))) = iu ∧ dJ (1, 3) td 0 = -1 := by
 have e : m = [6, 10] := yx hs uO
 subst e
 have hl : td.length = 4 := by
  rw [← wy]
  exact Nat.le_antisymm (gN hn fun x hx => (hm x).1 hx) (gN lU fun x hx => (hm x).2 hx)
 have Aa : vG td = true := by
  unfold vG
  rw [List.all_eq_true]
  intro i _
  cases h : td[i]? with
  | none => rfl
  | some x =>
   obtain ⟨q, h1, -, -, -, h2, -⟩ := ht.step i x h
   show bh pairT [] _ x.2 x.1 = true
   rw [h1]
   exact h2
 match td, hl with
 | [a, b, c, d], _ =>
  have ha := (hm a).1 (by simp)
  have hb := (hm b).1 (by simp)
  have hc := (hm c).1 (by simp)
  have hd := (hm d).1 (by simp)
  have h1 := List.all_eq_true.1 ri a ha
  have h2 := List.all_eq_true.1 h1 b hb
  have h3 := List.all_eq_true.1 h2 c hc
  have h4 := List.all_eq_true.1 h3 d hd
  unfold xk at h4
  rw [Aa, decide_eq_true hn] at h4
  simp only [Bool.and_true, Bool.not_true, Bool.false_or, Bool.and_eq_true, decide_eq_true_eq] at h4
  exact ⟨h4.1.1, h4.1.2, h4.2⟩
set_option maxRecDepth 100000
set_option maxHeartbeats 3200000
theorem tB {x y : Int × Int} {l : List (Int × Int)} {k i : Nat} (h : l[k]? = some y) : dJ x (l.drop k) i = if y = x then (i : Int) else dJ x (l.drop (k + 1)) (i + 1) := by rw [bf h]; rfl
theorem rT {x : Int × Int} : ∀ {l : List (Int × Int)} {k : Nat}, dJ x l k = -1 ∨ ∃ i : Nat, dJ x l k = ((k + i : Nat) : Int) ∧ l[i]? = some x
 | [], _ => .inl rfl
 | y :: l, k => by
  unfold dJ
  by_cases h : y = x
  · rw [if_pos h]
    exact .inr ⟨0, by simp, by simp [h]⟩
  · rw [if_neg h]
    rcases rT (x := x) (l := l) (k := k + 1) with h2 | ⟨i, h2, h3⟩
    · exact .inl h2
    · exact .inr ⟨i + 1, by rw [h2]; congr 1; omega, by simpa using h3⟩
theorem si {w : World} {oa : Option Addr} {od : List (Int × Int)} {oc : Nat} {x1 x2 : Int} (h : Prow w oa od) (hl : od.length ≤ 140737488351232) :
    Calls Tryz.prog 94 #[.slice oa od.length oc, .agg #[.int .i64 x1, .int .i64 x2]] w fun e w' => e = .returned (.int .i64 (dJ (x1, x2) od 0)) ∧ Below w.heap.size w w' := by
 have hB := ac w (.cells #[.int .i64 x1, .int .i64 x2] 85)
 have hQ : Fx w.heap.size 85 [.int .i64 x1, .int .i64 x2] (w.alloc (.cells #[.int .i64 x1, .int .i64 x2] 85)) := heap_alloc_new w _
 have HP := hide (h.go hB)
 have HB := hide hB
 have HQ := hide hQ
 obtain ⟨o, ho⟩ : ∃ o, dJ (x1, x2) od 0 = o := ⟨_, rfl⟩
 rw [ho]
 have HO : Hid (dJ (x1, x2) (od.drop 0) 0 = o) := hide (by rw [List.drop_zero]; exact ho)
 clear h hB hQ ho
 go_enter Tryz.func94, Tryz.ntmps94
 go_upto_region 1 with fail
 generalize w.alloc (.cells #[.int .i64 x1, .int .i64 x2] 85) = w1 at *
 obtain ⟨b, hb⟩ : ∃ b, w.heap.size = b := ⟨_, rfl⟩
 rw [hb] at HQ ⊢
 clear hb
 go_wp2_with fail
 go_loopw [8] (fun x wr => ∃ k : Nat, k ≤ od.length ∧ x = .int .i64 k ∧ Hid (dJ (x1, x2) (od.drop k) k = o) ∧ Hid (∃ q, wr = w1.drewN q)) (fun x _ => od.length - (intOf x).toNat)
 case atStart => exact ⟨0, by omega, rfl, HO, hide ⟨0, rfl⟩⟩
 case round =>
  clear HO
  obtain ⟨k, hk, rfl, HO, HW⟩ := hrel
  have Aa : Hid (Below w.heap.size w wr) := hide (by obtain ⟨q, rfl⟩ := HW.out; exact HB.out.trans ((ak w1 q).mono HB.out.size))
  by_cases hlt : k < od.length
  · obtain ⟨⟨y1, y2⟩, hy⟩ := am hlt
    obtain ⟨g, rfl, j0, j1⟩ := HP.out k _ hy
    have Ad : wr.cell? ⟨g, k * 2, none⟩ = some (.int .i64 y1) := by obtain ⟨q, rfl⟩ := HW.out; exact j0
    have Ac : wr.cell? ⟨g, k * 2 + 1, none⟩ = some (.int .i64 y2) := by obtain ⟨q, rfl⟩ := HW.out; exact j1
    have Af : wr.cell? ⟨b, 0, none⟩ = some (.int .i64 x1) := by obtain ⟨q, rfl⟩ := HW.out; exact HQ.out.get (i := 0) rfl
    have Ae : wr.cell? ⟨b, 1, none⟩ = some (.int .i64 x2) := by obtain ⟨q, rfl⟩ := HW.out; exact HQ.out.get (i := 1) rfl
    have HS := hide (tB (x := (x1, x2)) (i := k) hy)
    clear j0 j1 hy
    by_cases hs : x1 = y1 ∧ x2 = y2
    · obtain ⟨rfl, rfl⟩ := hs
      have HE : Hid (o = (k : Int)) := hide (by rw [← HO.out, HS.out, if_pos rfl])
      clear HS HO
      go_wp2_with fail
      go_quiet (fail)
      go_wp2_with fail
      go_ret
      rw [HE.out]
      exact ⟨rfl, Aa.out.trans ((ak wr _).mono Aa.out.size)⟩
    · have HE : Hid (dJ (x1, x2) (od.drop (k + 1)) (k + 1) = o) := hide (by rw [← HO.out, HS.out, if_neg (fun e => hs ⟨(congrArg Prod.fst e).symm, (congrArg Prod.snd e).symm⟩)])
      clear HS HO
      by_cases hs1 : x1 = y1
      · subst hs1
        have Ab : (x2 == y2) = false := beq_eq_false_iff_ne.2 fun e => hs ⟨rfl, e⟩
        go_wp2_with fail
        go_quiet (fail)
        go_wp2_with fail
        go_roundw
        case rel => exact ⟨k + 1, by omega, by go_num, HE, hide (by obtain ⟨q, rfl⟩ := HW.out; exact ⟨_, World.drewN_drewN _ _ _⟩)⟩
        case measure => simp [intOf]; omega
      · have Ab : (x1 == y1) = false := beq_eq_false_iff_ne.2 hs1
        go_wp2_with fail
        go_quiet (fail)
        go_wp2_with fail
        go_roundw
        case rel => exact ⟨k + 1, by omega, by go_num, HE, hide (by obtain ⟨q, rfl⟩ := HW.out; exact ⟨_, World.drewN_drewN _ _ _⟩)⟩
        case measure => simp [intOf]; omega
  · have HE : Hid (o = -1) := hide (by rw [← HO.out, List.drop_eq_nil_of_le (by omega)]; rfl)
    clear HO
    go_wp2_with fail
    go_ret
    rw [HE.out]
    exact ⟨rfl, Aa.out⟩
theorem oQ {T : Th} {F : List Int} {n : Nat} : ∀ {l : List (Int × Int)} {f : Int → Int}, (dE T F n f l).length = l.length
 | [], f => rfl
 | x :: l, f => by unfold dE; rw [List.length_cons, oQ, List.length_cons]
theorem oT {T : Th} {F : List Int} {n : Nat} {s : StM} : ∀ {l : List (Int × Int)} {f : Int → Int}, s ∈ dE T F n f l → ∃ f' x, x ∈ l ∧ s = fM T F f' x.1 x.2
 | [], f, h => by cases h
 | x :: l, f, h => by
  unfold dE at h
  rcases List.mem_cons.1 h with h | h
  · exact ⟨f, x, List.mem_cons_self .., h⟩
  · obtain ⟨f', y, h1, h2⟩ := oT h
    exact ⟨f', y, List.mem_cons_of_mem _ h1, h2⟩
theorem qF {T : Th} {f : Int → Int} {q : Int} : ∀ {l : List Int}, (dz T f q l).1 = 5
 | [] => rfl
 | x :: l => by
  unfold dz
  split
  · rfl
  · exact qF
theorem tL {T : Th} {F : List Int} {f : Int → Int} {q t : Int} : 1 ≤ (en T F f q t).1 ∧ (en T F f q t).1 ≤ 5 := by
 unfold en rsPD rsMD rsPP rsMP
 repeat' split
 all_goals first
  | (rw [qF]; omega)
  | (simp only; omega)
  | decide
theorem qp {m : List Int} : ∀ {k : Nat}, (dF m k).length ≤ 4 * k
 | 0 => by simp [dF]
 | k + 1 => by
  unfold dF
  rw [List.length_append]
  have h1 := qp (m := m) (k := k)
  have h2 : (kH m k).length ≤ 4 := by
   unfold kH
   rw [List.length_map]
   exact Nat.le_trans (List.length_filter_le _ _) (by simp [tags])
  omega
set_option maxRecDepth 100000
set_option maxHeartbeats 25600000
theorem uR {m : List Int} {n : Nat} {td : List (Int × Int)} (hm : ∀ x, x ∈ td ↔ x ∈ dF m n) : ∀ x ∈ td, ∃ (q j : Nat), x = ((q : Int), (j : Int) + 1) ∧ q < n ∧ j < 4 := by
 intro x hx
 obtain ⟨q, h1, h2, h3, -⟩ := fd.1 ((hm x).1 hx)
 rcases h3 with h | h | h | h
 · exact ⟨q, 0, Prod.ext h2 (by rw [h]; rfl), h1, by omega⟩
 · exact ⟨q, 1, Prod.ext h2 (by rw [h]; rfl), h1, by omega⟩
 · exact ⟨q, 2, Prod.ext h2 (by rw [h]; rfl), h1, by omega⟩
 · exact ⟨q, 3, Prod.ext h2 (by rw [h]; rfl), h1, by omega⟩
theorem xN {T : Th} {F : List Int} {n : Nat} {f : Int → Int} {td : List (Int × Int)} (hT : T.rules.length ≤ 4096) (ho : ∀ x ∈ td, ∃ (q j : Nat), x = ((q : Int), (j : Int) + 1) ∧ q < n ∧ j < 4) : ∀ s ∈ dE T F n f td, (∃ q j : Nat, s.lit = (q : Int) ∧ s.tag = (j : Int) ∧ q < n ∧ 1 ≤ j ∧ j ≤ 4) ∧ s.ch.length ≤ 4096 ∧ vK s := by
 intro s hs
 obtain ⟨f', x, hx, rfl⟩ := oT hs
 obtain ⟨q, j, rfl, hq, hj⟩ := ho x hx
 have hl := oO (T := T) (F := F) (f := f') (q := (q : Int)) (t := (j : Int) + 1) hT
 have hh := tL (T := T) (F := F) (f := f') (q := (q : Int)) (t := (j : Int) + 1)
 refine ⟨⟨q, j + 1, rfl, by show (j : Int) + 1 = ((j + 1 : Nat) : Int); omega, hq, by omega, by omega⟩, hl, Nat.le_trans hl (by decide), ?_, ?_⟩
 · show eC ((j : Int) + 1)
   unfold eC
   omega
 · show eC (en T F f' (q : Int) ((j : Int) + 1)).1
   unfold eC
   omega
theorem tG {m : List Int} {n : Nat} {td : List (Int × Int)} (hn : td.Nodup) (hm : ∀ x, x ∈ td ↔ x ∈ dF m n) : td.length ≤ 4 * n := Nat.le_trans (gN hn fun x hx => (hm x).1 hx) qp
theorem oX {w : World} {a : Option Addr} {l : List (Int × Int)} {n : Nat} (h : Prow w a l) : Prow w a (l.take n) := by
 intro i x hx
 rw [List.getElem?_take] at hx
 split at hx
 · exact h i x hx
 · cases hx
section
variable {w : World} {T : Th} {F : List Int} {fa ra ba ea : Option Addr} {fc rc bc ec : Nat}
theorem o7 (h : TA w.heap.size w T fa fc ra rc ba bc) (hF : Ints w.heap.size w F (.slice ea F.length ec)) (h0 : dS T F = 0) {q : Nat} (hq : q < T.lits.toNat) {t : Int} (ht : au t) :
    Calls Tryz.prog 54 #[tv T fa fc ra rc ba bc, .slice ea F.length ec, .int .i64 (q : Int), .int .i64 t] w fun e w' => (∃ td m k, (gA T F m k ∧ Tld T F T.lits.toNat td ∧ td.Nodup ∧ ∀ x, x ∈ td ↔ x ∈ dF m T.lits.toNat) ∧
     ((dJ ((q : Int), t) td 0 = -1 ∧ e = .returned (.tuple #[.slice none 0 0, .int .i64 203])) ∨ ∃ (i : Nat) (v : Value), dJ ((q : Int), t) td 0 = (i : Int) ∧ e = .returned (.tuple #[v, .int .i64 0]) ∧ Gy 32 5 jn w.heap.size (jt T (dE T F T.lits.toNat (fun _ => 0) (td.take (i + 1)))) v w')) ∧ Below w.heap.size w w' := by
 have hB := ac w (.cells #[.int .i64 T.lits, .slice fa T.foes.length fc, .slice ra T.rules.length rc, .slice ba T.beats.length bc] 25)
 have hX := heap_alloc_new w (.cells #[.int .i64 T.lits, .slice fa T.foes.length fc, .slice ra T.rules.length rc, .slice ba T.beats.length bc] 25)
 have Bh : Tryz.prog.follows .mixedOrders = true := by kernel_rfl
 have CF := hide (m9 (TR.go hB h) (Ints.go hB hF))
 rw [h0] at CF
 have hp := sR h0
 have Ak := (sH hp).1
 have Ag := hide Ak
 have HP := hide hp
 have H0 := hide h0
 obtain ⟨n, hn⟩ : ∃ n, T.lits.toNat = n := ⟨_, rfl⟩
 have HN := hide hn
 rw [hn] at hq Ag HP ⊢
 have Aa : T.lits = (n : Int) := by rw [← hn]; exact Ak.ln
 have Bi : n ≤ 4096 := by rw [← hn]; exact Ak.n4
 have Bk := hide Aa
 have AN := hide h
 have HF := hide hF
 have HB := hide hB
 have HX := hide hX
 have CW := hide (fE (q : Int) T.lits)
 have AX : cJ (q : Int) T.lits = true := by unfold cJ; rw [Aa]; simp; omega
 have CT := hide (oU t)
 have AP : gd t = true := by unfold gd; rcases ht with rfl | rfl | rfl | rfl <;> rfl
 rw [AX] at CW
 rw [AP] at CT
 clear h hF hB hp h0 Ak Aa AX AP hn
 go_enter Tryz.func54, Tryz.ntmps54
 go_upto_region 1 with fail
 generalize w.alloc (.cells #[.int .i64 T.lits, .slice fa T.foes.length fc, .slice ra T.rules.length rc, .slice ba T.beats.length bc] 25) = W at *
 obtain ⟨-, c0, c1, c2, c3⟩ := Bt.of hX
 clear hX
 go_upto_region 4 with (go_at_call 31; refine CF.out.mono ?_; rintro _ w1 ⟨rfl, AG⟩; have Ah := hide (HB.out.trans (AG.mono HB.out.size)); have Ao := hide ((AG.block _ (aS HX.out)).trans HX.out); clear AG)
 clear c0 c1 c2 c3 CF
 obtain ⟨-, c0, c1, c2, c3⟩ := Bt.of Ao.out
 have CO := hide (uV (TR.go Ah.out AN.out) (Ints.go Ah.out HF.out) H0.out)
 rw [HN.out] at CO
 go_upto_region 9 with (first | (go_at_call 63; refine (CW.out _).mono ?_; rintro _ _ ⟨rfl, rfl⟩) | (go_at_call 64; refine (CT.out _).mono ?_; rintro _ _ ⟨rfl, rfl⟩) | (go_at_call 93; refine CO.out.mono ?_; rintro _ w2 ⟨td, ta, tc, m, k, rfl, ⟨AA, -, AD, AS, Au⟩, AE, Av, AH⟩; have Bf := hide Av; have HS := hide (And.intro AA (And.intro AD (And.intro AS Au))); have HO := hide AE; have AV := hide AH; have As := hide (Ah.out.trans (AH.mono Ah.out.size)); clear AA AD AS Au AE Av AH))
 have Ax := hide ((AV.out.block _ (aS Ao.out)).trans Ao.out)
 clear c0 c1 c2 c3 CO CW CT HX Ao HB Ah AV
 have AL : td.length ≤ 16384 := by have := tG HS.out.2.2.1 HS.out.2.2.2; omega
 have Aq := hide (jY (q : Int) t w2)
 have CI := hide (fun X (hb : Below w2.heap.size w2 X) => si (x1 := (q : Int)) (x2 := t) (oc := tc) (HO.out.go hb) (Nat.le_trans AL (by decide)))
 rcases rT (x := ((q : Int), t)) (l := td) (k := 0) with hi | ⟨i, hi, Aw⟩
 · have HI := hide hi
   rw [hi] at CI
   clear hi
   go_wp2_with (first | (go_at_call 42; refine Aq.out.mono ?_; rintro _ w3 ⟨rfl, Ab⟩; have Af := hide (CI.out w3 Ab); have Ai := hide (As.out.trans (Ab.mono As.out.size)); clear Ab Aq) | (go_at_call 94; refine Af.out.mono ?_; rintro _ w4 ⟨rfl, Ae⟩; have Ac := hide (Ai.out.trans (Ae.mono Ai.out.size)); clear Ae Af CI))
   go_ret2
   exact ⟨⟨td, m, k, HS.out, .inl ⟨HI.out, rfl⟩⟩, Ac.out⟩
 · rw [Nat.zero_add] at hi
   have HI := hide hi
   rw [hi] at CI
   have Bg : i < td.length := (List.getElem?_eq_some_iff.1 Aw).1
   clear hi Aw
   obtain ⟨tn, AC⟩ : ∃ z, td.length = z := ⟨_, rfl⟩
   have AQ := hide AC
   rw [AC] at CI AL Bg ⊢
   clear AC
   have Bd := Bf.out
   rw [AQ.out] at Bd
   have CN : Hid (∀ X, Below w.heap.size w X → Calls Tryz.prog 32 #[tv T fa fc ra rc ba bc, .slice ea F.length ec] X fun e w' => ∃ (S : Nat → Prop) (q g0 g1 g2 mb fm sd pq : Nat), e = .returned (ab pq) ∧ Xr S X.heap.size ⟨q, n, fa, fc, ra, rc, ba, bc, g0, g1, g2, mb⟩ T w' ∧ Pm ⟨q, n, fa, fc, ra, rc, ba, bc, g0, g1, g2, mb⟩ pq fm sd F (fun _ => 0) w' ∧ ¬ S sd ∧ X.heap.size ≤ sd ∧ Below X.heap.size X w') := hide fun X hX => by
    refine (lj (TR.go hX AN.out) (Ints.go hX HF.out) HP.out).mono ?_
    rintro e w' ⟨S, q, g0, g1, g2, mb, fm, sd, pq, rfl, hx, Ar, ⟨n1, n2, n3⟩, ⟨m1, m2, m3, m4⟩, hb⟩
    exact ⟨S, q, g0, g1, g2, mb, fm, sd, pq, rfl, hx, Ar, n1, m1, hb⟩
   go_upto_region 12 with (first | (go_at_call 42; refine Aq.out.mono ?_; rintro _ w3 ⟨rfl, Ab⟩; have Af := hide (CI.out w3 Ab); have Ai := hide (As.out.trans (Ab.mono As.out.size)); have AT := hide Ab; clear Ab Aq) | (go_at_call 94; refine Af.out.mono ?_; rintro _ w4 ⟨rfl, Ae⟩; have Ac := hide (Ai.out.trans (Ae.mono Ai.out.size)); have AK := hide (AT.out.trans (Ae.mono AT.out.size)); clear Ae Af CI))
   have AW := hide ((AK.out.block _ (aS Ax.out)).trans Ax.out)
   have AB := hide (HO.out.go AK.out)
   obtain ⟨-, c0, c1, c2, c3⟩ := Bt.of AW.out
   have CM := hide (CN.out w4 Ac.out)
   go_upto_region 13 with (go_at_call 32; refine CM.out.mono ?_; rintro _ w5 ⟨S, qx, g0, g1, g2, mb, fm, sd, pq, rfl, hx, Ar, n1, m1, AM⟩; have AI := hide hx; have Ad := hide Ar; have AR := hide n1; have At := hide m1; have Al := hide AM; clear hx Ar n1 m1 AM)
   clear c0 c1 c2 c3 CM CN AW Ax HO
   have An : (td.take (i + 1)).length = i + 1 := by rw [List.length_take, AQ.out]; omega
   have AO : Hid (∀ x ∈ td.take (i + 1), ∃ (q j : Nat), x = ((q : Int), (j : Int) + 1) ∧ q < n ∧ j < 4) := hide fun x hx => uR HS.out.2.2.2 x (List.mem_of_mem_take hx)
   have HDr := hide ((Below.refl w5.heap.size w5).drew)
   have AU : Hid (Prow w5.drew ta (td.take (i + 1))) := hide (oX (AB.out.go (Al.out.trans (HDr.out.mono Al.out.size))))
   have AF := hide (dA (T := T) (F := F) (f := fun _ => 0) (oc := tc) Ag.out (AI.out.go HDr.out) (Ad.out.go HDr.out) AR.out At.out AU.out (by rw [An]; omega) AO.out (fun g hg hne => by
    obtain ⟨y, hy⟩ := am (l := td.take (i + 1)) (i := 0) (by rw [An]; omega)
    obtain ⟨g', e, hc, -⟩ := (oX (n := i + 1) AB.out) 0 y hy
    rw [hg] at e
    cases e
    have h9 : g < w4.heap.size := World.block_lt_of_cell? _ _ hc
    have := At.out
    omega))
   rw [An] at AF
   have Am := hide (xN (T := T) (F := F) (f := fun _ => 0) Ag.out.rl AO.out)
   have Ay : Hid ((dE T F n (fun _ => 0) (td.take (i + 1))).length = i + 1) := hide (by rw [oQ, An])
   obtain ⟨L, hL⟩ : ∃ L, dE T F n (fun _ => 0) (td.take (i + 1)) = L := ⟨_, rfl⟩
   have HL := hide hL
   have AZ : Hid (Calls Tryz.prog 95 #[ab pq, .slice ta (i + 1) tc] w5.drew fun e w' => ∃ va vc, e = .returned (.slice va (i + 1) vc) ∧ Below w.heap.size w w' ∧ w'.cell? ⟨pq, 0, none⟩ = some (ab qx) ∧ Calls Tryz.prog 57 #[ab qx, .slice va (i + 1) vc] w' fun e w2 => ∃ v, e = .returned v ∧ Gy 32 5 jn w.heap.size (jt T L) v w2 ∧ Below w.heap.size w w2 ∧ w2.cell? ⟨pq, 0, none⟩ = some (ab qx)) := hide (by
    refine AF.out.mono ?_
    rintro _ w6 ⟨v, rfl, hg, hf⟩
    obtain ⟨va, vc, rfl⟩ := hg.slice
    have AJ : Fr (fun k => k = sd) w5 w6 := (Fr.of_below HDr.out).trans hf
    have Ap : Below w.heap.size w w6 := (Ac.out.trans (Al.out.mono Ac.out.size)).trans (AJ.below fun k hk => ⟨by have := Ac.out.size; have := Al.out.size; omega, fun e => by have := At.out; have := Ac.out.size; omega⟩)
    have Aa := Ay.out
    have Ba := AI.out.fr AJ fun k hk => by rw [hk]; exact ⟨AR.out, At.out⟩
    have AY : Xr S w4.heap.size ⟨qx, n, fa, fc, ra, rc, ba, bc, g0, g1, g2, mb⟩ T w6 := Ba
    have Az := vw (lc := vc) (K := ⟨qx, n, fa, fc, ra, rc, ba, bc, g0, g1, g2, mb⟩) Ag.out AY (ux hg fun s hs => (Am.out s hs).2.2) (by rw [Aa]; omega) (by rw [Aa]; omega) (fun s hs => (Am.out s hs).1) (fun s hs => Nat.le_trans (Am.out s hs).2.1 (by decide))
    rw [hL] at Aa Az ⊢
    rw [Aa] at Az ⊢
    have Aj := Ad.out.bx.keep (AJ.block _ Ad.out.bx.lt (ao Ad.out.bx Ad.out.sd (by decide)))
    refine ⟨va, vc, rfl, Ap, Aj.get (i := 0) rfl, Az.mono ?_⟩
    rintro _ w7 ⟨v, rfl, h1, h2⟩
    exact ⟨v, rfl, h1.down Ap.size, Ap.trans (h2.mono Ap.size), (Aj.keep (h2.block _ Aj.lt)).get (i := 0) rfl⟩)
   have p0 := Ad.out.bx.get (i := 0) rfl
   have e1 : IntKind.i64.wrap ((i : Int) + 1) = (i : Int) + 1 := by rw [IntKind.wrap_i64]; omega
   clear AF hL Am Ay AU AB AI Ad Ag
   go_region_held3 (fun X : World => X.cell? ⟨pq, 0, none⟩ = some (ab qx)) (first | assumption) (first | (go_at_call 95; refine AZ.out.mono ?_; rintro e w6 ⟨va, vc, rfl, Bj, Bl, Bc⟩) | (go_at_call 57; refine Bc.mono ?_; rintro e w7 ⟨v, rfl, Bb, Be, Bm⟩))
   all_goals
    go_wp2_with fail
    go_ret2
    exact ⟨⟨td, m, k, HS.out, .inr ⟨i, v, HI.out, rfl, by rw [HL.out]; exact Bb⟩⟩, Be⟩
end
end Go.Proofs.YtmlhcncagdfjfaaGreat.De
