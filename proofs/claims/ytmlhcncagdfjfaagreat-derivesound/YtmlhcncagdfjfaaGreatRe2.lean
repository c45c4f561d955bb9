import Derived.Test.YtmlhcncagdfjfaaGreatDrP
import Derived.Test.YtmlhcncagdfjfaaGreatCnq
import Derived.Test.YtmlhcncagdfjfaaGreatLnD
import Derived.Test.YtmlhcncagdfjfaaGreatDrX
namespace Go.Proofs.YtmlhcncagdfjfaaGreat.De
open Go.RowKit Fa
def pairT : Th := ⟨2, [[1], [0]], [⟨2, 0, []⟩, ⟨2, 1, []⟩], [[1], []]⟩
def d7 (x : Int × Int) : List (Int × Int) → Nat → Int
 | [], _ => -1
 | y :: l, k => if y = x then (k : Int) else d7 x l (k + 1)
def yK (l : List (Int × Int)) : Bool := (List.range l.length).all fun i => match l[i]? with
 | some x => bj pairT [] (kq 2 (d8 (l.take i))) x.2 x.1
 | none => true
def jf : List StM := [⟨2, 1, 3, -1, []⟩, ⟨3, 0, 2, 0, [(-1, 0)]⟩]
def pairS : List (Int × Int) := dY [6, 10] 2
def za (l : List (Int × Int)) : Bool := !(decide l.Nodup && yK l) || (decide (0 ≤ d7 (0, 3) l 0) && decide (ke pairT (dZ pairT [] 2 (fun _ => 0) (l.take ((d7 (0, 3) l 0).toNat + 1))) = jf) && decide (d7 (1, 3) l 0 = -1))
def wX : Bool := pairS.all fun a => pairS.all fun b => pairS.all fun c => pairS.all fun d => za [a, b, c, d]
theorem sF : wX = true := by kernel_rfl
theorem ja : bE pairT [] = 0 := by kernel_rfl
theorem wL : fX pairT [] [6, 10] 2 := ⟨by kernel_rfl, by kernel_rfl⟩
theorem xx : pairS.length = 4 := by kernel_rfl
theorem oN {m : List Int} {k : Nat} {td : List (Int × Int)} (hs : fX pairT [] m k) (ht : Tld pairT [] 2 td) (hn : td.Nodup) (hm : ∀ x, x ∈ td ↔ x ∈ dY m 2) :
    0 ≤ d7 (0, 3) td 0 ∧ ke pairT (dZ pairT [] 2 (fun _ => 0) (td.take ((d7 (0, 3) td 0).toNat + 1))) = jf ∧ d7 (1, 3) td 0 = -1 := by
 have e : m = [6, 10] := zN hs wL
 subst e
 have hl : td.length = 4 := by
  rw [← xx]
  exact Nat.le_antisymm (iD hn fun x hx => (hm x).1 hx) (iD nT fun x hx => (hm x).2 hx)
 have Aa : yK td = true := by
  unfold yK
  rw [List.all_eq_true]
  intro i _
  cases h : td[i]? with
  | none => rfl
  | some x =>
   obtain ⟨q, h1, -, -, -, h2, -⟩ := ht.step i x h
   show bj pairT [] _ x.2 x.1 = true
   rw [h1]
   exact h2
 match td, hl with
 | [a, b, c, d], _ =>
  have ha := (hm a).1 (by simp)
  have hb := (hm b).1 (by simp)
  have hc := (hm c).1 (by simp)
  have hd := (hm d).1 (by simp)
  have h1 := List.all_eq_true.1 sF a ha
  have h2 := List.all_eq_true.1 h1 b hb
  have h3 := List.all_eq_true.1 h2 c hc
  have h4 := List.all_eq_true.1 h3 d hd
  unfold za at h4
  rw [Aa, decide_eq_true hn] at h4
  simp only [Bool.and_true, Bool.not_true, Bool.false_or, Bool.and_eq_true, decide_eq_true_eq] at h4
  exact ⟨h4.1.1, h4.1.2, h4.2⟩
set_option maxRecDepth 100000
set_option maxHeartbeats 3200000
theorem vG {x y : Int × Int} {l : List (Int × Int)} {k i : Nat} (h : l[k]? = some y) : d7 x (l.drop k) i = if y = x then (i : Int) else d7 x (l.drop (k + 1)) (i + 1) := by rw [bh h]; rfl
theorem tR {x : Int × Int} : ∀ {l : List (Int × Int)} {k : Nat}, d7 x l k = -1 ∨ ∃ i : Nat, d7 x l k = ((k + i : Nat) : Int) ∧ l[i]? = some x
 | [], _ => .inl rfl
 | y :: l, k => by
  unfold d7
  by_cases h : y = x
  · rw [if_pos h]
    exact .inr ⟨0, by simp, by simp [h]⟩
  · rw [if_neg h]
    rcases tR (x := x) (l := l) (k := k + 1) with h2 | ⟨i, h2, h3⟩
    · exact .inl h2
    · exact .inr ⟨i + 1, by rw [h2]; congr 1; omega, by simpa using h3⟩
theorem tW {w : World} {oa : Option Addr} {od : List (Int × Int)} {oc : Nat} {x1 x2 : Int} (h : Prow w oa od) (hl : od.length ≤ 140737488351232) :
    Calls Tryz.prog 94 #[.slice oa od.length oc, .agg #[.int .i64 x1, .int .i64 x2]] w fun e w' => e = .returned (.int .i64 (d7 (x1, x2) od 0)) ∧ Below w.heap.size w w' := by
 have hB := ac w (.cells #[.int .i64 x1, .int .i64 x2] 85)
 have hQ : Fx w.heap.size 85 [.int .i64 x1, .int .i64 x2] (w.alloc (.cells #[.int .i64 x1, .int .i64 x2] 85)) := heap_alloc_new w _
 have HP := hide (h.go hB)
 have HB := hide hB
 have HQ := hide hQ
 obtain ⟨o, ho⟩ : ∃ o, d7 (x1, x2) od 0 = o := ⟨_, rfl⟩
 rw [ho]
 have HO : Hid (d7 (x1, x2) (od.drop 0) 0 = o) := hide (by rw [List.drop_zero]; exact ho)
 clear h hB hQ ho
 go_enter Tryz.func94, Tryz.ntmps94
 go_upto_region 1 with fail
 generalize w.alloc (.cells #[.int .i64 x1, .int .i64 x2] 85) = w1 at *
 obtain ⟨b, hb⟩ : ∃ b, w.heap.size = b := ⟨_, rfl⟩
 rw [hb] at HQ ⊢
 clear hb
 go_wp2_with fail
 go_loopw [8] (fun x wr => ∃ k : Nat, k ≤ od.length ∧ x = .int .i64 k ∧ Hid (d7 (x1, x2) (od.drop k) k = o) ∧ Hid (∃ q, wr = w1.drewN q)) (fun x _ => od.length - (intOf x).toNat)
 case atStart => exact ⟨0, by omega, rfl, HO, hide ⟨0, rfl⟩⟩
 case round =>
  clear HO
  obtain ⟨k, hk, rfl, HO, HW⟩ := hrel
  have Aa : Hid (Below w.heap.size w wr) := hide (by obtain ⟨q, rfl⟩ := HW.out; exact HB.out.trans ((al w1 q).mono HB.out.size))
  by_cases hlt : k < od.length
  · obtain ⟨⟨y1, y2⟩, hy⟩ := ap hlt
    obtain ⟨g, rfl, j0, j1⟩ := HP.out k _ hy
    have Ae : wr.cell? ⟨g, k * 2, none⟩ = some (.int .i64 y1) := by obtain ⟨q, rfl⟩ := HW.out; exact j0
    have Af : wr.cell? ⟨g, k * 2 + 1, none⟩ = some (.int .i64 y2) := by obtain ⟨q, rfl⟩ := HW.out; exact j1
    have Ad : wr.cell? ⟨b, 0, none⟩ = some (.int .i64 x1) := by obtain ⟨q, rfl⟩ := HW.out; exact HQ.out.get (i := 0) rfl
    have Ac : wr.cell? ⟨b, 1, none⟩ = some (.int .i64 x2) := by obtain ⟨q, rfl⟩ := HW.out; exact HQ.out.get (i := 1) rfl
    have HS := hide (vG (x := (x1, x2)) (i := k) hy)
    clear j0 j1 hy
    by_cases hs : x1 = y1 ∧ x2 = y2
    · obtain ⟨rfl, rfl⟩ := hs
      have HE : Hid (o = (k : Int)) := hide (by rw [← HO.out, HS.out, if_pos rfl])
      clear HS HO
      go_wp2_with fail
      go_quiet (fail)
      go_wp2_with fail
      go_ret
      rw [HE.out]
      exact ⟨rfl, Aa.out.trans ((al wr _).mono Aa.out.size)⟩
    · have HE : Hid (d7 (x1, x2) (od.drop (k + 1)) (k + 1) = o) := hide (by rw [← HO.out, HS.out, if_neg (fun e => hs ⟨(congrArg Prod.fst e).symm, (congrArg Prod.snd e).symm⟩)])
      clear HS HO
      by_cases hs1 : x1 = y1
      · subst hs1
        have Ab : (x2 == y2) = false := beq_eq_false_iff_ne.2 fun e => hs ⟨rfl, e⟩
        go_wp2_with fail
        go_quiet (fail)
        go_wp2_with fail
        go_roundw
        case rel => exact ⟨k + 1, by omega, by go_num, HE, hide (by obtain ⟨q, rfl⟩ := HW.out; exact ⟨_, World.drewN_drewN _ _ _⟩)⟩
        case measure => simp [intOf]; omega
      · have Ab : (x1 == y1) = false := beq_eq_false_iff_ne.2 hs1
        go_wp2_with fail
        go_quiet (fail)
        go_wp2_with fail
        go_roundw
        case rel => exact ⟨k + 1, by omega, by go_num, HE, hide (by obtain ⟨q, rfl⟩ := HW.out; exact ⟨_, World.drewN_drewN _ _ _⟩)⟩
        case measure => simp [intOf]; omega
  · have HE : Hid (o = -1) := hide (by rw [← HO.out, List.drop_eq_nil_of_le (by omega)]; rfl)
    clear HO
    go_wp2_with fail
    go_ret
    rw [HE.out]
    exact ⟨rfl, Aa.out⟩
theorem qB {T : Th} {F : List Int} {n : Nat} : ∀ {l : List (Int × Int)} {f : Int → Int}, (dZ T F n f l).length = l.length
 | [], f => rfl
 | x :: l, f => by unfold dZ; rw [List.length_cons, qB, List.length_cons]
theorem qe {T : Th} {F : List Int} {n : Nat} {s : StM} : ∀ {l : List (Int × Int)} {f : Int → Int}, s ∈ dZ T F n f l → ∃ f' x, x ∈ l ∧ s = gk T F f' x.1 x.2
 | [], f, h => by cases h
 | x :: l, f, h => by
  unfold dZ at h
  rcases List.mem_cons.1 h with h | h
  · exact ⟨f, x, List.mem_cons_self .., h⟩
  · obtain ⟨f', y, h1, h2⟩ := qe h
    exact ⟨f', y, List.mem_cons_of_mem _ h1, h2⟩
theorem sx {T : Th} {f : Int → Int} {q : Int} : ∀ {l : List Int}, (dU T f q l).1 = 5
 | [] => rfl
 | x :: l => by
  unfold dU
  split
  · rfl
  · exact sx
theorem vE {T : Th} {F : List Int} {f : Int → Int} {q t : Int} : 1 ≤ (eC T F f q t).1 ∧ (eC T F f q t).1 ≤ 5 := by
 unfold eC rsPD rsMD rsPP rsMP
 repeat' split
 all_goals first
  | (rw [sx]; omega)
  | (simp only; omega)
  | decide
theorem qS {m : List Int} : ∀ {k : Nat}, (dY m k).length ≤ 4 * k
 | 0 => by simp [dY]
 | k + 1 => by
  unfold dY
  rw [List.length_append]
  have h1 := qS (m := m) (k := k)
  have h2 : (lM m k).length ≤ 4 := by
   unfold lM
   rw [List.length_map]
   exact Nat.le_trans (List.length_filter_le _ _) (by simp [tags])
  omega
set_option maxRecDepth 100000
set_option maxHeartbeats 25600000
theorem xA {m : List Int} {n : Nat} {td : List (Int × Int)} (hm : ∀ x, x ∈ td ↔ x ∈ dY m n) : ∀ x ∈ td, ∃ (q j : Nat), x = ((q : Int), (j : Int) + 1) ∧ q < n ∧ j < 4 := by
 intro x hx
 obtain ⟨q, h1, h2, h3, -⟩ := fL.1 ((hm x).1 hx)
 rcases h3 with h | h | h | h
 · exact ⟨q, 0, Prod.ext h2 (by rw [h]; rfl), h1, by omega⟩
 · exact ⟨q, 1, Prod.ext h2 (by rw [h]; rfl), h1, by omega⟩
 · exact ⟨q, 2, Prod.ext h2 (by rw [h]; rfl), h1, by omega⟩
 · exact ⟨q, 3, Prod.ext h2 (by rw [h]; rfl), h1, by omega⟩
theorem A8 {T : Th} {F : List Int} {n : Nat} {f : Int → Int} {td : List (Int × Int)} (hT : T.rules.length ≤ 4096) (ho : ∀ x ∈ td, ∃ (q j : Nat), x = ((q : Int), (j : Int) + 1) ∧ q < n ∧ j < 4) : ∀ s ∈ dZ T F n f td, (∃ q j : Nat, s.lit = (q : Int) ∧ s.tag = (j : Int) ∧ q < n ∧ 1 ≤ j ∧ j ≤ 4) ∧ s.ch.length ≤ 4096 ∧ xV s := by
 intro s hs
 obtain ⟨f', x, hx, rfl⟩ := qe hs
 obtain ⟨q, j, rfl, hq, hj⟩ := ho x hx
 have hl := qy (T := T) (F := F) (f := f') (q := (q : Int)) (t := (j : Int) + 1) hT
 have hh := vE (T := T) (F := F) (f := f') (q := (q : Int)) (t := (j : Int) + 1)
 refine ⟨⟨q, j + 1, rfl, by show (j : Int) + 1 = ((j + 1 : Nat) : Int); omega, hq, by omega, by omega⟩, hl, Nat.le_trans hl (by decide), ?_, ?_⟩
 · show fw ((j : Int) + 1)
   unfold fw
   omega
 · show fw (eC T F f' (q : Int) ((j : Int) + 1)).1
   unfold fw
   omega
theorem vh {m : List Int} {n : Nat} {td : List (Int × Int)} (hn : td.Nodup) (hm : ∀ x, x ∈ td ↔ x ∈ dY m n) : td.length ≤ 4 * n := Nat.le_trans (iD hn fun x hx => (hm x).1 hx) qS
theorem qg {w : World} {a : Option Addr} {l : List (Int × Int)} {n : Nat} (h : Prow w a l) : Prow w a (l.take n) := by
 intro i x hx
 rw [List.getElem?_take] at hx
 split at hx
 · exact h i x hx
 · cases hx
section
variable {w : World} {T : Th} {F : List Int} {fa ra ba ea : Option Addr} {fc rc bc ec : Nat}
theorem qu (h : TA w.heap.size w T fa fc ra rc ba bc) (hF : Ints w.heap.size w F (.slice ea F.length ec)) (h0 : bE T F = 0) {q : Nat} (hq : q < T.lits.toNat) {t : Int} (ht : ax t) :
    Calls Tryz.prog 54 #[tv T fa fc ra rc ba bc, .slice ea F.length ec, .int .i64 (q : Int), .int .i64 t] w fun e w' => (∃ td m k, (fX T F m k ∧ Tld T F T.lits.toNat td ∧ td.Nodup ∧ ∀ x, x ∈ td ↔ x ∈ dY m T.lits.toNat) ∧
     ((d7 ((q : Int), t) td 0 = -1 ∧ e = .returned (.tuple #[.slice none 0 0, .int .i64 203])) ∨ ∃ (i : Nat) (v : Value), d7 ((q : Int), t) td 0 = (i : Int) ∧ e = .returned (.tuple #[v, .int .i64 0]) ∧ Gy 32 5 j3 w.heap.size (ke T (dZ T F T.lits.toNat (fun _ => 0) (td.take (i + 1)))) v w')) ∧ Below w.heap.size w w' := by
 have hB := ac w (.cells #[.int .i64 T.lits, .slice fa T.foes.length fc, .slice ra T.rules.length rc, .slice ba T.beats.length bc] 25)
 have hX := heap_alloc_new w (.cells #[.int .i64 T.lits, .slice fa T.foes.length fc, .slice ra T.rules.length rc, .slice ba T.beats.length bc] 25)
 have Bh : Tryz.prog.follows .mixedOrders = true := by kernel_rfl
 have CF := hide (lH (TR.go hB h) (Ints.go hB hF))
 rw [h0] at CF
 have hp := oD h0
 have As := (tX hp).1
 have Af := hide As
 have HP := hide hp
 have H0 := hide h0
 obtain ⟨n, hn⟩ : ∃ n, T.lits.toNat = n := ⟨_, rfl⟩
 have HN := hide hn
 rw [hn] at hq Af HP ⊢
 have Aa : T.lits = (n : Int) := by rw [← hn]; exact As.ln
 have Bm : n ≤ 4096 := by rw [← hn]; exact As.n4
 have Bl := hide Aa
 have AV := hide h
 have HF := hide hF
 have HB := hide hB
 have HX := hide hX
 have CW := hide (fW (q : Int) T.lits)
 have AL : cN (q : Int) T.lits = true := by unfold cN; rw [Aa]; simp; omega
 have CT := hide (qk t)
 have AU : fZ t = true := by unfold fZ; rcases ht with rfl | rfl | rfl | rfl <;> rfl
 rw [AL] at CW
 rw [AU] at CT
 clear h hF hB hp h0 As Aa AL AU hn
 go_enter Tryz.func54, Tryz.ntmps54
 go_upto_region 1 with fail
 generalize w.alloc (.cells #[.int .i64 T.lits, .slice fa T.foes.length fc, .slice ra T.rules.length rc, .slice ba T.beats.length bc] 25) = W at *
 obtain ⟨-, c0, c1, c2, c3⟩ := Bt.of hX
 clear hX
 go_upto_region 4 with (go_at_call 31; refine CF.out.mono ?_; rintro _ w1 ⟨rfl, AD⟩; have Ai := hide (HB.out.trans (AD.mono HB.out.size)); have Ao := hide ((AD.block _ (aO HX.out)).trans HX.out); clear AD)
 clear c0 c1 c2 c3 CF
 obtain ⟨-, c0, c1, c2, c3⟩ := Bt.of Ao.out
 have CO := hide (xX (TR.go Ai.out AV.out) (Ints.go Ai.out HF.out) H0.out)
 rw [HN.out] at CO
 go_upto_region 9 with (first | (go_at_call 63; refine (CW.out _).mono ?_; rintro _ _ ⟨rfl, rfl⟩) | (go_at_call 64; refine (CT.out _).mono ?_; rintro _ _ ⟨rfl, rfl⟩) | (go_at_call 93; refine CO.out.mono ?_; rintro _ w2 ⟨td, ta, tc, m, k, rfl, ⟨Au, -, AJ, AQ, Aw⟩, AI, AH, AF⟩; have Bc := hide AH; have HS := hide (And.intro Au (And.intro AJ (And.intro AQ Aw))); have HO := hide AI; have AS := hide AF; have At := hide (Ai.out.trans (AF.mono Ai.out.size)); clear Au AJ AQ Aw AI AH AF))
 have AC := hide ((AS.out.block _ (aO Ao.out)).trans Ao.out)
 clear c0 c1 c2 c3 CO CW CT HX Ao HB Ai AS
 have AK : td.length ≤ 16384 := by have := vh HS.out.2.2.1 HS.out.2.2.2; omega
 have Ak := hide (lh (q : Int) t w2)
 have CI := hide (fun X (hb : Below w2.heap.size w2 X) => tW (x1 := (q : Int)) (x2 := t) (oc := tc) (HO.out.go hb) (Nat.le_trans AK (by decide)))
 rcases tR (x := ((q : Int), t)) (l := td) (k := 0) with hi | ⟨i, hi, AG⟩
 · have HI := hide hi
   rw [hi] at CI
   clear hi
   go_wp2_with (first | (go_at_call 42; refine Ak.out.mono ?_; rintro _ w3 ⟨rfl, Ab⟩; have Ah := hide (CI.out w3 Ab); have Ag := hide (At.out.trans (Ab.mono At.out.size)); clear Ab Ak) | (go_at_call 94; refine Ah.out.mono ?_; rintro _ w4 ⟨rfl, Ae⟩; have Ac := hide (Ag.out.trans (Ae.mono Ag.out.size)); clear Ae Ah CI))
   go_ret2
   exact ⟨⟨td, m, k, HS.out, .inl ⟨HI.out, rfl⟩⟩, Ac.out⟩
 · rw [Nat.zero_add] at hi
   have HI := hide hi
   rw [hi] at CI
   have Be : i < td.length := (List.getElem?_eq_some_iff.1 AG).1
   clear hi AG
   obtain ⟨tn, Ay⟩ : ∃ z, td.length = z := ⟨_, rfl⟩
   have AO := hide Ay
   rw [Ay] at CI AK Be ⊢
   clear Ay
   have Bd := Bc.out
   rw [AO.out] at Bd
   have CN : Hid (∀ X, Below w.heap.size w X → Calls Tryz.prog 32 #[tv T fa fc ra rc ba bc, .slice ea F.length ec] X fun e w' => ∃ (S : Nat → Prop) (q g0 g1 g2 mb fm sd pq : Nat), e = .returned (aa pq) ∧ Xr S X.heap.size ⟨q, n, fa, fc, ra, rc, ba, bc, g0, g1, g2, mb⟩ T w' ∧ Pm ⟨q, n, fa, fc, ra, rc, ba, bc, g0, g1, g2, mb⟩ pq fm sd F (fun _ => 0) w' ∧ ¬ S sd ∧ X.heap.size ≤ sd ∧ Below X.heap.size X w') := hide fun X hX => by
    refine (mP (TR.go hX AV.out) (Ints.go hX HF.out) HP.out).mono ?_
    rintro e w' ⟨S, q, g0, g1, g2, mb, fm, sd, pq, rfl, hx, Aq, ⟨n1, n2, n3⟩, ⟨m1, m2, m3, m4⟩, hb⟩
    exact ⟨S, q, g0, g1, g2, mb, fm, sd, pq, rfl, hx, Aq, n1, m1, hb⟩
   go_upto_region 12 with (first | (go_at_call 42; refine Ak.out.mono ?_; rintro _ w3 ⟨rfl, Ab⟩; have Ah := hide (CI.out w3 Ab); have Ag := hide (At.out.trans (Ab.mono At.out.size)); have AP := hide Ab; clear Ab Ak) | (go_at_call 94; refine Ah.out.mono ?_; rintro _ w4 ⟨rfl, Ae⟩; have Ac := hide (Ag.out.trans (Ae.mono Ag.out.size)); have AR := hide (AP.out.trans (Ae.mono AP.out.size)); clear Ae Ah CI))
   have AN := hide ((AR.out.block _ (aO AC.out)).trans AC.out)
   have AE := hide (HO.out.go AR.out)
   obtain ⟨-, c0, c1, c2, c3⟩ := Bt.of AN.out
   have CM := hide (CN.out w4 Ac.out)
   go_upto_region 13 with (go_at_call 32; refine CM.out.mono ?_; rintro _ w5 ⟨S, qx, g0, g1, g2, mb, fm, sd, pq, rfl, hx, Aq, n1, m1, AX⟩; have AB := hide hx; have Ad := hide Aq; have AM := hide n1; have Am := hide m1; have Al := hide AX; clear hx Aq n1 m1 AX)
   clear c0 c1 c2 c3 CM CN AN AC HO
   have Ar : (td.take (i + 1)).length = i + 1 := by rw [List.length_take, AO.out]; omega
   have AT : Hid (∀ x ∈ td.take (i + 1), ∃ (q j : Nat), x = ((q : Int), (j : Int) + 1) ∧ q < n ∧ j < 4) := hide fun x hx => xA HS.out.2.2.2 x (List.mem_of_mem_take hx)
   have HDr := hide ((Below.refl w5.heap.size w5).drew)
   have AW : Hid (Prow w5.drew ta (td.take (i + 1))) := hide (qg (AE.out.go (Al.out.trans (HDr.out.mono Al.out.size))))
   have Av := hide (dS (T := T) (F := F) (f := fun _ => 0) (oc := tc) Af.out (AB.out.go HDr.out) (Ad.out.go HDr.out) AM.out Am.out AW.out (by rw [Ar]; omega) AT.out (fun g hg hne => by
    obtain ⟨y, hy⟩ := ap (l := td.take (i + 1)) (i := 0) (by rw [Ar]; omega)
    obtain ⟨g', e, hc, -⟩ := (qg (n := i + 1) AE.out) 0 y hy
    rw [hg] at e
    cases e
    have h9 : g < w4.heap.size := World.block_lt_of_cell? _ _ hc
    have := Am.out
    omega))
   rw [Ar] at Av
   have An := hide (A8 (T := T) (F := F) (f := fun _ => 0) Af.out.rl AT.out)
   have Az : Hid ((dZ T F n (fun _ => 0) (td.take (i + 1))).length = i + 1) := hide (by rw [qB, Ar])
   obtain ⟨L, hL⟩ : ∃ L, dZ T F n (fun _ => 0) (td.take (i + 1)) = L := ⟨_, rfl⟩
   have HL := hide hL
   have AY : Hid (Calls Tryz.prog 95 #[aa pq, .slice ta (i + 1) tc] w5.drew fun e w' => ∃ va vc, e = .returned (.slice va (i + 1) vc) ∧ Below w.heap.size w w' ∧ w'.cell? ⟨pq, 0, none⟩ = some (aa qx) ∧ Calls Tryz.prog 57 #[aa qx, .slice va (i + 1) vc] w' fun e w2 => ∃ v, e = .returned v ∧ Gy 32 5 j3 w.heap.size (ke T L) v w2 ∧ Below w.heap.size w w2 ∧ w2.cell? ⟨pq, 0, none⟩ = some (aa qx)) := hide (by
    refine Av.out.mono ?_
    rintro _ w6 ⟨v, rfl, hg, hf⟩
    obtain ⟨va, vc, rfl⟩ := hg.slice
    have AA : Fr (fun k => k = sd) w5 w6 := (Fr.of_below HDr.out).trans hf
    have Ap : Below w.heap.size w w6 := (Ac.out.trans (Al.out.mono Ac.out.size)).trans (AA.below fun k hk => ⟨by have := Ac.out.size; have := Al.out.size; omega, fun e => by have := Am.out; have := Ac.out.size; omega⟩)
    have Aa := Az.out
    have Ba := AB.out.fr AA fun k hk => by rw [hk]; exact ⟨AM.out, Am.out⟩
    have AZ : Xr S w4.heap.size ⟨qx, n, fa, fc, ra, rc, ba, bc, g0, g1, g2, mb⟩ T w6 := Ba
    have Ax := wM (lc := vc) (K := ⟨qx, n, fa, fc, ra, rc, ba, bc, g0, g1, g2, mb⟩) Af.out AZ (wA hg fun s hs => (An.out s hs).2.2) (by rw [Aa]; omega) (by rw [Aa]; omega) (fun s hs => (An.out s hs).1) (fun s hs => Nat.le_trans (An.out s hs).2.1 (by decide))
    rw [hL] at Aa Ax ⊢
    rw [Aa] at Ax ⊢
    have Aj := Ad.out.bx.keep (AA.block _ Ad.out.bx.lt (aq Ad.out.bx Ad.out.sd (by decide)))
    refine ⟨va, vc, rfl, Ap, Aj.get (i := 0) rfl, Ax.mono ?_⟩
    rintro _ w7 ⟨v, rfl, h1, h2⟩
    exact ⟨v, rfl, h1.down Ap.size, Ap.trans (h2.mono Ap.size), (Aj.keep (h2.block _ Aj.lt)).get (i := 0) rfl⟩)
   have p0 := Ad.out.bx.get (i := 0) rfl
   have e1 : IntKind.i64.wrap ((i : Int) + 1) = (i : Int) + 1 := by rw [IntKind.wrap_i64]; omega
   clear Av hL An Az AW AE AB Ad Af
   go_region_held3 (fun X : World => X.cell? ⟨pq, 0, none⟩ = some (aa qx)) (first | assumption) (first | (go_at_call 95; refine AY.out.mono ?_; rintro e w6 ⟨va, vc, rfl, Bi, Bj, Bg⟩) | (go_at_call 57; refine Bg.mono ?_; rintro e w7 ⟨v, rfl, Bb, Bf, Bk⟩))
   all_goals
    go_wp2_with fail
    go_ret2
    exact ⟨⟨td, m, k, HS.out, .inr ⟨i, v, HI.out, rfl, by rw [HL.out]; exact Bb⟩⟩, Bf⟩
end
end Go.Proofs.YtmlhcncagdfjfaaGreat.De
