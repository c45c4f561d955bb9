import Derived.Test.YtmlhcncagdfjfaaGreatDrP
import Derived.Test.YtmlhcncagdfjfaaGreatCnq
import Derived.Test.YtmlhcncagdfjfaaGreatLnD
import Derived.Test.YtmlhcncagdfjfaaGreatDrX
namespace Go.Proofs.YtmlhcncagdfjfaaGreat.De
open Go.RowKit Fa
def pairT : Th := ⟨2, [[1], [0]], [⟨2, 0, []⟩, ⟨2, 1, []⟩], [[1], []]⟩
def eu (x : Int × Int) : List (Int × Int) → Nat → Int
 | [], _ => -1
 | y :: l, k => if y = x then (k : Int) else eu x l (k + 1)
def iW : List StM := [⟨2, 1, 3, -1, []⟩, ⟨3, 0, 2, 0, [(-1, 0)]⟩]
def xj : Nat → Es
 | 0 => oR pairT [] 2
 | i + 1 => gV pairT [] (xj i)
def pairO : List (Int × Int) := [(0, 2), (1, 2), (0, 3), (1, 4)]
theorem sS : ∀ i : Nat, i ≤ 4 → (xj i).td = pairO ∧ (xj i).tk = i
 | 0, _ => ⟨by kernel_rfl, by kernel_rfl⟩
 | 1, _ => ⟨by kernel_rfl, by kernel_rfl⟩
 | 2, _ => ⟨by kernel_rfl, by kernel_rfl⟩
 | 3, _ => ⟨by kernel_rfl, by kernel_rfl⟩
 | 4, _ => ⟨by kernel_rfl, by kernel_rfl⟩
 | i + 5, h => absurd h (by omega)
theorem uw {P : Nat → Prop} (h0 : P 0) (h1 : P 1) : ∀ i : Nat, i < 2 → P i
 | 0, _ => h0
 | 1, _ => h1
 | i + 2, h => absurd h (by omega)
theorem zq : ao pairT (aj pairT (0 : Nat)) = [1] := by kernel_rfl
theorem zK : ao pairT (aj pairT (1 : Nat)) = [0] := by kernel_rfl
theorem sr : jp pairT [] 2 :=
 ⟨fun b => uw (by cases b <;> kernel_rfl) (by cases b <;> kernel_rfl), fun b => uw (by cases b <;> kernel_rfl) (by cases b <;> kernel_rfl),
  uw (fun p hp => by rw [zq] at hp; rw [List.mem_singleton.1 hp]; kernel_rfl) (fun p hp => by rw [zK] at hp; rw [List.mem_singleton.1 hp]; kernel_rfl),
  uw (by kernel_rfl) (by kernel_rfl)⟩
theorem rE : OQ pairT [] 2 fun td => td = pairO := by
 refine ⟨sr, fun e => ∃ i, i ≤ 4 ∧ e = xj i, ⟨0, by omega, rfl⟩, ?_, ?_⟩
 ·rintro _ ⟨i, hi, rfl⟩ _ Aa
  rw [(sS i hi).1, (sS i hi).2] at Aa
  exact ⟨i + 1, Aa, rfl⟩
 rintro _ ⟨i, hi, rfl⟩ _ _
 exact (sS i hi).1
theorem gX : aX pairT [] = 0 := by kernel_rfl
theorem tF : eu (0, 3) pairO 0 = 2 := by kernel_rfl
theorem tX : jP pairT (dD pairT [] 2 (fun _ => 0) (pairO.take 3)) = iW := by kernel_rfl
theorem uB : eu (1, 3) pairO 0 = -1 := by kernel_rfl
set_option maxRecDepth 100000
set_option maxHeartbeats 3200000
theorem tq {x y : Int × Int} {l : List (Int × Int)} {k i : Nat} (h : l[k]? = some y) : eu x (l.drop k) i = if y = x then (i : Int) else eu x (l.drop (k + 1)) (i + 1) := by rw [aM h]; rfl
theorem rU {x : Int × Int} : ∀ {l : List (Int × Int)} {k : Nat}, eu x l k = -1 ∨ ∃ i : Nat, eu x l k = ((k + i : Nat) : Int) ∧ l[i]? = some x
 | [], _ => .inl rfl
 | y :: l, k => by
  unfold eu
  by_cases h : y = x
  ·rw [if_pos h]
   exact .inr ⟨0, by simp, by simp [h]⟩
  rw [if_neg h]
  rcases rU (x := x) (l := l) (k := k + 1) with h2 | ⟨i, h2, h3⟩
  ·exact .inl h2
  exact .inr ⟨i + 1, by rw [h2]; congr 1; omega, by simpa using h3⟩
theorem th {w : World} {oa : Option Addr} {od : List (Int × Int)} {oc : Nat} {x1 x2 : Int} (h : Prow w oa od) (hl : od.length ≤ 140737488351232) :
    Calls Tryz.prog 94 #[.slice oa od.length oc, .agg #[.int .i64 x1, .int .i64 x2]] w fun e w' => e = .returned (.int .i64 (eu (x1, x2) od 0)) ∧ Below w.heap.size w w' := by
 have hB := ae w (.cells #[.int .i64 x1, .int .i64 x2] 85)
 have hQ : Fx w.heap.size 85 [.int .i64 x1, .int .i64 x2] (w.alloc (.cells #[.int .i64 x1, .int .i64 x2] 85)) := heap_alloc_new w _
 have HP := hide (h.go hB)
 have HB := hide hB
 have HQ := hide hQ
 obtain ⟨o, ho⟩ : ∃ o, eu (x1, x2) od 0 = o := ⟨_, rfl⟩
 rw [ho]
 have HO : Hid (eu (x1, x2) (od.drop 0) 0 = o) := hide (by rw [List.drop_zero]; exact ho)
 clear h hB hQ ho
 go_enter Tryz.func94, Tryz.ntmps94
 go_upto_region 1 with fail
 generalize w.alloc (.cells #[.int .i64 x1, .int .i64 x2] 85) = w1 at *
 obtain ⟨b, hb⟩ : ∃ b, w.heap.size = b := ⟨_, rfl⟩
 rw [hb] at HQ ⊢
 clear hb
 go_wp2_with fail
 go_loopw [8] (fun x wr => ∃ k : Nat, k ≤ od.length ∧ x = .int .i64 k ∧ Hid (eu (x1, x2) (od.drop k) k = o) ∧ Hid (∃ q, wr = w1.drewN q)) (fun x _ => od.length - (intOf x).toNat)
 case atStart => exact ⟨0, by omega, rfl, HO, hide ⟨0, rfl⟩⟩
 clear HO
 obtain ⟨k, hk, rfl, HO, HW⟩ := hrel
 have Aa : Hid (Below w.heap.size w wr) := hide (by obtain ⟨q, rfl⟩ := HW.out; exact HB.out.trans ((ah w1 q).mono HB.out.size))
 by_cases hlt : k < od.length
 ·obtain ⟨⟨y1, y2⟩, hy⟩ := am hlt
  obtain ⟨g, rfl, j0, j1⟩ := HP.out k _ hy
  have Ad : wr.cell? ⟨g, k * 2, none⟩ = some (.int .i64 y1) := by obtain ⟨q, rfl⟩ := HW.out; exact j0
  have Af : wr.cell? ⟨g, k * 2 + 1, none⟩ = some (.int .i64 y2) := by obtain ⟨q, rfl⟩ := HW.out; exact j1
  have Ae : wr.cell? ⟨b, 0, none⟩ = some (.int .i64 x1) := by obtain ⟨q, rfl⟩ := HW.out; exact HQ.out.get (i := 0) rfl
  have Ac : wr.cell? ⟨b, 1, none⟩ = some (.int .i64 x2) := by obtain ⟨q, rfl⟩ := HW.out; exact HQ.out.get (i := 1) rfl
  have HS := hide (tq (x := (x1, x2)) (i := k) hy)
  clear j0 j1 hy
  by_cases hs : x1 = y1 ∧ x2 = y2
  ·obtain ⟨rfl, rfl⟩ := hs
   have HE : Hid (o = (k : Int)) := hide (by rw [← HO.out, HS.out, if_pos rfl])
   clear HS HO
   go_wp2_with fail
   go_quiet (fail)
   go_wp2_with fail
   go_ret
   rw [HE.out]
   exact ⟨rfl, Aa.out.trans ((ah wr _).mono Aa.out.size)⟩
  have HE : Hid (eu (x1, x2) (od.drop (k + 1)) (k + 1) = o) := hide (by rw [← HO.out, HS.out, if_neg (fun e => hs ⟨(congrArg Prod.fst e).symm, (congrArg Prod.snd e).symm⟩)])
  clear HS HO
  by_cases hs1 : x1 = y1
  ·subst hs1
   have Ab : (x2 == y2) = false := beq_eq_false_iff_ne.2 fun e => hs ⟨rfl, e⟩
   go_wp2_with fail
   go_quiet (fail)
   go_wp2_with fail
   go_roundw
   case rel => exact ⟨k + 1, by omega, by go_num, HE, hide (by obtain ⟨q, rfl⟩ := HW.out; exact ⟨_, World.drewN_drewN _ _ _⟩)⟩
   case measure => simp [intOf]; omega
  have Ab : (x1 == y1) = false := beq_eq_false_iff_ne.2 hs1
  go_wp2_with fail
  go_quiet (fail)
  go_wp2_with fail
  go_roundw
  case rel => exact ⟨k + 1, by omega, by go_num, HE, hide (by obtain ⟨q, rfl⟩ := HW.out; exact ⟨_, World.drewN_drewN _ _ _⟩)⟩
  case measure => simp [intOf]; omega
 have HE : Hid (o = -1) := hide (by rw [← HO.out, List.drop_eq_nil_of_le (by omega)]; rfl)
 clear HO
 go_wp2_with fail
 go_ret
 rw [HE.out]
 exact ⟨rfl, Aa.out⟩
theorem pw {T : Th} {F : List Int} {n : Nat} : ∀ {l : List (Int × Int)} {f : Int → Int}, (dD T F n f l).length = l.length
 | [], f => rfl
 | x :: l, f => by unfold dD; rw [List.length_cons, pw, List.length_cons]
theorem o8 {T : Th} {F : List Int} {n : Nat} {s : StM} : ∀ {l : List (Int × Int)} {f : Int → Int}, s ∈ dD T F n f l → ∃ f' x, x ∈ l ∧ s = fw T F f' x.1 x.2
 | [], f, h => by cases h
 | x :: l, f, h => by
  unfold dD at h
  rcases List.mem_cons.1 h with h | h
  ·exact ⟨f, x, List.mem_cons_self .., h⟩
  obtain ⟨f', y, h1, h2⟩ := o8 h
  exact ⟨f', y, List.mem_cons_of_mem _ h1, h2⟩
theorem qg {T : Th} {f : Int → Int} {q : Int} : ∀ {l : List Int}, (dr T f q l).1 = 5
 | [] => rfl
 | x :: l => by
  unfold dr
  split
  ·rfl
  exact qg
theorem um {T : Th} {F : List Int} {f : Int → Int} {q t : Int} : 1 ≤ (dK T F f q t).1 ∧ (dK T F f q t).1 ≤ 5 := by
 unfold dK rsPD rsMD rsPP rsMP
 repeat' split
 all_goals first
  | (rw [qg]; omega)
  | (simp only; omega)
  | decide
set_option maxRecDepth 100000
set_option maxHeartbeats 25600000
theorem xl {T : Th} {F : List Int} {n : Nat} {f : Int → Int} {td : List (Int × Int)} (hT : T.rules.length ≤ 4096) (ho : ∀ x ∈ td, ∃ (q j : Nat), x = ((q : Int), (j : Int) + 1) ∧ q < n ∧ j < 4) : ∀ s ∈ dD T F n f td, (∃ q j : Nat, s.lit = (q : Int) ∧ s.tag = (j : Int) ∧ q < n ∧ 1 ≤ j ∧ j ≤ 4) ∧ s.ch.length ≤ 4096 ∧ vC s := by
 intro s hs
 obtain ⟨f', x, hx, rfl⟩ := o8 hs
 obtain ⟨q, j, rfl, hq, hj⟩ := ho x hx
 have hl := pi (T := T) (F := F) (f := f') (q := (q : Int)) (t := (j : Int) + 1) hT
 have hh := um (T := T) (F := F) (f := f') (q := (q : Int)) (t := (j : Int) + 1)
 refine ⟨⟨q, j + 1, rfl, by show (j : Int) + 1 = ((j + 1 : Nat) : Int); omega, hq, by omega, by omega⟩, hl, Nat.le_trans hl (by decide), ?_, ?_⟩
 ·show eA ((j : Int) + 1)
  unfold eA
  omega
 show eA (dK T F f' (q : Int) ((j : Int) + 1)).1
 unfold eA
 omega
theorem pc {w : World} {a : Option Addr} {l : List (Int × Int)} {n : Nat} (h : Prow w a l) : Prow w a (l.take n) := by
 intro i x hx
 rw [List.getElem?_take] at hx
 split at hx
 ·exact h i x hx
 cases hx
section
variable {w : World} {T : Th} {F : List Int} {fa ra ba ea : Option Addr} {fc rc bc ec : Nat}
theorem qi {Q : List (Int × Int) → Prop} (hoq : OQ T F T.lits.toNat Q) (hqq : ∀ td, Q td → td.length ≤ 16384 ∧ ∀ x ∈ td, ∃ (q j : Nat), x = ((q : Int), (j : Int) + 1) ∧ q < T.lits.toNat ∧ j < 4) (h : TA w.heap.size w T fa fc ra rc ba bc) (hF : Ints w.heap.size w F (.slice ea F.length ec)) (h0 : aX T F = 0) {q : Nat} (hq : q < T.lits.toNat) {t : Int} (ht : aw t) :
    Calls Tryz.prog 54 #[tv T fa fc ra rc ba bc, .slice ea F.length ec, .int .i64 (q : Int), .int .i64 t] w fun e w' => (∃ td, Q td ∧
     ((eu ((q : Int), t) td 0 = -1 ∧ e = .returned (.tuple #[.slice none 0 0, .int .i64 203])) ∨ ∃ (i : Nat) (v : Value), eu ((q : Int), t) td 0 = (i : Int) ∧ e = .returned (.tuple #[v, .int .i64 0]) ∧ Gy 32 5 i5 w.heap.size (jP T (dD T F T.lits.toNat (fun _ => 0) (td.take (i + 1)))) v w')) ∧ Below w.heap.size w w' := by
 have hB := ae w (.cells #[.int .i64 T.lits, .slice fa T.foes.length fc, .slice ra T.rules.length rc, .slice ba T.beats.length bc] 25)
 have hX := heap_alloc_new w (.cells #[.int .i64 T.lits, .slice fa T.foes.length fc, .slice ra T.rules.length rc, .slice ba T.beats.length bc] 25)
 have Bg : Tryz.prog.follows .mixedOrders = true := by kernel_rfl
 have CF := hide (ke (TR.go hB h) (Ints.go hB hF))
 rw [h0] at CF
 have hp := nt h0
 have An := (sk hp).1
 have Af := hide An
 have HP := hide hp
 have H0 := hide h0
 have AP := hide hoq
 obtain ⟨n, hn⟩ : ∃ n, T.lits.toNat = n := ⟨_, rfl⟩
 have HN := hide hn
 rw [hn] at hq hqq Af HP ⊢
 have AW := hide hqq
 have Aa : T.lits = (n : Int) := by rw [← hn]; exact An.ln
 have Bk : n ≤ 4096 := by rw [← hn]; exact An.n4
 have Bl := hide Aa
 have AM := hide h
 have HF := hide hF
 have HB := hide hB
 have HX := hide hX
 have CW := hide (eZ (q : Int) T.lits)
 have AH : bU (q : Int) T.lits = true := by unfold bU; rw [Aa]; simp; omega
 have CT := hide (oX t)
 have AJ : fj t = true := by unfold fj; rcases ht with rfl | rfl | rfl | rfl <;> rfl
 rw [AH] at CW
 rw [AJ] at CT
 clear h hF hB hp h0 An Aa AH AJ hn hoq hqq
 go_enter Tryz.func54, Tryz.ntmps54
 go_upto_region 1 with fail
 generalize w.alloc (.cells #[.int .i64 T.lits, .slice fa T.foes.length fc, .slice ra T.rules.length rc, .slice ba T.beats.length bc] 25) = W at *
 obtain ⟨-, c0, c1, c2, c3⟩ := Bt.of hX
 clear hX
 go_upto_region 4 with (go_at_call 31; refine CF.out.mono ?_; rintro _ w1 ⟨rfl, Az⟩; have Ai := hide (HB.out.trans (Az.mono HB.out.size)); have Al := hide ((Az.block _ (aD HX.out)).trans HX.out); clear Az)
 clear c0 c1 c2 c3 CF
 obtain ⟨-, c0, c1, c2, c3⟩ := Bt.of Al.out
 have CO := hide (ya AP.out (TR.go Ai.out AM.out) (Ints.go Ai.out HF.out) H0.out)
 go_upto_region 9 with (first | (go_at_call 63; refine (CW.out _).mono ?_; rintro _ _ ⟨rfl, rfl⟩) | (go_at_call 64; refine (CT.out _).mono ?_; rintro _ _ ⟨rfl, rfl⟩) | (go_at_call 93; refine CO.out.mono ?_; rintro _ w2 ⟨td, ta, tc, rfl, AL, Au, AF, Av⟩; have AZ := hide AF; have HS := hide AL; have HO := hide Au; have AT := hide Av; have Ar := hide (Ai.out.trans (Av.mono Ai.out.size)); clear AL Au AF Av))
 have AE := hide ((AT.out.block _ (aD Al.out)).trans Al.out)
 clear c0 c1 c2 c3 CO CW CT HX Al HB Ai AT AP
 have AN : td.length ≤ 16384 := (AW.out td HS.out).1
 have Ao := hide (jH (q : Int) t w2)
 have CI := hide (fun X (hb : Below w2.heap.size w2 X) => th (x1 := (q : Int)) (x2 := t) (oc := tc) (HO.out.go hb) (Nat.le_trans AN (by decide)))
 rcases rU (x := ((q : Int), t)) (l := td) (k := 0) with hi | ⟨i, hi, Ay⟩
 ·have HI := hide hi
  rw [hi] at CI
  clear hi
  go_wp2_with (first | (go_at_call 42; refine Ao.out.mono ?_; rintro _ w3 ⟨rfl, Ab⟩; have Ag := hide (CI.out w3 Ab); have Ah := hide (Ar.out.trans (Ab.mono Ar.out.size)); clear Ab Ao) | (go_at_call 94; refine Ag.out.mono ?_; rintro _ w4 ⟨rfl, Ae⟩; have Ac := hide (Ah.out.trans (Ae.mono Ah.out.size)); clear Ae Ag CI))
  go_ret2
  exact ⟨⟨td, HS.out, .inl ⟨HI.out, rfl⟩⟩, Ac.out⟩
 rw [Nat.zero_add] at hi
 have HI := hide hi
 rw [hi] at CI
 have Bc : i < td.length := (List.getElem?_eq_some_iff.1 Ay).1
 clear hi Ay
 obtain ⟨tn, Ax⟩ : ∃ z, td.length = z := ⟨_, rfl⟩
 have AR := hide Ax
 rw [Ax] at CI AN Bc ⊢
 clear Ax
 have Bd := AZ.out
 rw [AR.out] at Bd
 have CN : Hid (∀ X, Below w.heap.size w X → Calls Tryz.prog 32 #[tv T fa fc ra rc ba bc, .slice ea F.length ec] X fun e w' => ∃ (S : Nat → Prop) (q g0 g1 g2 mb fm sd pq : Nat), e = .returned (aa pq) ∧ Xr S X.heap.size ⟨q, n, fa, fc, ra, rc, ba, bc, g0, g1, g2, mb⟩ T w' ∧ Pm ⟨q, n, fa, fc, ra, rc, ba, bc, g0, g1, g2, mb⟩ pq fm sd F (fun _ => 0) w' ∧ ¬ S sd ∧ X.heap.size ≤ sd ∧ Below X.heap.size X w') := hide fun X hX => by
  refine (kY (TR.go hX AM.out) (Ints.go hX HF.out) HP.out).mono ?_
  rintro e w' ⟨S, q, g0, g1, g2, mb, fm, sd, pq, rfl, hx, Ap, ⟨n1, n2, n3⟩, ⟨m1, m2, m3, m4⟩, hb⟩
  exact ⟨S, q, g0, g1, g2, mb, fm, sd, pq, rfl, hx, Ap, n1, m1, hb⟩
 go_upto_region 12 with (first | (go_at_call 42; refine Ao.out.mono ?_; rintro _ w3 ⟨rfl, Ab⟩; have Ag := hide (CI.out w3 Ab); have Ah := hide (Ar.out.trans (Ab.mono Ar.out.size)); have AQ := hide Ab; clear Ab Ao) | (go_at_call 94; refine Ag.out.mono ?_; rintro _ w4 ⟨rfl, Ae⟩; have Ac := hide (Ah.out.trans (Ae.mono Ah.out.size)); have AI := hide (AQ.out.trans (Ae.mono AQ.out.size)); clear Ae Ag CI))
 have AU := hide ((AI.out.block _ (aD AE.out)).trans AE.out)
 have AG := hide (HO.out.go AI.out)
 obtain ⟨-, c0, c1, c2, c3⟩ := Bt.of AU.out
 have CM := hide (CN.out w4 Ac.out)
 go_upto_region 13 with (go_at_call 32; refine CM.out.mono ?_; rintro _ w5 ⟨S, qx, g0, g1, g2, mb, fm, sd, pq, rfl, hx, Ap, n1, m1, AK⟩; have AA := hide hx; have Ad := hide Ap; have AS := hide n1; have Aq := hide m1; have As := hide AK; clear hx Ap n1 m1 AK)
 clear c0 c1 c2 c3 CM CN AU AE HO
 have Am : (td.take (i + 1)).length = i + 1 := by rw [List.length_take, AR.out]; omega
 have AV : Hid (∀ x ∈ td.take (i + 1), ∃ (q j : Nat), x = ((q : Int), (j : Int) + 1) ∧ q < n ∧ j < 4) := hide fun x hx => (AW.out td HS.out).2 x (List.mem_of_mem_take hx)
 have HDr := hide ((Below.refl w5.heap.size w5).drew)
 have AO : Hid (Prow w5.drew ta (td.take (i + 1))) := hide (pc (AG.out.go (As.out.trans (HDr.out.mono As.out.size))))
 have AB := hide (dh (T := T) (F := F) (f := fun _ => 0) (oc := tc) Af.out (AA.out.go HDr.out) (Ad.out.go HDr.out) AS.out Aq.out AO.out (by rw [Am]; omega) AV.out (fun g hg hne => by
  obtain ⟨y, hy⟩ := am (l := td.take (i + 1)) (i := 0) (by rw [Am]; omega)
  obtain ⟨g', e, hc, -⟩ := (pc (n := i + 1) AG.out) 0 y hy
  rw [hg] at e
  cases e
  have h9 : g < w4.heap.size := World.block_lt_of_cell? _ _ hc
  have := Aq.out
  omega))
 rw [Am] at AB
 have At := hide (xl (T := T) (F := F) (f := fun _ => 0) Af.out.rl AV.out)
 have AC : Hid ((dD T F n (fun _ => 0) (td.take (i + 1))).length = i + 1) := hide (by rw [pw, Am])
 obtain ⟨L, hL⟩ : ∃ L, dD T F n (fun _ => 0) (td.take (i + 1)) = L := ⟨_, rfl⟩
 have HL := hide hL
 have AY : Hid (Calls Tryz.prog 95 #[aa pq, .slice ta (i + 1) tc] w5.drew fun e w' => ∃ va vc, e = .returned (.slice va (i + 1) vc) ∧ Below w.heap.size w w' ∧ w'.cell? ⟨pq, 0, none⟩ = some (aa qx) ∧ Calls Tryz.prog 57 #[aa qx, .slice va (i + 1) vc] w' fun e w2 => ∃ v, e = .returned v ∧ Gy 32 5 i5 w.heap.size (jP T L) v w2 ∧ Below w.heap.size w w2 ∧ w2.cell? ⟨pq, 0, none⟩ = some (aa qx)) := hide (by
  refine AB.out.mono ?_
  rintro _ w6 ⟨v, rfl, hg, hf⟩
  obtain ⟨va, vc, rfl⟩ := hg.slice
  have AD : Fr (fun k => k = sd) w5 w6 := (Fr.of_below HDr.out).trans hf
  have Ak : Below w.heap.size w w6 := (Ac.out.trans (As.out.mono Ac.out.size)).trans (AD.below fun k hk => ⟨by have := Ac.out.size; have := As.out.size; omega, fun e => by have := Aq.out; have := Ac.out.size; omega⟩)
  have Aa := AC.out
  have Be := AA.out.fr AD fun k hk => by rw [hk]; exact ⟨AS.out, Aq.out⟩
  have AX : Xr S w4.heap.size ⟨qx, n, fa, fc, ra, rc, ba, bc, g0, g1, g2, mb⟩ T w6 := Be
  have Aw := vk (lc := vc) (K := ⟨qx, n, fa, fc, ra, rc, ba, bc, g0, g1, g2, mb⟩) Af.out AX (tQ hg fun s hs => (At.out s hs).2.2) (by rw [Aa]; omega) (by rw [Aa]; omega) (fun s hs => (At.out s hs).1) (fun s hs => Nat.le_trans (At.out s hs).2.1 (by decide))
  rw [hL] at Aa Aw ⊢
  rw [Aa] at Aw ⊢
  have Aj := Ad.out.bx.keep (AD.block _ Ad.out.bx.lt (an Ad.out.bx Ad.out.sd (by decide)))
  refine ⟨va, vc, rfl, Ak, Aj.get (i := 0) rfl, Aw.mono ?_⟩
  rintro _ w7 ⟨v, rfl, h1, h2⟩
  exact ⟨v, rfl, h1.down Ak.size, Ak.trans (h2.mono Ak.size), (Aj.keep (h2.block _ Aj.lt)).get (i := 0) rfl⟩)
 have p0 := Ad.out.bx.get (i := 0) rfl
 have e1 : IntKind.i64.wrap ((i : Int) + 1) = (i : Int) + 1 := by rw [IntKind.wrap_i64]; omega
 have b1 : (0 : Int) ≤ (i : Int) + 1 := by omega
 have b2 : (i : Int) + 1 ≤ (tc : Int) := by omega
 clear AB hL At AC AO AG AA Ad Af
 go_region_held3 (fun X : World => X.cell? ⟨pq, 0, none⟩ = some (aa qx)) (first | assumption) (first | (go_at_call 95; refine AY.out.mono ?_; rintro e w6 ⟨va, vc, rfl, Bh, Bj, Bb⟩) | (go_at_call 57; refine Bb.mono ?_; rintro e w7 ⟨v, rfl, Bf, Ba, Bi⟩))
 all_goals
  go_wp2_with fail
  go_ret2
  exact ⟨⟨td, HS.out, .inr ⟨i, v, HI.out, rfl, by rw [HL.out]; exact Bf⟩⟩, Ba⟩
end
end Go.Proofs.YtmlhcncagdfjfaaGreat.De
