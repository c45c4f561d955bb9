import Derived.Test.YtmlhcncagdfjfaaGreatDrP
import Derived.Test.YtmlhcncagdfjfaaGreatCnq
import Derived.Test.YtmlhcncagdfjfaaGreatLnD
import Derived.Test.YtmlhcncagdfjfaaGreatDrX
namespace Go.Proofs.YtmlhcncagdfjfaaGreat.De
open Go.RowKit Fa
def pairT : Th := ⟨2, [[1], [0]], [⟨2, 0, []⟩, ⟨2, 1, []⟩], [[1], []]⟩
def eq (x : Int × Int) : List (Int × Int) → Nat → Int
 | [], _ => -1
 | y :: l, k => if y = x then (k : Int) else eq x l (k + 1)
def jd : List StM := [⟨2, 1, 3, -1, []⟩, ⟨3, 0, 2, 0, [(-1, 0)]⟩]
def wZ : Nat → Es
 | 0 => oP pairT [] 2
 | i + 1 => gU pairT [] (wZ i)
def pairO : List (Int × Int) := [(0, 2), (1, 2), (0, 3), (1, 4)]
theorem sM : ∀ i : Nat, i ≤ 4 → (wZ i).td = pairO ∧ (wZ i).tk = i
 | 0, _ => ⟨by kernel_rfl, by kernel_rfl⟩
 | 1, _ => ⟨by kernel_rfl, by kernel_rfl⟩
 | 2, _ => ⟨by kernel_rfl, by kernel_rfl⟩
 | 3, _ => ⟨by kernel_rfl, by kernel_rfl⟩
 | 4, _ => ⟨by kernel_rfl, by kernel_rfl⟩
 | i + 5, h => absurd h (by omega)
theorem tL {P : Nat → Prop} (h0 : P 0) (h1 : P 1) : ∀ i : Nat, i < 2 → P i
 | 0, _ => h0
 | 1, _ => h1
 | i + 2, h => absurd h (by omega)
theorem zp : ao pairT (aj pairT (0 : Nat)) = [1] := by kernel_rfl
theorem zL : ao pairT (aj pairT (1 : Nat)) = [0] := by kernel_rfl
theorem so : jC pairT [] 2 :=
 ⟨fun b => tL (by cases b <;> kernel_rfl) (by cases b <;> kernel_rfl), fun b => tL (by cases b <;> kernel_rfl) (by cases b <;> kernel_rfl),
  tL (fun p hp => by rw [zp] at hp; rw [List.mem_singleton.1 hp]; kernel_rfl) (fun p hp => by rw [zL] at hp; rw [List.mem_singleton.1 hp]; kernel_rfl),
  tL (by kernel_rfl) (by kernel_rfl)⟩
theorem sc : OQ pairT [] 2 fun td => td = pairO := by
 refine ⟨so, fun e => ∃ i, i ≤ 4 ∧ e = wZ i, ⟨0, by omega, rfl⟩, ?_, ?_⟩
 · rintro _ ⟨i, hi, rfl⟩ _ Aa
   rw [(sM i hi).1, (sM i hi).2] at Aa
   exact ⟨i + 1, Aa, rfl⟩
 · rintro _ ⟨i, hi, rfl⟩ _ _
   exact (sM i hi).1
theorem gX : aY pairT [] = 0 := by kernel_rfl
theorem tS : eq (0, 3) pairO 0 = 2 := by kernel_rfl
theorem uk : jD pairT (dB pairT [] 2 (fun _ => 0) (pairO.take 3)) = jd := by kernel_rfl
theorem ud : eq (1, 3) pairO 0 = -1 := by kernel_rfl
set_option maxRecDepth 100000
set_option maxHeartbeats 3200000
theorem ub {x y : Int × Int} {l : List (Int × Int)} {k i : Nat} (h : l[k]? = some y) : eq x (l.drop k) i = if y = x then (i : Int) else eq x (l.drop (k + 1)) (i + 1) := by rw [aN h]; rfl
theorem rK {x : Int × Int} : ∀ {l : List (Int × Int)} {k : Nat}, eq x l k = -1 ∨ ∃ i : Nat, eq x l k = ((k + i : Nat) : Int) ∧ l[i]? = some x
 | [], _ => .inl rfl
 | y :: l, k => by
  unfold eq
  by_cases h : y = x
  · rw [if_pos h]
    exact .inr ⟨0, by simp, by simp [h]⟩
  · rw [if_neg h]
    rcases rK (x := x) (l := l) (k := k + 1) with h2 | ⟨i, h2, h3⟩
    · exact .inl h2
    · exact .inr ⟨i + 1, by rw [h2]; congr 1; omega, by simpa using h3⟩
theorem sD {w : World} {oa : Option Addr} {od : List (Int × Int)} {oc : Nat} {x1 x2 : Int} (h : Prow w oa od) (hl : od.length ≤ 140737488351232) :
    Calls Tryz.prog 94 #[.slice oa od.length oc, .agg #[.int .i64 x1, .int .i64 x2]] w fun e w' => e = .returned (.int .i64 (eq (x1, x2) od 0)) ∧ Below w.heap.size w w' := by
 have hB := ae w (.cells #[.int .i64 x1, .int .i64 x2] 85)
 have hQ : Fx w.heap.size 85 [.int .i64 x1, .int .i64 x2] (w.alloc (.cells #[.int .i64 x1, .int .i64 x2] 85)) := heap_alloc_new w _
 have HP := hide (h.go hB)
 have HB := hide hB
 have HQ := hide hQ
 obtain ⟨o, ho⟩ : ∃ o, eq (x1, x2) od 0 = o := ⟨_, rfl⟩
 rw [ho]
 have HO : Hid (eq (x1, x2) (od.drop 0) 0 = o) := hide (by rw [List.drop_zero]; exact ho)
 clear h hB hQ ho
 go_enter Tryz.func94, Tryz.ntmps94
 go_upto_region 1 with fail
 generalize w.alloc (.cells #[.int .i64 x1, .int .i64 x2] 85) = w1 at *
 obtain ⟨b, hb⟩ : ∃ b, w.heap.size = b := ⟨_, rfl⟩
 rw [hb] at HQ ⊢
 clear hb
 go_wp2_with fail
 go_loopw [8] (fun x wr => ∃ k : Nat, k ≤ od.length ∧ x = .int .i64 k ∧ Hid (eq (x1, x2) (od.drop k) k = o) ∧ Hid (∃ q, wr = w1.drewN q)) (fun x _ => od.length - (intOf x).toNat)
 case atStart => exact ⟨0, by omega, rfl, HO, hide ⟨0, rfl⟩⟩
 case round =>
  clear HO
  obtain ⟨k, hk, rfl, HO, HW⟩ := hrel
  have Aa : Hid (Below w.heap.size w wr) := hide (by obtain ⟨q, rfl⟩ := HW.out; exact HB.out.trans ((ah w1 q).mono HB.out.size))
  by_cases hlt : k < od.length
  · obtain ⟨⟨y1, y2⟩, hy⟩ := am hlt
    obtain ⟨g, rfl, j0, j1⟩ := HP.out k _ hy
    have Af : wr.cell? ⟨g, k * 2, none⟩ = some (.int .i64 y1) := by obtain ⟨q, rfl⟩ := HW.out; exact j0
    have Ac : wr.cell? ⟨g, k * 2 + 1, none⟩ = some (.int .i64 y2) := by obtain ⟨q, rfl⟩ := HW.out; exact j1
    have Ae : wr.cell? ⟨b, 0, none⟩ = some (.int .i64 x1) := by obtain ⟨q, rfl⟩ := HW.out; exact HQ.out.get (i := 0) rfl
    have Ad : wr.cell? ⟨b, 1, none⟩ = some (.int .i64 x2) := by obtain ⟨q, rfl⟩ := HW.out; exact HQ.out.get (i := 1) rfl
    have HS := hide (ub (x := (x1, x2)) (i := k) hy)
    clear j0 j1 hy
    by_cases hs : x1 = y1 ∧ x2 = y2
    · obtain ⟨rfl, rfl⟩ := hs
      have HE : Hid (o = (k : Int)) := hide (by rw [← HO.out, HS.out, if_pos rfl])
      clear HS HO
      go_wp2_with fail
      go_quiet (fail)
      go_wp2_with fail
      go_ret
      rw [HE.out]
      exact ⟨rfl, Aa.out.trans ((ah wr _).mono Aa.out.size)⟩
    · have HE : Hid (eq (x1, x2) (od.drop (k + 1)) (k + 1) = o) := hide (by rw [← HO.out, HS.out, if_neg (fun e => hs ⟨(congrArg Prod.fst e).symm, (congrArg Prod.snd e).symm⟩)])
      clear HS HO
      by_cases hs1 : x1 = y1
      · subst hs1
        have Ab : (x2 == y2) = false := beq_eq_false_iff_ne.2 fun e => hs ⟨rfl, e⟩
        go_wp2_with fail
        go_quiet (fail)
        go_wp2_with fail
        go_roundw
        case rel => exact ⟨k + 1, by omega, by go_num, HE, hide (by obtain ⟨q, rfl⟩ := HW.out; exact ⟨_, World.drewN_drewN _ _ _⟩)⟩
        case measure => simp [intOf]; omega
      · have Ab : (x1 == y1) = false := beq_eq_false_iff_ne.2 hs1
        go_wp2_with fail
        go_quiet (fail)
        go_wp2_with fail
        go_roundw
        case rel => exact ⟨k + 1, by omega, by go_num, HE, hide (by obtain ⟨q, rfl⟩ := HW.out; exact ⟨_, World.drewN_drewN _ _ _⟩)⟩
        case measure => simp [intOf]; omega
  · have HE : Hid (o = -1) := hide (by rw [← HO.out, List.drop_eq_nil_of_le (by omega)]; rfl)
    clear HO
    go_wp2_with fail
    go_ret
    rw [HE.out]
    exact ⟨rfl, Aa.out⟩
theorem oU {T : Th} {F : List Int} {n : Nat} : ∀ {l : List (Int × Int)} {f : Int → Int}, (dB T F n f l).length = l.length
 | [], f => rfl
 | x :: l, f => by unfold dB; rw [List.length_cons, oU, List.length_cons]
theorem o9 {T : Th} {F : List Int} {n : Nat} {s : StM} : ∀ {l : List (Int × Int)} {f : Int → Int}, s ∈ dB T F n f l → ∃ f' x, x ∈ l ∧ s = fy T F f' x.1 x.2
 | [], f, h => by cases h
 | x :: l, f, h => by
  unfold dB at h
  rcases List.mem_cons.1 h with h | h
  · exact ⟨f, x, List.mem_cons_self .., h⟩
  · obtain ⟨f', y, h1, h2⟩ := o9 h
    exact ⟨f', y, List.mem_cons_of_mem _ h1, h2⟩
theorem qh {T : Th} {f : Int → Int} {q : Int} : ∀ {l : List Int}, (dg T f q l).1 = 5
 | [] => rfl
 | x :: l => by
  unfold dg
  split
  · rfl
  · exact qh
theorem ue {T : Th} {F : List Int} {f : Int → Int} {q t : Int} : 1 ≤ (dL T F f q t).1 ∧ (dL T F f q t).1 ≤ 5 := by
 unfold dL rsPD rsMD rsPP rsMP
 repeat' split
 all_goals first
  | (rw [qh]; omega)
  | (simp only; omega)
  | decide
set_option maxRecDepth 100000
set_option maxHeartbeats 25600000
theorem xG {T : Th} {F : List Int} {n : Nat} {f : Int → Int} {td : List (Int × Int)} (hT : T.rules.length ≤ 4096) (ho : ∀ x ∈ td, ∃ (q j : Nat), x = ((q : Int), (j : Int) + 1) ∧ q < n ∧ j < 4) : ∀ s ∈ dB T F n f td, (∃ q j : Nat, s.lit = (q : Int) ∧ s.tag = (j : Int) ∧ q < n ∧ 1 ≤ j ∧ j ≤ 4) ∧ s.ch.length ≤ 4096 ∧ vW s := by
 intro s hs
 obtain ⟨f', x, hx, rfl⟩ := o9 hs
 obtain ⟨q, j, rfl, hq, hj⟩ := ho x hx
 have hl := oY (T := T) (F := F) (f := f') (q := (q : Int)) (t := (j : Int) + 1) hT
 have hh := ue (T := T) (F := F) (f := f') (q := (q : Int)) (t := (j : Int) + 1)
 refine ⟨⟨q, j + 1, rfl, by show (j : Int) + 1 = ((j + 1 : Nat) : Int); omega, hq, by omega, by omega⟩, hl, Nat.le_trans hl (by decide), ?_, ?_⟩
 · show eA ((j : Int) + 1)
   unfold eA
   omega
 · show eA (dL T F f' (q : Int) ((j : Int) + 1)).1
   unfold eA
   omega
theorem o7 {w : World} {a : Option Addr} {l : List (Int × Int)} {n : Nat} (h : Prow w a l) : Prow w a (l.take n) := by
 intro i x hx
 rw [List.getElem?_take] at hx
 split at hx
 · exact h i x hx
 · cases hx
section
variable {w : World} {T : Th} {F : List Int} {fa ra ba ea : Option Addr} {fc rc bc ec : Nat}
theorem qt {Q : List (Int × Int) → Prop} (hoq : OQ T F T.lits.toNat Q) (hqq : ∀ td, Q td → td.length ≤ 16384 ∧ ∀ x ∈ td, ∃ (q j : Nat), x = ((q : Int), (j : Int) + 1) ∧ q < T.lits.toNat ∧ j < 4) (h : TA w.heap.size w T fa fc ra rc ba bc) (hF : Ints w.heap.size w F (.slice ea F.length ec)) (h0 : aY T F = 0) {q : Nat} (hq : q < T.lits.toNat) {t : Int} (ht : aw t) :
    Calls Tryz.prog 54 #[tv T fa fc ra rc ba bc, .slice ea F.length ec, .int .i64 (q : Int), .int .i64 t] w fun e w' => (∃ td, Q td ∧
     ((eq ((q : Int), t) td 0 = -1 ∧ e = .returned (.tuple #[.slice none 0 0, .int .i64 203])) ∨ ∃ (i : Nat) (v : Value), eq ((q : Int), t) td 0 = (i : Int) ∧ e = .returned (.tuple #[v, .int .i64 0]) ∧ Gy 32 5 iZ w.heap.size (jD T (dB T F T.lits.toNat (fun _ => 0) (td.take (i + 1)))) v w')) ∧ Below w.heap.size w w' := by
 have hB := ae w (.cells #[.int .i64 T.lits, .slice fa T.foes.length fc, .slice ra T.rules.length rc, .slice ba T.beats.length bc] 25)
 have hX := heap_alloc_new w (.cells #[.int .i64 T.lits, .slice fa T.foes.length fc, .slice ra T.rules.length rc, .slice ba T.beats.length bc] 25)
 have Bg : Tryz.prog.follows .mixedOrders = true := by kernel_rfl
 have CF := hide (jK (TR.go hB h) (Ints.go hB hF))
 rw [h0] at CF
 have hp := ns h0
 have An := (sI hp).1
 have Af := hide An
 have HP := hide hp
 have H0 := hide h0
 have AJ := hide hoq
 obtain ⟨n, hn⟩ : ∃ n, T.lits.toNat = n := ⟨_, rfl⟩
 have HN := hide hn
 rw [hn] at hq hqq Af HP ⊢
 have AQ := hide hqq
 have Ab : T.lits = (n : Int) := by rw [← hn]; exact An.ln
 have Bi : n ≤ 4096 := by rw [← hn]; exact An.n4
 have Bh := hide Ab
 have AN := hide h
 have HF := hide hF
 have HB := hide hB
 have HX := hide hX
 have CW := hide (eX (q : Int) T.lits)
 have AM : bU (q : Int) T.lits = true := by unfold bU; rw [Ab]; simp; omega
 have CT := hide (pa t)
 have AV : fj t = true := by unfold fj; rcases ht with rfl | rfl | rfl | rfl <;> rfl
 rw [AM] at CW
 rw [AV] at CT
 clear h hF hB hp h0 An Ab AM AV hn hoq hqq
 go_enter Tryz.func54, Tryz.ntmps54
 go_upto_region 1 with fail
 generalize w.alloc (.cells #[.int .i64 T.lits, .slice fa T.foes.length fc, .slice ra T.rules.length rc, .slice ba T.beats.length bc] 25) = W at *
 obtain ⟨-, c0, c1, c2, c3⟩ := Bt.of hX
 clear hX
 go_upto_region 4 with (go_at_call 31; refine CF.out.mono ?_; rintro _ w1 ⟨rfl, AE⟩; have Ai := hide (HB.out.trans (AE.mono HB.out.size)); have At := hide ((AE.block _ (aE HX.out)).trans HX.out); clear AE)
 clear c0 c1 c2 c3 CF
 obtain ⟨-, c0, c1, c2, c3⟩ := Bt.of At.out
 have CO := hide (xz AJ.out (TR.go Ai.out AN.out) (Ints.go Ai.out HF.out) H0.out)
 go_upto_region 9 with (first | (go_at_call 63; refine (CW.out _).mono ?_; rintro _ _ ⟨rfl, rfl⟩) | (go_at_call 64; refine (CT.out _).mono ?_; rintro _ _ ⟨rfl, rfl⟩) | (go_at_call 93; refine CO.out.mono ?_; rintro _ w2 ⟨td, ta, tc, rfl, AK, Aw, Az, AD⟩; have Be := hide Az; have HS := hide AK; have HO := hide Aw; have AP := hide AD; have Al := hide (Ai.out.trans (AD.mono Ai.out.size)); clear AK Aw Az AD))
 have Ax := hide ((AP.out.block _ (aE At.out)).trans At.out)
 clear c0 c1 c2 c3 CO CW CT HX At HB Ai AP AJ
 have AW : td.length ≤ 16384 := (AQ.out td HS.out).1
 have Ao := hide (kh (q : Int) t w2)
 have CI := hide (fun X (hb : Below w2.heap.size w2 X) => sD (x1 := (q : Int)) (x2 := t) (oc := tc) (HO.out.go hb) (Nat.le_trans AW (by decide)))
 rcases rK (x := ((q : Int), t)) (l := td) (k := 0) with hi | ⟨i, hi, AF⟩
 · have HI := hide hi
   rw [hi] at CI
   clear hi
   go_wp2_with (first | (go_at_call 42; refine Ao.out.mono ?_; rintro _ w3 ⟨rfl, Aa⟩; have Ah := hide (CI.out w3 Aa); have Ag := hide (Al.out.trans (Aa.mono Al.out.size)); clear Aa Ao) | (go_at_call 94; refine Ah.out.mono ?_; rintro _ w4 ⟨rfl, Ae⟩; have Ad := hide (Ag.out.trans (Ae.mono Ag.out.size)); clear Ae Ah CI))
   go_ret2
   exact ⟨⟨td, HS.out, .inl ⟨HI.out, rfl⟩⟩, Ad.out⟩
 · rw [Nat.zero_add] at hi
   have HI := hide hi
   rw [hi] at CI
   have Bf : i < td.length := (List.getElem?_eq_some_iff.1 AF).1
   clear hi AF
   obtain ⟨tn, Au⟩ : ∃ z, td.length = z := ⟨_, rfl⟩
   have AO := hide Au
   rw [Au] at CI AW Bf ⊢
   clear Au
   have Bd := Be.out
   rw [AO.out] at Bd
   have CN : Hid (∀ X, Below w.heap.size w X → Calls Tryz.prog 32 #[tv T fa fc ra rc ba bc, .slice ea F.length ec] X fun e w' => ∃ (S : Nat → Prop) (q g0 g1 g2 mb fm sd pq : Nat), e = .returned (aa pq) ∧ Xr S X.heap.size ⟨q, n, fa, fc, ra, rc, ba, bc, g0, g1, g2, mb⟩ T w' ∧ Pm ⟨q, n, fa, fc, ra, rc, ba, bc, g0, g1, g2, mb⟩ pq fm sd F (fun _ => 0) w' ∧ ¬ S sd ∧ X.heap.size ≤ sd ∧ Below X.heap.size X w') := hide fun X hX => by
    refine (ly (TR.go hX AN.out) (Ints.go hX HF.out) HP.out).mono ?_
    rintro e w' ⟨S, q, g0, g1, g2, mb, fm, sd, pq, rfl, hx, As, ⟨n1, n2, n3⟩, ⟨m1, m2, m3, m4⟩, hb⟩
    exact ⟨S, q, g0, g1, g2, mb, fm, sd, pq, rfl, hx, As, n1, m1, hb⟩
   go_upto_region 12 with (first | (go_at_call 42; refine Ao.out.mono ?_; rintro _ w3 ⟨rfl, Aa⟩; have Ah := hide (CI.out w3 Aa); have Ag := hide (Al.out.trans (Aa.mono Al.out.size)); have AL := hide Aa; clear Aa Ao) | (go_at_call 94; refine Ah.out.mono ?_; rintro _ w4 ⟨rfl, Ae⟩; have Ad := hide (Ag.out.trans (Ae.mono Ag.out.size)); have AU := hide (AL.out.trans (Ae.mono AL.out.size)); clear Ae Ah CI))
   have AR := hide ((AU.out.block _ (aE Ax.out)).trans Ax.out)
   have Ay := hide (HO.out.go AU.out)
   obtain ⟨-, c0, c1, c2, c3⟩ := Bt.of AR.out
   have CM := hide (CN.out w4 Ad.out)
   go_upto_region 13 with (go_at_call 32; refine CM.out.mono ?_; rintro _ w5 ⟨S, qx, g0, g1, g2, mb, fm, sd, pq, rfl, hx, As, n1, m1, AS⟩; have AA := hide hx; have Ac := hide As; have AT := hide n1; have Ar := hide m1; have Ak := hide AS; clear hx As n1 m1 AS)
   clear c0 c1 c2 c3 CM CN AR Ax HO
   have Ap : (td.take (i + 1)).length = i + 1 := by rw [List.length_take, AO.out]; omega
   have AH : Hid (∀ x ∈ td.take (i + 1), ∃ (q j : Nat), x = ((q : Int), (j : Int) + 1) ∧ q < n ∧ j < 4) := hide fun x hx => (AQ.out td HS.out).2 x (List.mem_of_mem_take hx)
   have HDr := hide ((Below.refl w5.heap.size w5).drew)
   have AI : Hid (Prow w5.drew ta (td.take (i + 1))) := hide (o7 (Ay.out.go (Ak.out.trans (HDr.out.mono Ak.out.size))))
   have Av := hide (dp (T := T) (F := F) (f := fun _ => 0) (oc := tc) Af.out (AA.out.go HDr.out) (Ac.out.go HDr.out) AT.out Ar.out AI.out (by rw [Ap]; omega) AH.out (fun g hg hne => by
    obtain ⟨y, hy⟩ := am (l := td.take (i + 1)) (i := 0) (by rw [Ap]; omega)
    obtain ⟨g', e, hc, -⟩ := (o7 (n := i + 1) Ay.out) 0 y hy
    rw [hg] at e
    cases e
    have h9 : g < w4.heap.size := World.block_lt_of_cell? _ _ hc
    have := Ar.out
    omega))
   rw [Ap] at Av
   have Am := hide (xG (T := T) (F := F) (f := fun _ => 0) Af.out.rl AH.out)
   have AG : Hid ((dB T F n (fun _ => 0) (td.take (i + 1))).length = i + 1) := hide (by rw [oU, Ap])
   obtain ⟨L, hL⟩ : ∃ L, dB T F n (fun _ => 0) (td.take (i + 1)) = L := ⟨_, rfl⟩
   have HL := hide hL
   have AX : Hid (Calls Tryz.prog 95 #[aa pq, .slice ta (i + 1) tc] w5.drew fun e w' => ∃ va vc, e = .returned (.slice va (i + 1) vc) ∧ Below w.heap.size w w' ∧ w'.cell? ⟨pq, 0, none⟩ = some (aa qx) ∧ Calls Tryz.prog 57 #[aa qx, .slice va (i + 1) vc] w' fun e w2 => ∃ v, e = .returned v ∧ Gy 32 5 iZ w.heap.size (jD T L) v w2 ∧ Below w.heap.size w w2 ∧ w2.cell? ⟨pq, 0, none⟩ = some (aa qx)) := hide (by
    refine Av.out.mono ?_
    rintro _ w6 ⟨v, rfl, hg, hf⟩
    obtain ⟨va, vc, rfl⟩ := hg.slice
    have AC : Fr (fun k => k = sd) w5 w6 := (Fr.of_below HDr.out).trans hf
    have Aq : Below w.heap.size w w6 := (Ad.out.trans (Ak.out.mono Ad.out.size)).trans (AC.below fun k hk => ⟨by have := Ad.out.size; have := Ak.out.size; omega, fun e => by have := Ar.out; have := Ad.out.size; omega⟩)
    have Ab := AG.out
    have Ba := AA.out.fr AC fun k hk => by rw [hk]; exact ⟨AT.out, Ar.out⟩
    have AY : Xr S w4.heap.size ⟨qx, n, fa, fc, ra, rc, ba, bc, g0, g1, g2, mb⟩ T w6 := Ba
    have AB := wA (lc := vc) (K := ⟨qx, n, fa, fc, ra, rc, ba, bc, g0, g1, g2, mb⟩) Af.out AY (uh hg fun s hs => (Am.out s hs).2.2) (by rw [Ab]; omega) (by rw [Ab]; omega) (fun s hs => (Am.out s hs).1) (fun s hs => Nat.le_trans (Am.out s hs).2.1 (by decide))
    rw [hL] at Ab AB ⊢
    rw [Ab] at AB ⊢
    have Aj := Ac.out.bx.keep (AC.block _ Ac.out.bx.lt (an Ac.out.bx Ac.out.sd (by decide)))
    refine ⟨va, vc, rfl, Aq, Aj.get (i := 0) rfl, AB.mono ?_⟩
    rintro _ w7 ⟨v, rfl, h1, h2⟩
    exact ⟨v, rfl, h1.down Aq.size, Aq.trans (h2.mono Aq.size), (Aj.keep (h2.block _ Aj.lt)).get (i := 0) rfl⟩)
   have p0 := Ac.out.bx.get (i := 0) rfl
   have e1 : IntKind.i64.wrap ((i : Int) + 1) = (i : Int) + 1 := by rw [IntKind.wrap_i64]; omega
   have b1 : (0 : Int) ≤ (i : Int) + 1 := by omega
   have b2 : (i : Int) + 1 ≤ (tc : Int) := by omega
   clear Av hL Am AG AI Ay AA Ac Af
   go_region_held3 (fun X : World => X.cell? ⟨pq, 0, none⟩ = some (aa qx)) (first | assumption) (first | (go_at_call 95; refine AX.out.mono ?_; rintro e w6 ⟨va, vc, rfl, Bl, Bk, Bc⟩) | (go_at_call 57; refine Bc.mono ?_; rintro e w7 ⟨v, rfl, Bb, AZ, Bj⟩))
   all_goals
    go_wp2_with fail
    go_ret2
    exact ⟨⟨td, HS.out, .inr ⟨i, v, HI.out, rfl, by rw [HL.out]; exact Bb⟩⟩, AZ⟩
end
end Go.Proofs.YtmlhcncagdfjfaaGreat.De
