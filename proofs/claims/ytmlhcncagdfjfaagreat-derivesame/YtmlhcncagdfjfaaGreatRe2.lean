import Derived.Test.YtmlhcncagdfjfaaGreatDrP
import Derived.Test.YtmlhcncagdfjfaaGreatCnq
import Derived.Test.YtmlhcncagdfjfaaGreatLnD
import Derived.Test.YtmlhcncagdfjfaaGreatDrX
namespace Go.Proofs.YtmlhcncagdfjfaaGreat.De
open Go.RowKit Fa
def pairT : Th := ⟨2, [[1], [0]], [⟨2, 0, []⟩, ⟨2, 1, []⟩], [[1], []]⟩
def dG (x : Int × Int) : List (Int × Int) → Nat → Int
 | [], _ => -1
 | y :: l, k => if y = x then (k : Int) else dG x l (k + 1)
def vx (l : List (Int × Int)) : Bool := (List.range l.length).all fun i => match l[i]? with
 | some x => aZ pairT [] (js 2 (dI (l.take i))) x.2 x.1
 | none => true
def ip : List StM := [⟨2, 1, 3, -1, []⟩, ⟨3, 0, 2, 0, [(-1, 0)]⟩]
def pairS : List (Int × Int) := dC [6, 10] 2
def wQ (l : List (Int × Int)) : Bool := !(decide l.Nodup && vx l) || (decide (0 ≤ dG (0, 3) l 0) && decide (je pairT (dD pairT [] 2 (fun _ => 0) (l.take ((dG (0, 3) l 0).toNat + 1))) = ip) && decide (dG (1, 3) l 0 = -1))
def vu : Bool := pairS.all fun a => pairS.all fun b => pairS.all fun c => pairS.all fun d => wQ [a, b, c, d]
theorem qN : vu = true := by kernel_rfl
theorem io : dQ pairT [] = 0 := by kernel_rfl
theorem vJ : gA pairT [] [6, 10] 2 := ⟨by kernel_rfl, by kernel_rfl⟩
theorem wJ : pairS.length = 4 := by kernel_rfl
theorem nu {m : List Int} {k : Nat} {td : List (Int × Int)} (hs : gA pairT [] m k) (ht : Tld pairT [] 2 td) (hn : td.Nodup) (hm : ∀ x, x ∈ td ↔ x ∈ dC m 2) :
    0 ≤ dG (0, 3) td 0 ∧ je pairT (dD pairT [] 2 (fun _ => 0) (td.take ((dG (0, 3) td 0).toNat + 1))) = ip ∧ dG (1, 3) td 0 = -1 := by
 have e : m = [6, 10] := yt hs vJ
 subst e
 have hl : td.length = 4 := by
  rw [← wJ]
  exact Nat.le_antisymm (gM hn fun x hx => (hm x).1 hx) (gM lY fun x hx => (hm x).2 hx)
 have Aa : vx td = true := by
  unfold vx
  rw [List.all_eq_true]
  intro i _
  cases h : td[i]? with
  | none => rfl
  | some x =>
   obtain ⟨q, h1, -, -, -, h2, -⟩ := ht.step i x h
   show aZ pairT [] _ x.2 x.1 = true
   rw [h1]
   exact h2
 match td, hl with
 | [a, b, c, d], _ =>
  have ha := (hm a).1 (by simp)
  have hb := (hm b).1 (by simp)
  have hc := (hm c).1 (by simp)
  have hd := (hm d).1 (by simp)
  have h1 := List.all_eq_true.1 qN a ha
  have h2 := List.all_eq_true.1 h1 b hb
  have h3 := List.all_eq_true.1 h2 c hc
  have h4 := List.all_eq_true.1 h3 d hd
  unfold wQ at h4
  rw [Aa, decide_eq_true hn] at h4
  simp only [Bool.and_true, Bool.not_true, Bool.false_or, Bool.and_eq_true, decide_eq_true_eq] at h4
  exact ⟨h4.1.1, h4.1.2, h4.2⟩
set_option maxRecDepth 100000
set_option maxHeartbeats 3200000
theorem tq {x y : Int × Int} {l : List (Int × Int)} {k i : Nat} (h : l[k]? = some y) : dG x (l.drop k) i = if y = x then (i : Int) else dG x (l.drop (k + 1)) (i + 1) := by rw [aY h]; rfl
theorem rM {x : Int × Int} : ∀ {l : List (Int × Int)} {k : Nat}, dG x l k = -1 ∨ ∃ i : Nat, dG x l k = ((k + i : Nat) : Int) ∧ l[i]? = some x
 | [], _ => .inl rfl
 | y :: l, k => by
  unfold dG
  by_cases h : y = x
  · rw [if_pos h]
    exact .inr ⟨0, by simp, by simp [h]⟩
  · rw [if_neg h]
    rcases rM (x := x) (l := l) (k := k + 1) with h2 | ⟨i, h2, h3⟩
    · exact .inl h2
    · exact .inr ⟨i + 1, by rw [h2]; congr 1; omega, by simpa using h3⟩
theorem sC {w : World} {oa : Option Addr} {od : List (Int × Int)} {oc : Nat} {x1 x2 : Int} (h : Prow w oa od) (hl : od.length ≤ 140737488351232) :
    Calls Tryz.prog 94 #[.slice oa od.length oc, .agg #[.int .i64 x1, .int .i64 x2]] w fun e w' => e = .returned (.int .i64 (dG (x1, x2) od 0)) ∧ Below w.heap.size w w' := by
 have hB := ac w (.cells #[.int .i64 x1, .int .i64 x2] 85)
 have hQ : Fx w.heap.size 85 [.int .i64 x1, .int .i64 x2] (w.alloc (.cells #[.int .i64 x1, .int .i64 x2] 85)) := heap_alloc_new w _
 have HP := hide (h.go hB)
 have HB := hide hB
 have HQ := hide hQ
 obtain ⟨o, ho⟩ : ∃ o, dG (x1, x2) od 0 = o := ⟨_, rfl⟩
 rw [ho]
 have HO : Hid (dG (x1, x2) (od.drop 0) 0 = o) := hide (by rw [List.drop_zero]; exact ho)
 clear h hB hQ ho
 go_enter Tryz.func94, Tryz.ntmps94
 go_upto_region 1 with fail
 generalize w.alloc (.cells #[.int .i64 x1, .int .i64 x2] 85) = w1 at *
 obtain ⟨b, hb⟩ : ∃ b, w.heap.size = b := ⟨_, rfl⟩
 rw [hb] at HQ ⊢
 clear hb
 go_wp2_with fail
 go_loopw [8] (fun x wr => ∃ k : Nat, k ≤ od.length ∧ x = .int .i64 k ∧ Hid (dG (x1, x2) (od.drop k) k = o) ∧ Hid (∃ q, wr = w1.drewN q)) (fun x _ => od.length - (intOf x).toNat)
 case atStart => exact ⟨0, by omega, rfl, HO, hide ⟨0, rfl⟩⟩
 case round =>
  clear HO
  obtain ⟨k, hk, rfl, HO, HW⟩ := hrel
  have Aa : Hid (Below w.heap.size w wr) := hide (by obtain ⟨q, rfl⟩ := HW.out; exact HB.out.trans ((ah w1 q).mono HB.out.size))
  by_cases hlt : k < od.length
  · obtain ⟨⟨y1, y2⟩, hy⟩ := am hlt
    obtain ⟨g, rfl, j0, j1⟩ := HP.out k _ hy
    have Af : wr.cell? ⟨g, k * 2, none⟩ = some (.int .i64 y1) := by obtain ⟨q, rfl⟩ := HW.out; exact j0
    have Ad : wr.cell? ⟨g, k * 2 + 1, none⟩ = some (.int .i64 y2) := by obtain ⟨q, rfl⟩ := HW.out; exact j1
    have Ac : wr.cell? ⟨b, 0, none⟩ = some (.int .i64 x1) := by obtain ⟨q, rfl⟩ := HW.out; exact HQ.out.get (i := 0) rfl
    have Ae : wr.cell? ⟨b, 1, none⟩ = some (.int .i64 x2) := by obtain ⟨q, rfl⟩ := HW.out; exact HQ.out.get (i := 1) rfl
    have HS := hide (tq (x := (x1, x2)) (i := k) hy)
    clear j0 j1 hy
    by_cases hs : x1 = y1 ∧ x2 = y2
    · obtain ⟨rfl, rfl⟩ := hs
      have HE : Hid (o = (k : Int)) := hide (by rw [← HO.out, HS.out, if_pos rfl])
      clear HS HO
      go_wp2_with fail
      go_quiet (fail)
      go_wp2_with fail
      go_ret
      rw [HE.out]
      exact ⟨rfl, Aa.out.trans ((ah wr _).mono Aa.out.size)⟩
    · have HE : Hid (dG (x1, x2) (od.drop (k + 1)) (k + 1) = o) := hide (by rw [← HO.out, HS.out, if_neg (fun e => hs ⟨(congrArg Prod.fst e).symm, (congrArg Prod.snd e).symm⟩)])
      clear HS HO
      by_cases hs1 : x1 = y1
      · subst hs1
        have Ab : (x2 == y2) = false := beq_eq_false_iff_ne.2 fun e => hs ⟨rfl, e⟩
        go_wp2_with fail
        go_quiet (fail)
        go_wp2_with fail
        go_roundw
        case rel => exact ⟨k + 1, by omega, by go_num, HE, hide (by obtain ⟨q, rfl⟩ := HW.out; exact ⟨_, World.drewN_drewN _ _ _⟩)⟩
        case measure => simp [intOf]; omega
      · have Ab : (x1 == y1) = false := beq_eq_false_iff_ne.2 hs1
        go_wp2_with fail
        go_quiet (fail)
        go_wp2_with fail
        go_roundw
        case rel => exact ⟨k + 1, by omega, by go_num, HE, hide (by obtain ⟨q, rfl⟩ := HW.out; exact ⟨_, World.drewN_drewN _ _ _⟩)⟩
        case measure => simp [intOf]; omega
  · have HE : Hid (o = -1) := hide (by rw [← HO.out, List.drop_eq_nil_of_le (by omega)]; rfl)
    clear HO
    go_wp2_with fail
    go_ret
    rw [HE.out]
    exact ⟨rfl, Aa.out⟩
theorem o8 {T : Th} {F : List Int} {n : Nat} : ∀ {l : List (Int × Int)} {f : Int → Int}, (dD T F n f l).length = l.length
 | [], f => rfl
 | x :: l, f => by unfold dD; rw [List.length_cons, o8, List.length_cons]
theorem oK {T : Th} {F : List Int} {n : Nat} {s : StM} : ∀ {l : List (Int × Int)} {f : Int → Int}, s ∈ dD T F n f l → ∃ f' x, x ∈ l ∧ s = fG T F f' x.1 x.2
 | [], f, h => by cases h
 | x :: l, f, h => by
  unfold dD at h
  rcases List.mem_cons.1 h with h | h
  · exact ⟨f, x, List.mem_cons_self .., h⟩
  · obtain ⟨f', y, h1, h2⟩ := oK h
    exact ⟨f', y, List.mem_cons_of_mem _ h1, h2⟩
theorem qC {T : Th} {f : Int → Int} {q : Int} : ∀ {l : List Int}, (dB T f q l).1 = 5
 | [] => rfl
 | x :: l => by
  unfold dB
  split
  · rfl
  · exact qC
theorem tF {T : Th} {F : List Int} {f : Int → Int} {q t : Int} : 1 ≤ (d7 T F f q t).1 ∧ (d7 T F f q t).1 ≤ 5 := by
 unfold d7 rsPD rsMD rsPP rsMP
 repeat' split
 all_goals first
  | (rw [qC]; omega)
  | (simp only; omega)
  | decide
theorem qA {m : List Int} : ∀ {k : Nat}, (dC m k).length ≤ 4 * k
 | 0 => by simp [dC]
 | k + 1 => by
  unfold dC
  rw [List.length_append]
  have h1 := qA (m := m) (k := k)
  have h2 : (kh m k).length ≤ 4 := by
   unfold kh
   rw [List.length_map]
   exact Nat.le_trans (List.length_filter_le _ _) (by simp [tags])
  omega
set_option maxRecDepth 100000
set_option maxHeartbeats 25600000
theorem vv {m : List Int} {n : Nat} {td : List (Int × Int)} (hm : ∀ x, x ∈ td ↔ x ∈ dC m n) : ∀ x ∈ td, ∃ (q j : Nat), x = ((q : Int), (j : Int) + 1) ∧ q < n ∧ j < 4 := by
 intro x hx
 obtain ⟨q, h1, h2, h3, -⟩ := fd.1 ((hm x).1 hx)
 rcases h3 with h | h | h | h
 · exact ⟨q, 0, Prod.ext h2 (by rw [h]; rfl), h1, by omega⟩
 · exact ⟨q, 1, Prod.ext h2 (by rw [h]; rfl), h1, by omega⟩
 · exact ⟨q, 2, Prod.ext h2 (by rw [h]; rfl), h1, by omega⟩
 · exact ⟨q, 3, Prod.ext h2 (by rw [h]; rfl), h1, by omega⟩
theorem xH {T : Th} {F : List Int} {n : Nat} {f : Int → Int} {td : List (Int × Int)} (hT : T.rules.length ≤ 4096) (ho : ∀ x ∈ td, ∃ (q j : Nat), x = ((q : Int), (j : Int) + 1) ∧ q < n ∧ j < 4) : ∀ s ∈ dD T F n f td, (∃ q j : Nat, s.lit = (q : Int) ∧ s.tag = (j : Int) ∧ q < n ∧ 1 ≤ j ∧ j ≤ 4) ∧ s.ch.length ≤ 4096 ∧ vj s := by
 intro s hs
 obtain ⟨f', x, hx, rfl⟩ := oK hs
 obtain ⟨q, j, rfl, hq, hj⟩ := ho x hx
 have hl := o9 (T := T) (F := F) (f := f') (q := (q : Int)) (t := (j : Int) + 1) hT
 have hh := tF (T := T) (F := F) (f := f') (q := (q : Int)) (t := (j : Int) + 1)
 refine ⟨⟨q, j + 1, rfl, by show (j : Int) + 1 = ((j + 1 : Nat) : Int); omega, hq, by omega, by omega⟩, hl, Nat.le_trans hl (by decide), ?_, ?_⟩
 · show en ((j : Int) + 1)
   unfold en
   omega
 · show en (d7 T F f' (q : Int) ((j : Int) + 1)).1
   unfold en
   omega
theorem ux {m : List Int} {n : Nat} {td : List (Int × Int)} (hn : td.Nodup) (hm : ∀ x, x ∈ td ↔ x ∈ dC m n) : td.length ≤ 4 * n := Nat.le_trans (gM hn fun x hx => (hm x).1 hx) qA
theorem o7 {w : World} {a : Option Addr} {l : List (Int × Int)} {n : Nat} (h : Prow w a l) : Prow w a (l.take n) := by
 intro i x hx
 rw [List.getElem?_take] at hx
 split at hx
 · exact h i x hx
 · cases hx
section
variable {w : World} {T : Th} {F : List Int} {fa ra ba ea : Option Addr} {fc rc bc ec : Nat}
theorem pb (h : TA w.heap.size w T fa fc ra rc ba bc) (hF : Ints w.heap.size w F (.slice ea F.length ec)) (h0 : dQ T F = 0) {q : Nat} (hq : q < T.lits.toNat) {t : Int} (ht : ar t) :
    Calls Tryz.prog 54 #[tv T fa fc ra rc ba bc, .slice ea F.length ec, .int .i64 (q : Int), .int .i64 t] w fun e w' => (∃ td m k, (gA T F m k ∧ Tld T F T.lits.toNat td ∧ td.Nodup ∧ ∀ x, x ∈ td ↔ x ∈ dC m T.lits.toNat) ∧
     ((dG ((q : Int), t) td 0 = -1 ∧ e = .returned (.tuple #[.slice none 0 0, .int .i64 203])) ∨ ∃ (i : Nat) (v : Value), dG ((q : Int), t) td 0 = (i : Int) ∧ e = .returned (.tuple #[v, .int .i64 0]) ∧ Gy 32 5 jj w.heap.size (je T (dD T F T.lits.toNat (fun _ => 0) (td.take (i + 1)))) v w')) ∧ Below w.heap.size w w' := by
 have hB := ac w (.cells #[.int .i64 T.lits, .slice fa T.foes.length fc, .slice ra T.rules.length rc, .slice ba T.beats.length bc] 25)
 have hX := heap_alloc_new w (.cells #[.int .i64 T.lits, .slice fa T.foes.length fc, .slice ra T.rules.length rc, .slice ba T.beats.length bc] 25)
 have Bh : Tryz.prog.follows .mixedOrders = true := by kernel_rfl
 have CF := hide (mZ (TR.go hB h) (Ints.go hB hF))
 rw [h0] at CF
 have hp := sH h0
 have An := (sV hp).1
 have Ag := hide An
 have HP := hide hp
 have H0 := hide h0
 obtain ⟨n, hn⟩ : ∃ n, T.lits.toNat = n := ⟨_, rfl⟩
 have HN := hide hn
 rw [hn] at hq Ag HP ⊢
 have Ab : T.lits = (n : Int) := by rw [← hn]; exact An.ln
 have Bm : n ≤ 4096 := by rw [← hn]; exact An.n4
 have Bj := hide Ab
 have AU := hide h
 have HF := hide hF
 have HB := hide hB
 have HX := hide hX
 have CW := hide (fB (q : Int) T.lits)
 have AX : cJ (q : Int) T.lits = true := by unfold cJ; rw [Ab]; simp; omega
 have CT := hide (pa t)
 have AS : fW t = true := by unfold fW; rcases ht with rfl | rfl | rfl | rfl <;> rfl
 rw [AX] at CW
 rw [AS] at CT
 clear h hF hB hp h0 An Ab AX AS hn
 go_enter Tryz.func54, Tryz.ntmps54
 go_upto_region 1 with fail
 generalize w.alloc (.cells #[.int .i64 T.lits, .slice fa T.foes.length fc, .slice ra T.rules.length rc, .slice ba T.beats.length bc] 25) = W at *
 obtain ⟨-, c0, c1, c2, c3⟩ := Bt.of hX
 clear hX
 go_upto_region 4 with (go_at_call 31; refine CF.out.mono ?_; rintro _ w1 ⟨rfl, AG⟩; have Ah := hide (HB.out.trans (AG.mono HB.out.size)); have Aq := hide ((AG.block _ (aR HX.out)).trans HX.out); clear AG)
 clear c0 c1 c2 c3 CF
 obtain ⟨-, c0, c1, c2, c3⟩ := Bt.of Aq.out
 have CO := hide (uP (TR.go Ah.out AU.out) (Ints.go Ah.out HF.out) H0.out)
 rw [HN.out] at CO
 go_upto_region 9 with (first | (go_at_call 63; refine (CW.out _).mono ?_; rintro _ _ ⟨rfl, rfl⟩) | (go_at_call 64; refine (CT.out _).mono ?_; rintro _ _ ⟨rfl, rfl⟩) | (go_at_call 93; refine CO.out.mono ?_; rintro _ w2 ⟨td, ta, tc, m, k, rfl, ⟨AJ, -, AD, AV, AE⟩, Ay, Av, AH⟩; have Ba := hide Av; have HS := hide (And.intro AJ (And.intro AD (And.intro AV AE))); have HO := hide Ay; have AK := hide AH; have Ak := hide (Ah.out.trans (AH.mono Ah.out.size)); clear AJ AD AV AE Ay Av AH))
 have Aw := hide ((AK.out.block _ (aR Aq.out)).trans Aq.out)
 clear c0 c1 c2 c3 CO CW CT HX Aq HB Ah AK
 have AP : td.length ≤ 16384 := by have := ux HS.out.2.2.1 HS.out.2.2.2; omega
 have Ao := hide (jU (q : Int) t w2)
 have CI := hide (fun X (hb : Below w2.heap.size w2 X) => sC (x1 := (q : Int)) (x2 := t) (oc := tc) (HO.out.go hb) (Nat.le_trans AP (by decide)))
 rcases rM (x := ((q : Int), t)) (l := td) (k := 0) with hi | ⟨i, hi, Az⟩
 · have HI := hide hi
   rw [hi] at CI
   clear hi
   go_wp2_with (first | (go_at_call 42; refine Ao.out.mono ?_; rintro _ w3 ⟨rfl, Aa⟩; have Ai := hide (CI.out w3 Aa); have Af := hide (Ak.out.trans (Aa.mono Ak.out.size)); clear Aa Ao) | (go_at_call 94; refine Ai.out.mono ?_; rintro _ w4 ⟨rfl, Ae⟩; have Ad := hide (Af.out.trans (Ae.mono Af.out.size)); clear Ae Ai CI))
   go_ret2
   exact ⟨⟨td, m, k, HS.out, .inl ⟨HI.out, rfl⟩⟩, Ad.out⟩
 · rw [Nat.zero_add] at hi
   have HI := hide hi
   rw [hi] at CI
   have Bd : i < td.length := (List.getElem?_eq_some_iff.1 Az).1
   clear hi Az
   obtain ⟨tn, AA⟩ : ∃ z, td.length = z := ⟨_, rfl⟩
   have AT := hide AA
   rw [AA] at CI AP Bd ⊢
   clear AA
   have Bb := Ba.out
   rw [AT.out] at Bb
   have CN : Hid (∀ X, Below w.heap.size w X → Calls Tryz.prog 32 #[tv T fa fc ra rc ba bc, .slice ea F.length ec] X fun e w' => ∃ (S : Nat → Prop) (q g0 g1 g2 mb fm sd pq : Nat), e = .returned (ab pq) ∧ Xr S X.heap.size ⟨q, n, fa, fc, ra, rc, ba, bc, g0, g1, g2, mb⟩ T w' ∧ Pm ⟨q, n, fa, fc, ra, rc, ba, bc, g0, g1, g2, mb⟩ pq fm sd F (fun _ => 0) w' ∧ ¬ S sd ∧ X.heap.size ≤ sd ∧ Below X.heap.size X w') := hide fun X hX => by
    refine (kQ (TR.go hX AU.out) (Ints.go hX HF.out) HP.out).mono ?_
    rintro e w' ⟨S, q, g0, g1, g2, mb, fm, sd, pq, rfl, hx, Am, ⟨n1, n2, n3⟩, ⟨m1, m2, m3, m4⟩, hb⟩
    exact ⟨S, q, g0, g1, g2, mb, fm, sd, pq, rfl, hx, Am, n1, m1, hb⟩
   go_upto_region 12 with (first | (go_at_call 42; refine Ao.out.mono ?_; rintro _ w3 ⟨rfl, Aa⟩; have Ai := hide (CI.out w3 Aa); have Af := hide (Ak.out.trans (Aa.mono Ak.out.size)); have AO := hide Aa; clear Aa Ao) | (go_at_call 94; refine Ai.out.mono ?_; rintro _ w4 ⟨rfl, Ae⟩; have Ad := hide (Af.out.trans (Ae.mono Af.out.size)); have AQ := hide (AO.out.trans (Ae.mono AO.out.size)); clear Ae Ai CI))
   have AR := hide ((AQ.out.block _ (aR Aw.out)).trans Aw.out)
   have AI := hide (HO.out.go AQ.out)
   obtain ⟨-, c0, c1, c2, c3⟩ := Bt.of AR.out
   have CM := hide (CN.out w4 Ad.out)
   go_upto_region 13 with (go_at_call 32; refine CM.out.mono ?_; rintro _ w5 ⟨S, qx, g0, g1, g2, mb, fm, sd, pq, rfl, hx, Am, n1, m1, AW⟩; have AB := hide hx; have Ac := hide Am; have AN := hide n1; have Al := hide m1; have At := hide AW; clear hx Am n1 m1 AW)
   clear c0 c1 c2 c3 CM CN AR Aw HO
   have As : (td.take (i + 1)).length = i + 1 := by rw [List.length_take, AT.out]; omega
   have AL : Hid (∀ x ∈ td.take (i + 1), ∃ (q j : Nat), x = ((q : Int), (j : Int) + 1) ∧ q < n ∧ j < 4) := hide fun x hx => vv HS.out.2.2.2 x (List.mem_of_mem_take hx)
   have HDr := hide ((Below.refl w5.heap.size w5).drew)
   have AM : Hid (Prow w5.drew ta (td.take (i + 1))) := hide (o7 (AI.out.go (At.out.trans (HDr.out.mono At.out.size))))
   have Ax := hide (dA (T := T) (F := F) (f := fun _ => 0) (oc := tc) Ag.out (AB.out.go HDr.out) (Ac.out.go HDr.out) AN.out Al.out AM.out (by rw [As]; omega) AL.out (fun g hg hne => by
    obtain ⟨y, hy⟩ := am (l := td.take (i + 1)) (i := 0) (by rw [As]; omega)
    obtain ⟨g', e, hc, -⟩ := (o7 (n := i + 1) AI.out) 0 y hy
    rw [hg] at e
    cases e
    have h9 : g < w4.heap.size := World.block_lt_of_cell? _ _ hc
    have := Al.out
    omega))
   rw [As] at Ax
   have Ap := hide (xH (T := T) (F := F) (f := fun _ => 0) Ag.out.rl AL.out)
   have AC : Hid ((dD T F n (fun _ => 0) (td.take (i + 1))).length = i + 1) := hide (by rw [o8, As])
   obtain ⟨L, hL⟩ : ∃ L, dD T F n (fun _ => 0) (td.take (i + 1)) = L := ⟨_, rfl⟩
   have HL := hide hL
   have AZ : Hid (Calls Tryz.prog 95 #[ab pq, .slice ta (i + 1) tc] w5.drew fun e w' => ∃ va vc, e = .returned (.slice va (i + 1) vc) ∧ Below w.heap.size w w' ∧ w'.cell? ⟨pq, 0, none⟩ = some (ab qx) ∧ Calls Tryz.prog 57 #[ab qx, .slice va (i + 1) vc] w' fun e w2 => ∃ v, e = .returned v ∧ Gy 32 5 jj w.heap.size (je T L) v w2 ∧ Below w.heap.size w w2 ∧ w2.cell? ⟨pq, 0, none⟩ = some (ab qx)) := hide (by
    refine Ax.out.mono ?_
    rintro _ w6 ⟨v, rfl, hg, hf⟩
    obtain ⟨va, vc, rfl⟩ := hg.slice
    have AF : Fr (fun k => k = sd) w5 w6 := (Fr.of_below HDr.out).trans hf
    have Ar : Below w.heap.size w w6 := (Ad.out.trans (At.out.mono Ad.out.size)).trans (AF.below fun k hk => ⟨by have := Ad.out.size; have := At.out.size; omega, fun e => by have := Al.out; have := Ad.out.size; omega⟩)
    have Ab := AC.out
    have Be := AB.out.fr AF fun k hk => by rw [hk]; exact ⟨AN.out, Al.out⟩
    have AY : Xr S w4.heap.size ⟨qx, n, fa, fc, ra, rc, ba, bc, g0, g1, g2, mb⟩ T w6 := Be
    have Au := vf (lc := vc) (K := ⟨qx, n, fa, fc, ra, rc, ba, bc, g0, g1, g2, mb⟩) Ag.out AY (uk hg fun s hs => (Ap.out s hs).2.2) (by rw [Ab]; omega) (by rw [Ab]; omega) (fun s hs => (Ap.out s hs).1) (fun s hs => Nat.le_trans (Ap.out s hs).2.1 (by decide))
    rw [hL] at Ab Au ⊢
    rw [Ab] at Au ⊢
    have Aj := Ac.out.bx.keep (AF.block _ Ac.out.bx.lt (an Ac.out.bx Ac.out.sd (by decide)))
    refine ⟨va, vc, rfl, Ar, Aj.get (i := 0) rfl, Au.mono ?_⟩
    rintro _ w7 ⟨v, rfl, h1, h2⟩
    exact ⟨v, rfl, h1.down Ar.size, Ar.trans (h2.mono Ar.size), (Aj.keep (h2.block _ Aj.lt)).get (i := 0) rfl⟩)
   have p0 := Ac.out.bx.get (i := 0) rfl
   have e1 : IntKind.i64.wrap ((i : Int) + 1) = (i : Int) + 1 := by rw [IntKind.wrap_i64]; omega
   have b1 : (0 : Int) ≤ (i : Int) + 1 := by omega
   have b2 : (i : Int) + 1 ≤ (tc : Int) := by omega
   clear Ax hL Ap AC AM AI AB Ac Ag
   go_region_held3 (fun X : World => X.cell? ⟨pq, 0, none⟩ = some (ab qx)) (first | assumption) (first | (go_at_call 95; refine AZ.out.mono ?_; rintro e w6 ⟨va, vc, rfl, Bl, Bk, Bg⟩) | (go_at_call 57; refine Bg.mono ?_; rintro e w7 ⟨v, rfl, Bf, Bc, Bi⟩))
   all_goals
    go_wp2_with fail
    go_ret2
    exact ⟨⟨td, m, k, HS.out, .inr ⟨i, v, HI.out, rfl, by rw [HL.out]; exact Bf⟩⟩, Bc⟩
end
end Go.Proofs.YtmlhcncagdfjfaaGreat.De
