import Derived.Test.YtmlhcncagdfjfaaGreatDrP
import Derived.Test.YtmlhcncagdfjfaaGreatCnq
import Derived.Test.YtmlhcncagdfjfaaGreatLnD
import Derived.Test.YtmlhcncagdfjfaaGreatDrX
namespace Go.Proofs.YtmlhcncagdfjfaaGreat.De
open Go.RowKit Fa
def pairT : Th := ⟨2, [[1], [0]], [⟨2, 0, []⟩, ⟨2, 1, []⟩], [[1], []]⟩
def dY (x : Int × Int) : List (Int × Int) → Nat → Int
 | [], _ => -1
 | y :: l, k => if y = x then (k : Int) else dY x l (k + 1)
def xM (l : List (Int × Int)) : Bool := (List.range l.length).all fun i => match l[i]? with
 | some x => bf pairT [] (ke 2 (dX (l.take i))) x.2 x.1
 | none => true
def i9 : List StM := [⟨2, 1, 3, -1, []⟩, ⟨3, 0, 2, 0, [(-1, 0)]⟩]
def pairS : List (Int × Int) := dV [6, 10] 2
def zg (l : List (Int × Int)) : Bool := !(decide l.Nodup && xM l) || (decide (0 ≤ dY (0, 3) l 0) && decide (jV pairT (dW pairT [] 2 (fun _ => 0) (l.take ((dY (0, 3) l 0).toNat + 1))) = i9) && decide (dY (1, 3) l 0 = -1))
def xT : Bool := pairS.all fun a => pairS.all fun b => pairS.all fun c => pairS.all fun d => zg [a, b, c, d]
theorem sV : xT = true := by kernel_rfl
theorem i6 : bB pairT [] = 0 := by kernel_rfl
theorem xj : fU pairT [] [6, 10] 2 := ⟨by kernel_rfl, by kernel_rfl⟩
theorem xU : pairS.length = 4 := by kernel_rfl
theorem oO {m : List Int} {k : Nat} {td : List (Int × Int)} (hs : fU pairT [] m k) (ht : Tld pairT [] 2 td) (hn : td.Nodup) (hm : ∀ x, x ∈ td ↔ x ∈ dV m 2) :
    0 ≤ dY (0, 3) td 0 ∧ jV pairT (dW pairT [] 2 (fun _ => 0) (td.take ((dY (0, 3) td 0).toNat + 1))) = i9 ∧ dY (1, 3) td 0 = -1 := by
 have e : m = [6, 10] := B3 hs xj
 subst e
 have hl : td.length = 4 := by
  rw [← xU]
  exact Nat.le_antisymm (ip hn fun x hx => (hm x).1 hx) (ip nM fun x hx => (hm x).2 hx)
 have Aa : xM td = true := by
  unfold xM
  rw [List.all_eq_true]
  intro i _
  cases h : td[i]? with
  | none => rfl
  | some x =>
   obtain ⟨q, h1, -, -, -, h2, -⟩ := ht.step i x h
   show bf pairT [] _ x.2 x.1 = true
   rw [h1]
   exact h2
 match td, hl with
 | [a, b, c, d], _ =>
  have ha := (hm a).1 (by simp)
  have hb := (hm b).1 (by simp)
  have hc := (hm c).1 (by simp)
  have hd := (hm d).1 (by simp)
  have h1 := List.all_eq_true.1 sV a ha
  have h2 := List.all_eq_true.1 h1 b hb
  have h3 := List.all_eq_true.1 h2 c hc
  have h4 := List.all_eq_true.1 h3 d hd
  unfold zg at h4
  rw [Aa, decide_eq_true hn] at h4
  simp only [Bool.and_true, Bool.not_true, Bool.false_or, Bool.and_eq_true, decide_eq_true_eq] at h4
  exact ⟨h4.1.1, h4.1.2, h4.2⟩
set_option maxRecDepth 100000
set_option maxHeartbeats 3200000
theorem wo {x y : Int × Int} {l : List (Int × Int)} {k i : Nat} (h : l[k]? = some y) : dY x (l.drop k) i = if y = x then (i : Int) else dY x (l.drop (k + 1)) (i + 1) := by rw [be h]; rfl
theorem tN {x : Int × Int} : ∀ {l : List (Int × Int)} {k : Nat}, dY x l k = -1 ∨ ∃ i : Nat, dY x l k = ((k + i : Nat) : Int) ∧ l[i]? = some x
 | [], _ => .inl rfl
 | y :: l, k => by
  unfold dY
  by_cases h : y = x
  · rw [if_pos h]
    exact .inr ⟨0, by simp, by simp [h]⟩
  · rw [if_neg h]
    rcases tN (x := x) (l := l) (k := k + 1) with h2 | ⟨i, h2, h3⟩
    · exact .inl h2
    · exact .inr ⟨i + 1, by rw [h2]; congr 1; omega, by simpa using h3⟩
theorem tV {w : World} {oa : Option Addr} {od : List (Int × Int)} {oc : Nat} {x1 x2 : Int} (h : Prow w oa od) (hl : od.length ≤ 140737488351232) :
    Calls Tryz.prog 94 #[.slice oa od.length oc, .agg #[.int .i64 x1, .int .i64 x2]] w fun e w' => e = .returned (.int .i64 (dY (x1, x2) od 0)) ∧ Below w.heap.size w w' := by
 have hB := ae w (.cells #[.int .i64 x1, .int .i64 x2] 85)
 have hQ : Fx w.heap.size 85 [.int .i64 x1, .int .i64 x2] (w.alloc (.cells #[.int .i64 x1, .int .i64 x2] 85)) := heap_alloc_new w _
 have HP := hide (h.go hB)
 have HB := hide hB
 have HQ := hide hQ
 obtain ⟨o, ho⟩ : ∃ o, dY (x1, x2) od 0 = o := ⟨_, rfl⟩
 rw [ho]
 have HO : Hid (dY (x1, x2) (od.drop 0) 0 = o) := hide (by rw [List.drop_zero]; exact ho)
 clear h hB hQ ho
 go_enter Tryz.func94, Tryz.ntmps94
 go_upto_region 1 with fail
 generalize w.alloc (.cells #[.int .i64 x1, .int .i64 x2] 85) = w1 at *
 obtain ⟨b, hb⟩ : ∃ b, w.heap.size = b := ⟨_, rfl⟩
 rw [hb] at HQ ⊢
 clear hb
 go_wp2_with fail
 go_loopw [8] (fun x wr => ∃ k : Nat, k ≤ od.length ∧ x = .int .i64 k ∧ Hid (dY (x1, x2) (od.drop k) k = o) ∧ Hid (∃ q, wr = w1.drewN q)) (fun x _ => od.length - (intOf x).toNat)
 case atStart => exact ⟨0, by omega, rfl, HO, hide ⟨0, rfl⟩⟩
 case round =>
  clear HO
  obtain ⟨k, hk, rfl, HO, HW⟩ := hrel
  have Aa : Hid (Below w.heap.size w wr) := hide (by obtain ⟨q, rfl⟩ := HW.out; exact HB.out.trans ((aj w1 q).mono HB.out.size))
  by_cases hlt : k < od.length
  · obtain ⟨⟨y1, y2⟩, hy⟩ := an hlt
    obtain ⟨g, rfl, j0, j1⟩ := HP.out k _ hy
    have Ac : wr.cell? ⟨g, k * 2, none⟩ = some (.int .i64 y1) := by obtain ⟨q, rfl⟩ := HW.out; exact j0
    have Ae : wr.cell? ⟨g, k * 2 + 1, none⟩ = some (.int .i64 y2) := by obtain ⟨q, rfl⟩ := HW.out; exact j1
    have Ad : wr.cell? ⟨b, 0, none⟩ = some (.int .i64 x1) := by obtain ⟨q, rfl⟩ := HW.out; exact HQ.out.get (i := 0) rfl
    have Af : wr.cell? ⟨b, 1, none⟩ = some (.int .i64 x2) := by obtain ⟨q, rfl⟩ := HW.out; exact HQ.out.get (i := 1) rfl
    have HS := hide (wo (x := (x1, x2)) (i := k) hy)
    clear j0 j1 hy
    by_cases hs : x1 = y1 ∧ x2 = y2
    · obtain ⟨rfl, rfl⟩ := hs
      have HE : Hid (o = (k : Int)) := hide (by rw [← HO.out, HS.out, if_pos rfl])
      clear HS HO
      go_wp2_with fail
      go_quiet (fail)
      go_wp2_with fail
      go_ret
      rw [HE.out]
      exact ⟨rfl, Aa.out.trans ((aj wr _).mono Aa.out.size)⟩
    · have HE : Hid (dY (x1, x2) (od.drop (k + 1)) (k + 1) = o) := hide (by rw [← HO.out, HS.out, if_neg (fun e => hs ⟨(congrArg Prod.fst e).symm, (congrArg Prod.snd e).symm⟩)])
      clear HS HO
      by_cases hs1 : x1 = y1
      · subst hs1
        have Ab : (x2 == y2) = false := beq_eq_false_iff_ne.2 fun e => hs ⟨rfl, e⟩
        go_wp2_with fail
        go_quiet (fail)
        go_wp2_with fail
        go_roundw
        case rel => exact ⟨k + 1, by omega, by go_num, HE, hide (by obtain ⟨q, rfl⟩ := HW.out; exact ⟨_, World.drewN_drewN _ _ _⟩)⟩
        case measure => simp [intOf]; omega
      · have Ab : (x1 == y1) = false := beq_eq_false_iff_ne.2 hs1
        go_wp2_with fail
        go_quiet (fail)
        go_wp2_with fail
        go_roundw
        case rel => exact ⟨k + 1, by omega, by go_num, HE, hide (by obtain ⟨q, rfl⟩ := HW.out; exact ⟨_, World.drewN_drewN _ _ _⟩)⟩
        case measure => simp [intOf]; omega
  · have HE : Hid (o = -1) := hide (by rw [← HO.out, List.drop_eq_nil_of_le (by omega)]; rfl)
    clear HO
    go_wp2_with fail
    go_ret
    rw [HE.out]
    exact ⟨rfl, Aa.out⟩
theorem qa {T : Th} {F : List Int} {n : Nat} : ∀ {l : List (Int × Int)} {f : Int → Int}, (dW T F n f l).length = l.length
 | [], f => rfl
 | x :: l, f => by unfold dW; rw [List.length_cons, qa, List.length_cons]
theorem qm {T : Th} {F : List Int} {n : Nat} {s : StM} : ∀ {l : List (Int × Int)} {f : Int → Int}, s ∈ dW T F n f l → ∃ f' x, x ∈ l ∧ s = ga T F f' x.1 x.2
 | [], f, h => by cases h
 | x :: l, f, h => by
  unfold dW at h
  rcases List.mem_cons.1 h with h | h
  · exact ⟨f, x, List.mem_cons_self .., h⟩
  · obtain ⟨f', y, h1, h2⟩ := qm h
    exact ⟨f', y, List.mem_cons_of_mem _ h1, h2⟩
theorem sa {T : Th} {f : Int → Int} {q : Int} : ∀ {l : List Int}, (dS T f q l).1 = 5
 | [] => rfl
 | x :: l => by
  unfold dS
  split
  · rfl
  · exact sa
theorem uZ {T : Th} {F : List Int} {f : Int → Int} {q t : Int} : 1 ≤ (ev T F f q t).1 ∧ (ev T F f q t).1 ≤ 5 := by
 unfold ev rsPD rsMD rsPP rsMP
 repeat' split
 all_goals first
  | (rw [sa]; omega)
  | (simp only; omega)
  | decide
theorem qW {m : List Int} : ∀ {k : Nat}, (dV m k).length ≤ 4 * k
 | 0 => by simp [dV]
 | k + 1 => by
  unfold dV
  rw [List.length_append]
  have h1 := qW (m := m) (k := k)
  have h2 : (lH m k).length ≤ 4 := by
   unfold lH
   rw [List.length_map]
   exact Nat.le_trans (List.length_filter_le _ _) (by simp [tags])
  omega
set_option maxRecDepth 100000
set_option maxHeartbeats 25600000
theorem yj {m : List Int} {n : Nat} {td : List (Int × Int)} (hm : ∀ x, x ∈ td ↔ x ∈ dV m n) : ∀ x ∈ td, ∃ (q j : Nat), x = ((q : Int), (j : Int) + 1) ∧ q < n ∧ j < 4 := by
 intro x hx
 obtain ⟨q, h1, h2, h3, -⟩ := fG.1 ((hm x).1 hx)
 rcases h3 with h | h | h | h
 · exact ⟨q, 0, Prod.ext h2 (by rw [h]; rfl), h1, by omega⟩
 · exact ⟨q, 1, Prod.ext h2 (by rw [h]; rfl), h1, by omega⟩
 · exact ⟨q, 2, Prod.ext h2 (by rw [h]; rfl), h1, by omega⟩
 · exact ⟨q, 3, Prod.ext h2 (by rw [h]; rfl), h1, by omega⟩
theorem zT {T : Th} {F : List Int} {n : Nat} {f : Int → Int} {td : List (Int × Int)} (hT : T.rules.length ≤ 4096) (ho : ∀ x ∈ td, ∃ (q j : Nat), x = ((q : Int), (j : Int) + 1) ∧ q < n ∧ j < 4) : ∀ s ∈ dW T F n f td, (∃ q j : Nat, s.lit = (q : Int) ∧ s.tag = (j : Int) ∧ q < n ∧ 1 ≤ j ∧ j ≤ 4) ∧ s.ch.length ≤ 4096 ∧ wW s := by
 intro s hs
 obtain ⟨f', x, hx, rfl⟩ := qm hs
 obtain ⟨q, j, rfl, hq, hj⟩ := ho x hx
 have hl := qt (T := T) (F := F) (f := f') (q := (q : Int)) (t := (j : Int) + 1) hT
 have hh := uZ (T := T) (F := F) (f := f') (q := (q : Int)) (t := (j : Int) + 1)
 refine ⟨⟨q, j + 1, rfl, by show (j : Int) + 1 = ((j + 1 : Nat) : Int); omega, hq, by omega, by omega⟩, hl, Nat.le_trans hl (by decide), ?_, ?_⟩
 · show fh ((j : Int) + 1)
   unfold fh
   omega
 · show fh (ev T F f' (q : Int) ((j : Int) + 1)).1
   unfold fh
   omega
theorem vm {m : List Int} {n : Nat} {td : List (Int × Int)} (hn : td.Nodup) (hm : ∀ x, x ∈ td ↔ x ∈ dV m n) : td.length ≤ 4 * n := Nat.le_trans (ip hn fun x hx => (hm x).1 hx) qW
theorem qo {w : World} {a : Option Addr} {l : List (Int × Int)} {n : Nat} (h : Prow w a l) : Prow w a (l.take n) := by
 intro i x hx
 rw [List.getElem?_take] at hx
 split at hx
 · exact h i x hx
 · cases hx
section
variable {w : World} {T : Th} {F : List Int} {fa ra ba ea : Option Addr} {fc rc bc ec : Nat}
theorem qw (h : TA w.heap.size w T fa fc ra rc ba bc) (hF : Ints w.heap.size w F (.slice ea F.length ec)) (h0 : bB T F = 0) {q : Nat} (hq : q < T.lits.toNat) {t : Int} (ht : aq t) :
    Calls Tryz.prog 54 #[tv T fa fc ra rc ba bc, .slice ea F.length ec, .int .i64 (q : Int), .int .i64 t] w fun e w' => (∃ td m k, (fU T F m k ∧ Tld T F T.lits.toNat td ∧ td.Nodup ∧ ∀ x, x ∈ td ↔ x ∈ dV m T.lits.toNat) ∧
     ((dY ((q : Int), t) td 0 = -1 ∧ e = .returned (.tuple #[.slice none 0 0, .int .i64 203])) ∨ ∃ (i : Nat) (v : Value), dY ((q : Int), t) td 0 = (i : Int) ∧ e = .returned (.tuple #[v, .int .i64 0]) ∧ Gy 32 5 j4 w.heap.size (jV T (dW T F T.lits.toNat (fun _ => 0) (td.take (i + 1)))) v w')) ∧ Below w.heap.size w w' := by
 have hB := ae w (.cells #[.int .i64 T.lits, .slice fa T.foes.length fc, .slice ra T.rules.length rc, .slice ba T.beats.length bc] 25)
 have hX := heap_alloc_new w (.cells #[.int .i64 T.lits, .slice fa T.foes.length fc, .slice ra T.rules.length rc, .slice ba T.beats.length bc] 25)
 have Bh : Tryz.prog.follows .mixedOrders = true := by kernel_rfl
 have CF := hide (ly (TR.go hB h) (Ints.go hB hF))
 rw [h0] at CF
 have hp := oI h0
 have An := (uG hp).1
 have Af := hide An
 have HP := hide hp
 have H0 := hide h0
 obtain ⟨n, hn⟩ : ∃ n, T.lits.toNat = n := ⟨_, rfl⟩
 have HN := hide hn
 rw [hn] at hq Af HP ⊢
 have Ab : T.lits = (n : Int) := by rw [← hn]; exact An.ln
 have Bl : n ≤ 4096 := by rw [← hn]; exact An.n4
 have Bk := hide Ab
 have AU := hide h
 have HF := hide hF
 have HB := hide hB
 have HX := hide hX
 have CW := hide (fQ (q : Int) T.lits)
 have AX : cG (q : Int) T.lits = true := by unfold cG; rw [Ab]; simp; omega
 have CT := hide (qv t)
 have AM : fW t = true := by unfold fW; rcases ht with rfl | rfl | rfl | rfl <;> rfl
 rw [AX] at CW
 rw [AM] at CT
 clear h hF hB hp h0 An Ab AX AM hn
 go_enter Tryz.func54, Tryz.ntmps54
 go_upto_region 1 with fail
 generalize w.alloc (.cells #[.int .i64 T.lits, .slice fa T.foes.length fc, .slice ra T.rules.length rc, .slice ba T.beats.length bc] 25) = W at *
 obtain ⟨-, c0, c1, c2, c3⟩ := Bt.of hX
 clear hX
 go_upto_region 4 with (go_at_call 31; refine CF.out.mono ?_; rintro _ w1 ⟨rfl, AA⟩; have Ah := hide (HB.out.trans (AA.mono HB.out.size)); have Ak := hide ((AA.block _ (aL HX.out)).trans HX.out); clear AA)
 clear c0 c1 c2 c3 CF
 obtain ⟨-, c0, c1, c2, c3⟩ := Bt.of Ak.out
 have CO := hide (xx (TR.go Ah.out AU.out) (Ints.go Ah.out HF.out) H0.out)
 rw [HN.out] at CO
 go_upto_region 9 with (first | (go_at_call 63; refine (CW.out _).mono ?_; rintro _ _ ⟨rfl, rfl⟩) | (go_at_call 64; refine (CT.out _).mono ?_; rintro _ _ ⟨rfl, rfl⟩) | (go_at_call 93; refine CO.out.mono ?_; rintro _ w2 ⟨td, ta, tc, m, k, rfl, ⟨AH, -, AB, AO, Az⟩, AF, AI, Aw⟩; have Bf := hide AI; have HS := hide (And.intro AH (And.intro AB (And.intro AO Az))); have HO := hide AF; have AV := hide Aw; have Ar := hide (Ah.out.trans (Aw.mono Ah.out.size)); clear AH AB AO Az AF AI Aw))
 have AE := hide ((AV.out.block _ (aL Ak.out)).trans Ak.out)
 clear c0 c1 c2 c3 CO CW CT HX Ak HB Ah AV
 have AP : td.length ≤ 16384 := by have := vm HS.out.2.2.1 HS.out.2.2.2; omega
 have Al := hide (lR (q : Int) t w2)
 have CI := hide (fun X (hb : Below w2.heap.size w2 X) => tV (x1 := (q : Int)) (x2 := t) (oc := tc) (HO.out.go hb) (Nat.le_trans AP (by decide)))
 rcases tN (x := ((q : Int), t)) (l := td) (k := 0) with hi | ⟨i, hi, AC⟩
 · have HI := hide hi
   rw [hi] at CI
   clear hi
   go_wp2_with (first | (go_at_call 42; refine Al.out.mono ?_; rintro _ w3 ⟨rfl, Aa⟩; have Ai := hide (CI.out w3 Aa); have Ag := hide (Ar.out.trans (Aa.mono Ar.out.size)); clear Aa Al) | (go_at_call 94; refine Ai.out.mono ?_; rintro _ w4 ⟨rfl, Ae⟩; have Ac := hide (Ag.out.trans (Ae.mono Ag.out.size)); clear Ae Ai CI))
   go_ret2
   exact ⟨⟨td, m, k, HS.out, .inl ⟨HI.out, rfl⟩⟩, Ac.out⟩
 · rw [Nat.zero_add] at hi
   have HI := hide hi
   rw [hi] at CI
   have Bg : i < td.length := (List.getElem?_eq_some_iff.1 AC).1
   clear hi AC
   obtain ⟨tn, AJ⟩ : ∃ z, td.length = z := ⟨_, rfl⟩
   have AR := hide AJ
   rw [AJ] at CI AP Bg ⊢
   clear AJ
   have Bd := Bf.out
   rw [AR.out] at Bd
   have CN : Hid (∀ X, Below w.heap.size w X → Calls Tryz.prog 32 #[tv T fa fc ra rc ba bc, .slice ea F.length ec] X fun e w' => ∃ (S : Nat → Prop) (q g0 g1 g2 mb fm sd pq : Nat), e = .returned (aa pq) ∧ Xr S X.heap.size ⟨q, n, fa, fc, ra, rc, ba, bc, g0, g1, g2, mb⟩ T w' ∧ Pm ⟨q, n, fa, fc, ra, rc, ba, bc, g0, g1, g2, mb⟩ pq fm sd F (fun _ => 0) w' ∧ ¬ S sd ∧ X.heap.size ≤ sd ∧ Below X.heap.size X w') := hide fun X hX => by
    refine (mD (TR.go hX AU.out) (Ints.go hX HF.out) HP.out).mono ?_
    rintro e w' ⟨S, q, g0, g1, g2, mb, fm, sd, pq, rfl, hx, Am, ⟨n1, n2, n3⟩, ⟨m1, m2, m3, m4⟩, hb⟩
    exact ⟨S, q, g0, g1, g2, mb, fm, sd, pq, rfl, hx, Am, n1, m1, hb⟩
   go_upto_region 12 with (first | (go_at_call 42; refine Al.out.mono ?_; rintro _ w3 ⟨rfl, Aa⟩; have Ai := hide (CI.out w3 Aa); have Ag := hide (Ar.out.trans (Aa.mono Ar.out.size)); have AS := hide Aa; clear Aa Al) | (go_at_call 94; refine Ai.out.mono ?_; rintro _ w4 ⟨rfl, Ae⟩; have Ac := hide (Ag.out.trans (Ae.mono Ag.out.size)); have AQ := hide (AS.out.trans (Ae.mono AS.out.size)); clear Ae Ai CI))
   have AN := hide ((AQ.out.block _ (aL AE.out)).trans AE.out)
   have AG := hide (HO.out.go AQ.out)
   obtain ⟨-, c0, c1, c2, c3⟩ := Bt.of AN.out
   have CM := hide (CN.out w4 Ac.out)
   go_upto_region 13 with (go_at_call 32; refine CM.out.mono ?_; rintro _ w5 ⟨S, qx, g0, g1, g2, mb, fm, sd, pq, rfl, hx, Am, n1, m1, AK⟩; have Ay := hide hx; have Ad := hide Am; have AL := hide n1; have As := hide m1; have Ap := hide AK; clear hx Am n1 m1 AK)
   clear c0 c1 c2 c3 CM CN AN AE HO
   have Aq : (td.take (i + 1)).length = i + 1 := by rw [List.length_take, AR.out]; omega
   have AW : Hid (∀ x ∈ td.take (i + 1), ∃ (q j : Nat), x = ((q : Int), (j : Int) + 1) ∧ q < n ∧ j < 4) := hide fun x hx => yj HS.out.2.2.2 x (List.mem_of_mem_take hx)
   have HDr := hide ((Below.refl w5.heap.size w5).drew)
   have AT : Hid (Prow w5.drew ta (td.take (i + 1))) := hide (qo (AG.out.go (Ap.out.trans (HDr.out.mono Ap.out.size))))
   have Av := hide (dT (T := T) (F := F) (f := fun _ => 0) (oc := tc) Af.out (Ay.out.go HDr.out) (Ad.out.go HDr.out) AL.out As.out AT.out (by rw [Aq]; omega) AW.out (fun g hg hne => by
    obtain ⟨y, hy⟩ := an (l := td.take (i + 1)) (i := 0) (by rw [Aq]; omega)
    obtain ⟨g', e, hc, -⟩ := (qo (n := i + 1) AG.out) 0 y hy
    rw [hg] at e
    cases e
    have h9 : g < w4.heap.size := World.block_lt_of_cell? _ _ hc
    have := As.out
    omega))
   rw [Aq] at Av
   have Ao := hide (zT (T := T) (F := F) (f := fun _ => 0) Af.out.rl AW.out)
   have Ax : Hid ((dW T F n (fun _ => 0) (td.take (i + 1))).length = i + 1) := hide (by rw [qa, Aq])
   obtain ⟨L, hL⟩ : ∃ L, dW T F n (fun _ => 0) (td.take (i + 1)) = L := ⟨_, rfl⟩
   have HL := hide hL
   have AY : Hid (Calls Tryz.prog 95 #[aa pq, .slice ta (i + 1) tc] w5.drew fun e w' => ∃ va vc, e = .returned (.slice va (i + 1) vc) ∧ Below w.heap.size w w' ∧ w'.cell? ⟨pq, 0, none⟩ = some (aa qx) ∧ Calls Tryz.prog 57 #[aa qx, .slice va (i + 1) vc] w' fun e w2 => ∃ v, e = .returned v ∧ Gy 32 5 j4 w.heap.size (jV T L) v w2 ∧ Below w.heap.size w w2 ∧ w2.cell? ⟨pq, 0, none⟩ = some (aa qx)) := hide (by
    refine Av.out.mono ?_
    rintro _ w6 ⟨v, rfl, hg, hf⟩
    obtain ⟨va, vc, rfl⟩ := hg.slice
    have AD : Fr (fun k => k = sd) w5 w6 := (Fr.of_below HDr.out).trans hf
    have At : Below w.heap.size w w6 := (Ac.out.trans (Ap.out.mono Ac.out.size)).trans (AD.below fun k hk => ⟨by have := Ac.out.size; have := Ap.out.size; omega, fun e => by have := As.out; have := Ac.out.size; omega⟩)
    have Ab := Ax.out
    have Ba := Ay.out.fr AD fun k hk => by rw [hk]; exact ⟨AL.out, As.out⟩
    have AZ : Xr S w4.heap.size ⟨qx, n, fa, fc, ra, rc, ba, bc, g0, g1, g2, mb⟩ T w6 := Ba
    have Au := xP (lc := vc) (K := ⟨qx, n, fa, fc, ra, rc, ba, bc, g0, g1, g2, mb⟩) Af.out AZ (uW hg fun s hs => (Ao.out s hs).2.2) (by rw [Ab]; omega) (by rw [Ab]; omega) (fun s hs => (Ao.out s hs).1) (fun s hs => Nat.le_trans (Ao.out s hs).2.1 (by decide))
    rw [hL] at Ab Au ⊢
    rw [Ab] at Au ⊢
    have Aj := Ad.out.bx.keep (AD.block _ Ad.out.bx.lt (ao Ad.out.bx Ad.out.sd (by decide)))
    refine ⟨va, vc, rfl, At, Aj.get (i := 0) rfl, Au.mono ?_⟩
    rintro _ w7 ⟨v, rfl, h1, h2⟩
    exact ⟨v, rfl, h1.down At.size, At.trans (h2.mono At.size), (Aj.keep (h2.block _ Aj.lt)).get (i := 0) rfl⟩)
   have p0 := Ad.out.bx.get (i := 0) rfl
   have e1 : IntKind.i64.wrap ((i : Int) + 1) = (i : Int) + 1 := by rw [IntKind.wrap_i64]; omega
   have b1 : (0 : Int) ≤ (i : Int) + 1 := by omega
   have b2 : (i : Int) + 1 ≤ (tc : Int) := by omega
   clear Av hL Ao Ax AT AG Ay Ad Af
   go_region_held3 (fun X : World => X.cell? ⟨pq, 0, none⟩ = some (aa qx)) (first | assumption) (first | (go_at_call 95; refine AY.out.mono ?_; rintro e w6 ⟨va, vc, rfl, Bm, Bi, Bb⟩) | (go_at_call 57; refine Bb.mono ?_; rintro e w7 ⟨v, rfl, Bc, Be, Bj⟩))
   all_goals
    go_wp2_with fail
    go_ret2
    exact ⟨⟨td, m, k, HS.out, .inr ⟨i, v, HI.out, rfl, by rw [HL.out]; exact Bc⟩⟩, Be⟩
end
end Go.Proofs.YtmlhcncagdfjfaaGreat.De
