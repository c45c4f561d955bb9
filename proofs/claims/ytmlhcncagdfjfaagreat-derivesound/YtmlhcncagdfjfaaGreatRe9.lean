import Derived.Test.YtmlhcncagdfjfaaGreatDrP
import Derived.Test.YtmlhcncagdfjfaaGreatDrW
import Derived.Test.YtmlhcncagdfjfaaGreatCnq
set_option maxRecDepth 100000
set_option maxHeartbeats 25600000
namespace Go.Proofs.YtmlhcncagdfjfaaGreat.De
open Go.RowKit Fa Rg
abbrev tbl4 : Array Value := #[fv 158, fv 159, fv 160, fv 161]
theorem ru (w : World) : Calls Tryz.prog 132 #[] w fun e w' => e = .returned (.agg tbl4) ∧ Below w.heap.size w w' := by
 have HB := hide (ae w (.cells #[.nilFunc, .nilFunc, .nilFunc, .nilFunc] 186))
 have hQ : Fx w.heap.size 186 [.nilFunc, .nilFunc, .nilFunc, .nilFunc] (w.alloc (.cells #[.nilFunc, .nilFunc, .nilFunc, .nilFunc] 186)) := heap_alloc_new w _
 have HQ := hide hQ
 clear hQ
 go_enter Tryz.func132, Tryz.ntmps132
 go_upto_region 1 with fail
 generalize hW : w.alloc (.cells #[.nilFunc, .nilFunc, .nilFunc, .nilFunc] 186) = W at *
 clear hW
 have z0 := HQ.out.frz 0
 have z1 := HQ.out.frz 1
 have z2 := HQ.out.frz 2
 have z3 := HQ.out.frz 3
 have y0 := HQ.out.get (i := 0) rfl
 have y1 := HQ.out.get (i := 1) rfl
 have y2 := HQ.out.get (i := 2) rfl
 have y3 := HQ.out.get (i := 3) rfl
 go_wp2_with fail
 have HG := hide ((((HQ.out.set 0 (fv 158)).set 1 (fv 159)).set 2 (fv 160)).set 3 (fv 161))
 have Aa := hide ((((HB.out.setCell (p := ⟨w.heap.size, 0, none⟩) (Nat.le_refl _) (fv 158)).setCell (p := ⟨w.heap.size, 1, none⟩) (Nat.le_refl _) (fv 159)).setCell (p := ⟨w.heap.size, 2, none⟩) (Nat.le_refl _) (fv 160)).setCell (p := ⟨w.heap.size, 3, none⟩) (Nat.le_refl _) (fv 161))
 clear z0 z1 z2 z3 y0 y1 y2 y3 HQ HB
 refine bodyPost_ret (results_cell_row rfl _ _ w.heap.size 186 tbl4 _ _ rfl HG.out Tryz.underlying186 rfl (by kernel_rfl)) rfl ?_
 exact ⟨rfl, Aa.out⟩
section
variable {S : Nat → Prop} {N0 : Nat} {K : cC} {T : Th} {pq fm sd : Nat} {F : List Int} {f : Int → Int} {w : World}
theorem jF {w w' : World} {e : Ending} {r : oT} (h : sf w w' e r) : ∃ va vc, e = .returned (.agg #[.int .i64 0, .int .i64 0, .int .i64 r.1, .int .i64 r.2.1, .slice va (List.length r.2.2) vc]) ∧ w'.ownsRow w.heap.size 100 2 (.slice va (List.length r.2.2) vc) (List.length r.2.2) (prs r.2.2) := by
 obtain ⟨_, rfl, va, vc, rfl, h⟩ := h
 exact ⟨va, vc, rfl, h⟩
theorem sL (hT : Wt T K.n) (hX : Xr S N0 K T w) (hP : Pm K pq fm sd F f w) {j : Nat} (hj : j < 4) {q : Nat} (hq : q < K.n) :
    ∃ fn : Nat, tbl4.toList[j]? = some (fv fn) ∧ (∀ args w', (callFunc fn args).run Tryz.prog w' = .ok (.enter fn args) w') ∧ ∀ X : World, Below w.heap.size w X → Calls Tryz.prog fn #[aa pq, .int .i64 (q : Int)] X fun e w' => ∃ va vc, e = .returned (.agg #[.int .i64 0, .int .i64 0, .int .i64 (dL T F f q ((j : Int) + 1)).1, .int .i64 (dL T F f q ((j : Int) + 1)).2.1, .slice va (List.length (dL T F f q ((j : Int) + 1)).2.2) vc]) ∧ w'.ownsRow X.heap.size 100 2 (.slice va (List.length (dL T F f q ((j : Int) + 1)).2.2) vc) (List.length (dL T F f q ((j : Int) + 1)).2.2) (prs (dL T F f q ((j : Int) + 1)).2.2) ∧ Below X.heap.size X w' := by
 match j, hj with
 | 0, _ => exact ⟨_, rfl, fun args w' => rfl, fun X hb => (plusDelta_any hT (hX.go hb) (hP.go hb) hq).mono fun e w' h => by obtain ⟨va, vc, h1, h2⟩ := jF h.1; exact ⟨va, vc, h1, h2, h.2⟩⟩
 | 1, _ => exact ⟨_, rfl, fun args w' => rfl, fun X hb => (minusDelta_any hT (hX.go hb) (hP.go hb) hq).mono fun e w' h => by obtain ⟨va, vc, h1, h2⟩ := jF h.1; exact ⟨va, vc, h1, h2, h.2⟩⟩
 | 2, _ => exact ⟨_, rfl, fun args w' => rfl, fun X hb => (plusPartial_any hT (hX.go hb) (hP.go hb) hq).mono fun e w' h => by obtain ⟨va, vc, h1, h2⟩ := jF h.1; exact ⟨va, vc, h1, h2, h.2⟩⟩
 | 3, _ => exact ⟨_, rfl, fun args w' => rfl, fun X hb => (minusPartial_any hT (hX.go hb) (hP.go hb) hq).mono fun e w' h => by obtain ⟨va, vc, h1, h2⟩ := jF h.1; exact ⟨va, vc, h1, h2, h.2⟩⟩
end
def xd (b5 b8 j q pq fn : Nat) (r1 r2 : Int) (r3 : List (Int × Int)) (i : Nat) (v : Value) (W : World) (lo hi : Nat) : Prop := match i with
 | 0 => v = .pointer (some ⟨b8, 1, none⟩)
 | 1 => v = .int .i64 ((j : Int) + 1)
 | 2 => v = .int .i64 (j : Int)
 | 3 => v = .pointer (some ⟨b5, j, none⟩)
 | 4 => v = .func (.func fn) #[] #[]
 | 5 => v = aa pq
 | 6 => v = .pointer (some ⟨b8, 0, none⟩)
 | 7 => v = .int .i64 (q : Int)
 | 8 => ∃ va vc, v = .agg #[.int .i64 0, .int .i64 0, .int .i64 r1, .int .i64 r2, .slice va (List.length r3) vc] ∧ W.ownsRow lo 100 2 (.slice va (List.length r3) vc) (List.length r3) (prs r3) ∧ ∀ g, Value.ownBlock (.slice va (List.length r3) vc) = some g → g < hi
 | 9 => ∃ g, v = aa g ∧ Fx g 32 stepZ W ∧ lo ≤ g ∧ g < hi
 | _ => True
theorem ft {b5 b8 j q pq fn : Nat} {r1 r2 : Int} {r3 : List (Int × Int)} : ∀ i v W W' lo hi, xd b5 b8 j q pq fn r1 r2 r3 i v W lo hi → hi ≤ W.heap.size → Below W.heap.size W W' → xd b5 b8 j q pq fn r1 r2 r3 i v W' lo hi := by
 intro i v W W' lo hi h hh hb
 unfold xd at *
 split at h
 all_goals first
  | exact h
  | (obtain ⟨va, vc, a, b, c⟩ := h; exact ⟨va, vc, a, owns_keep b fun g hg => hb.block g (ax b hg), c⟩)
  | (obtain ⟨g, a, b, c⟩ := h; exact ⟨g, a, b.keep (hb.block _ b.lt), c⟩)
  | trivial
def yN (r1 r2 : Int) (r3 : List (Int × Int)) (W0 : World) (σ : Nat → Value) (W : World) : Prop := ∃ g va vc, σ 9 = aa g ∧ Fx g 32 [.int .i64 0, .int .i64 0, .int .i64 r1, .int .i64 r2, .slice va (List.length r3) vc] W ∧ W.ownsRow W0.heap.size 100 2 (.slice va (List.length r3) vc) (List.length r3) (prs r3) ∧ W0.heap.size ≤ g ∧ Value.ownBlock (.slice va (List.length r3) vc) ≠ some g ∧ Below W0.heap.size W0 W
theorem yl {Z : Nat → Prop} {a b c : World} (h : Fr Z a b) (k : Fr (fun g => a.heap.size ≤ g) b c) : Fr Z a c :=
 ⟨k.os.trans h.os, k.tape.trans h.tape, k.output.trans h.output, Nat.le_trans h.size k.size, fun i hi hz => (k.block i (Nat.lt_of_lt_of_le hi h.size) (by omega)).trans (h.block i hi hz)⟩
theorem Gy.down {α : Type} {T k B B2 : Nat} {c : (Nat → Prop) → World → α → List Value → Prop} {l : List α} {mv : Value} {wr : World} (h : Gy T k c B l mv wr) (hb : B2 ≤ B) : Gy T k c B2 l mv wr := by
 obtain ⟨Z, xs, h1, h2, h3⟩ := h
 exact ⟨Z, xs, aJ h1 hb, fun g hg => ⟨Nat.le_trans hb (h2 g hg).1, (h2 g hg).2⟩, h3⟩
theorem pj {T : Th} {f : Int → Int} {rs : List Int} {t : Int} (h : rs.length ≤ 4096) : (refsM T f rs t).1.length ≤ 4096 := by
 have := oX (g := fun r => refdM T f r t) (l := rs) (acc := [])
 unfold refsM
 simp at this
 omega
theorem pR {T : Th} {f : Int → Int} {q : Int} (h : T.rules.length ≤ 4096) : ∀ {l : List Int}, (dg T f q l).2.2.length ≤ 4096
 | [] => by simp [dg]
 | x :: l => by
  unfold dg
  split
  · exact pj (Nat.le_trans iF h)
  · exact pR h
theorem oY {T : Th} {F : List Int} {f : Int → Int} {q t : Int} (h : T.rules.length ≤ 4096) : (dL T F f q t).2.2.length ≤ 4096 := by
 unfold dL rsPD rsMD rsPP rsMP
 repeat' split
 all_goals first
  | exact Nat.zero_le _
  | exact pj (Nat.le_trans bh h)
  | (simp only [List.length_map]; exact Nat.le_trans hG h)
  | exact pR h
theorem sX {T : Th} {F : List Int} {n : Nat} {f : Int → Int} {l : List (Int × Int)} {k : Nat} {x : Int × Int} (h : l[k]? = some x) : dB T F n f (l.drop k) = fy T F f x.1 x.2 :: dB T F n (sayM n f (fy T F f x.1 x.2)) (l.drop (k + 1)) := by rw [aN h]; rfl
theorem rX : (Tryz.prog.info? 32).map (fun i => (i.zero, i.size, i.bytes)) = some (some (.agg #[.int .i64 0, .int .i64 0, .int .i64 0, .int .i64 0, .slice none 0 0]), 5, 56) := by kernel_rfl
section
variable {S : Nat → Prop} {N0 : Nat} {K : cC} {T : Th} {pq fm sd : Nat} {F : List Int} {f : Int → Int} {w : World}
theorem dp (hT : Wt T K.n) (hX : Xr S N0 K T w) (hP : Pm K pq fm sd F f w) (h1 : ¬ S sd) (h2 : N0 ≤ sd) {od : List (Int × Int)} {oa : Option Addr} {oc : Nat} (ho : Prow w oa od) (hol : od.length ≤ 65536) (hod : ∀ x ∈ od, ∃ (q j : Nat), x = ((q : Int), (j : Int) + 1) ∧ q < K.n ∧ j < 4) (hos : ∀ g, oa = some ⟨g, 0, none⟩ → od ≠ [] → g ≠ sd) :
    Calls Tryz.prog 95 #[aa pq, .slice oa od.length oc] w fun e w' => ∃ v, e = .returned v ∧ Gy 32 5 iZ w.heap.size (dB T F K.n f od) v w' ∧ Fr (fun k => k = sd) w w' := by
 obtain ⟨iS, BC, BJ, BT, BQ⟩ := info_parts rX
 have BV : Tryz.prog.follows .mixedOrders = true := by kernel_rfl
 have CR := hide (ru w)
 have HT := hide hT
 have HX := hide hX
 have HP := hide hP
 have HO := hide ho
 have BG := hide hod
 have BP := hide hos
 have H1 := hide h1
 have H2 := hide h2
 have AN := hide (show sd < w.heap.size from hP.sd.lt)
 obtain ⟨m, hm⟩ : ∃ m, od.length = m := ⟨_, rfl⟩
 have HM := hide hm
 rw [hm] at hol ⊢
 clear hT hX hP ho hod hos h1 h2 hm
 go_enter Tryz.func95, Tryz.ntmps95
 go_upto_region 2 with (go_at_call 132; refine CR.out.mono ?_; rintro _ w0 ⟨rfl, Bu⟩; have AF := hide Bu; clear Bu CR)
 go_wp2_with fail
 have Aq := hide (AF.out.trans ((ae w0 (.cells #[.func (.func 158) #[] #[], .func (.func 159) #[] #[], .func (.func 160) #[] #[], .func (.func 161) #[] #[]] 186)).mono AF.out.size))
 have Bc : Fx w0.heap.size 186 tbl4.toList (w0.alloc (.cells #[.func (.func 158) #[] #[], .func (.func 159) #[] #[], .func (.func 160) #[] #[], .func (.func 161) #[] #[]] 186)) := heap_alloc_new w0 _
 have Bi := hide Bc
 clear Bc
 have BZ : w.heap.size ≤ w0.heap.size := AF.out.size
 generalize w0.alloc (.cells #[.func (.func 158) #[] #[], .func (.func 159) #[] #[], .func (.func 160) #[] #[], .func (.func 161) #[] #[]] 186) = w5 at *
 generalize w0.heap.size = b5 at *
 go_loopw [6, 13] (fun u x wr => ∃ (k : Nat) (fk : Int → Int) (tl : List StM) (ma : Option Addr) (mc : Nat), k ≤ m ∧ x = .int .i64 k ∧ u = .slice ma k mc ∧ Hid (tl.length = k ∧ dB T F K.n f od = tl ++ dB T F K.n fk (od.drop k)) ∧ Hid (Gy 32 5 iZ w5.heap.size tl (.slice ma k mc) wr) ∧ Hid (Pm K pq fm sd F fk wr) ∧ Hid (Fr (fun g => g = sd) w5 wr)) (fun _ x _ => m - (intOf x).toNat)
 case atStart => exact ⟨0, f, [], none, 0, by omega, rfl, rfl, hide ⟨rfl, by rw [List.drop_zero]; rfl⟩, hide Gy.nil, hide (HP.out.go Aq.out), hide (Fr.refl _ _)⟩
 case round =>
  obtain ⟨k, fk, tl, ma, mc, hk, rfl, rfl, Am, HG, Bp, Aw⟩ := hrel
  have Ar := hide ((Fr.of_below (Z := fun g => g = sd) Aq.out).trans Aw.out)
  by_cases hlt : k < m
  · obtain ⟨y, hy⟩ := am (l := od) (i := k) (by rw [HM.out]; exact hlt)
    obtain ⟨q, j, rfl, hq, hj⟩ := BG.out y (List.mem_of_getElem? hy)
    obtain ⟨g0, Bg, AV, Bq⟩ := HO.out k _ hy
    have AQ : g0 ≠ sd := BP.out g0 Bg fun e => by rw [e] at hy; simp at hy
    have AT : g0 < w.heap.size := World.block_lt_of_cell? w _ AV
    have cA : wr.cell? ⟨g0, k * 2, none⟩ = some (.int .i64 (q : Int)) := (World.cell?_of_block (Ar.out.block g0 AT AQ)).trans AV
    have cB : wr.cell? ⟨g0, k * 2 + 1, none⟩ = some (.int .i64 ((j : Int) + 1)) := (World.cell?_of_block (Ar.out.block g0 AT AQ)).trans Bq
    subst Bg
    have BK := hide (sX (T := T) (F := F) (n := K.n) (f := fk) hy)
    clear hy AV Bq AQ AT
    have hA := ae wr (.cells #[.int .i64 (q : Int), .int .i64 ((j : Int) + 1)] 85)
    have Be : Fx wr.heap.size 85 [.int .i64 (q : Int), .int .i64 ((j : Int) + 1)] (wr.alloc (.cells #[.int .i64 (q : Int), .int .i64 ((j : Int) + 1)] 85)) := heap_alloc_new wr _
    have AH := (HX.out.fr Ar.out fun k hk => by rw [hk]; exact ⟨H1.out, H2.out⟩).go hA
    have AU := Bp.out.go hA
    obtain ⟨fn, Bl, Bj, AR⟩ := sL HT.out AH AU hj hq
    have AA := Bi.out.keep (Aw.out.block _ Bi.out.lt (by have := AN.out; omega))
    have BU := hide AH
    have BO := hide AU
    have AK := hide (AA.keep (hA.block _ AA.lt))
    have Ak := hide Be
    have HA := hide hA
    have BH := hide Bl
    obtain ⟨⟨r1, r2, r3⟩, AI⟩ : ∃ z, dL T F fk q ((j : Int) + 1) = z := ⟨_, rfl⟩
    rw [AI] at AR
    have Az := hide AI
    have Bm := hide AR
    have eT := hide Bj
    clear hA Be AH AU Bl Bj AR AA AI
    go_upto_region 6 with fail
    clear cA cB
    generalize wr.alloc (.cells #[.int .i64 (q : Int), .int .i64 ((j : Int) + 1)] 85) = w1 at *
    obtain ⟨b8, BI⟩ : ∃ b, wr.heap.size = b := ⟨_, rfl⟩
    rw [BI] at Ak ⊢
    have HDr := hide ((Below.refl w1.heap.size w1).drew)
    obtain ⟨W0, Bn⟩ : ∃ W0, w1.drew = W0 := ⟨_, rfl⟩
    rw [Bn] at HDr
    have e1 : IntKind.i64.wrap ((j : Int) + 1 - 1) = (j : Int) := by rw [IntKind.wrap_i64]; omega
    have e2 : IntKind.i64.wrap (j : Int) = (j : Int) := by rw [IntKind.wrap_i64]; omega
    have Ad : Hid (fZ [some 17, some 18, some 19, some 20, some 21, some 22, some 23, some 24, some 25, some 9, none] [(0, aa pq), (5, aa b5), (8, aa b8)] = true) := hide rfl
    have Ay : Hid (∀ X, Below W0.heap.size W0 X → X.cell? ⟨b8, 0, none⟩ = some (.int .i64 (q : Int)) ∧ X.cell? ⟨b8, 1, none⟩ = some (.int .i64 ((j : Int) + 1)) ∧ X.cell? ⟨b5, j, none⟩ = some (fv fn)) := hide fun X hX => by
     have hb := HDr.out.trans (hX.mono HDr.out.size)
     have h8 := Ak.out.keep (hb.block _ Ak.out.lt)
     exact ⟨h8.get (i := 0) rfl, h8.get (i := 1) rfl, (AK.out.keep (hb.block _ AK.out.lt)).get BH.out⟩
    have CT : Hid (∀ X, Below W0.heap.size W0 X → _) := hide fun X hX => Bm.out X (HDr.out.trans (hX.mono HDr.out.size))
    clear Bm
    refine bV fW (Jl 10 [some 17, some 18, some 19, some 20, some 21, some 22, some 23, some 24, some 25, some 9, none] [(0, aa pq), (5, aa b5), (8, aa b8)] (xd b5 b8 j q pq fn r1 r2 r3) (yN r1 r2 r3 W0) W0) (by kernel_rfl) (by kernel_rfl) ?_ (ci ⟨?_, ?_, ?_, ?_, ?_, ?_, ?_, ?_, ?_, ?_, ?_, trivial⟩) ?_ ?_
    · refine ⟨fun _ => ?_, fun e => by cases e⟩
      show Jg _ _ _ W0 _ _ w1.drew
      rw [Bn]
      exact Jg.start.2 fun p hp => by simp at hp; rcases hp with rfl | rfl | rfl <;> rfl
    · intro ρ X L hc hf hL hd Ac Ab
      have Aa : L 10 = false := ak (by kernel_rfl) Ac (k := 0) (by simp) hL
      have hJ := Ab.1 Aa
      have k8 : ρ (.tmp 8) = aa b8 := hJ.base (8, aa b8) (by simp)
      refine ac (v := .pointer (some ⟨b8, 1, none⟩)) (w' := X) ?_ ⟨fun _ => hJ.put Ad.out ft (i := 0) (d := 17) rfl (Below.refl _ _) (rfl), fun e => by rw [al (by decide), Aa] at e; cases e⟩
      clear hd Ac hJ Ab hL Aa
      go_simp
    · intro ρ X L hc hf hL hd Ac Ab
      have Aa : L 10 = false := ak (by kernel_rfl) Ac (k := 1) (by simp) hL
      have hJ := Ab.1 Aa
      obtain ⟨c0, c1, c5⟩ := Ay.out X hJ.low
      have Cb : ρ (.tmp 17) = .pointer (some ⟨b8, 1, none⟩) := by
       obtain ⟨_, _, _, e1⟩ := hJ.get (i := 0) (d := 17) rfl (hd ⟨0, .data⟩ (by simp) rfl)
       exact e1
      refine ac (v := .int .i64 ((j : Int) + 1)) (w' := X) ?_ ⟨fun _ => hJ.put Ad.out ft (i := 1) (d := 18) rfl (Below.refl _ _) (rfl), fun e => by rw [al (by decide), Aa] at e; cases e⟩
      clear hd Ac hJ Ab hL Aa
      go_simp
    · intro ρ X L hc hf hL hd Ac Ab
      have Aa : L 10 = false := ak (by kernel_rfl) Ac (k := 2) (by simp) hL
      have hJ := Ab.1 Aa
      have BX : ρ (.tmp 18) = .int .i64 ((j : Int) + 1) := by
       obtain ⟨_, _, _, e1⟩ := hJ.get (i := 1) (d := 18) rfl (hd ⟨1, .data⟩ (by simp) rfl)
       exact e1
      refine ac (v := .int .i64 (j : Int)) (w' := X) ?_ ⟨fun _ => hJ.put Ad.out ft (i := 2) (d := 19) rfl (Below.refl _ _) (rfl), fun e => by rw [al (by decide), Aa] at e; cases e⟩
      clear hd Ac hJ Ab hL Aa
      go_simp
    · intro ρ X L hc hf hL hd Ac Ab
      have Aa : L 10 = false := ak (by kernel_rfl) Ac (k := 3) (by simp) hL
      have hJ := Ab.1 Aa
      have k5 : ρ (.tmp 5) = aa b5 := hJ.base (5, aa b5) (by simp)
      have Cd : ρ (.tmp 19) = .int .i64 (j : Int) := by
       obtain ⟨_, _, _, e1⟩ := hJ.get (i := 2) (d := 19) rfl (hd ⟨2, .data⟩ (by simp) rfl)
       exact e1
      refine ac (v := .pointer (some ⟨b5, j, none⟩)) (w' := X) ?_ ⟨fun _ => hJ.put Ad.out ft (i := 3) (d := 20) rfl (Below.refl _ _) (rfl), fun e => by rw [al (by decide), Aa] at e; cases e⟩
      clear hd Ac hJ Ab hL Aa
      go_simp
      exact fun h => absurd h (by omega)
    · intro ρ X L hc hf hL hd Ac Ab
      have Aa : L 10 = false := ak (by kernel_rfl) Ac (k := 4) (by simp) hL
      have hJ := Ab.1 Aa
      obtain ⟨c0, c1, c5⟩ := Ay.out X hJ.low
      have BY : ρ (.tmp 20) = .pointer (some ⟨b5, j, none⟩) := by
       obtain ⟨_, _, _, e1⟩ := hJ.get (i := 3) (d := 20) rfl (hd ⟨3, .data⟩ (by simp) rfl)
       exact e1
      refine ac (v := .func (.func fn) #[] #[]) (w' := X) ?_ ⟨fun _ => hJ.put Ad.out ft (i := 4) (d := 21) rfl (Below.refl _ _) (rfl), fun e => by rw [al (by decide), Aa] at e; cases e⟩
      clear hd Ac hJ Ab hL Aa
      go_simp
    · intro ρ X L hc hf hL hd Ac Ab
      have Aa : L 10 = false := ak (by kernel_rfl) Ac (k := 5) (by simp) hL
      have hJ := Ab.1 Aa
      have k0 : ρ (.tmp 0) = aa pq := hJ.base (0, aa pq) (by simp)
      refine ac (v := aa pq) (w' := X) ?_ ⟨fun _ => hJ.put Ad.out ft (i := 5) (d := 22) rfl (Below.refl _ _) (rfl), fun e => by rw [al (by decide), Aa] at e; cases e⟩
      clear hd Ac hJ Ab hL Aa
      go_simp
    · intro ρ X L hc hf hL hd Ac Ab
      have Aa : L 10 = false := ak (by kernel_rfl) Ac (k := 6) (by simp) hL
      have hJ := Ab.1 Aa
      have k8 : ρ (.tmp 8) = aa b8 := hJ.base (8, aa b8) (by simp)
      refine ac (v := .pointer (some ⟨b8, 0, none⟩)) (w' := X) ?_ ⟨fun _ => hJ.put Ad.out ft (i := 6) (d := 23) rfl (Below.refl _ _) (rfl), fun e => by rw [al (by decide), Aa] at e; cases e⟩
      clear hd Ac hJ Ab hL Aa
      go_simp
    · intro ρ X L hc hf hL hd Ac Ab
      have Aa : L 10 = false := ak (by kernel_rfl) Ac (k := 7) (by simp) hL
      have hJ := Ab.1 Aa
      obtain ⟨c0, c1, c5⟩ := Ay.out X hJ.low
      have BW : ρ (.tmp 23) = .pointer (some ⟨b8, 0, none⟩) := by
       obtain ⟨_, _, _, e1⟩ := hJ.get (i := 6) (d := 23) rfl (hd ⟨6, .data⟩ (by simp) rfl)
       exact e1
      refine ac (v := .int .i64 (q : Int)) (w' := X) ?_ ⟨fun _ => hJ.put Ad.out ft (i := 7) (d := 24) rfl (Below.refl _ _) (rfl), fun e => by rw [al (by decide), Aa] at e; cases e⟩
      clear hd Ac hJ Ab hL Aa
      go_simp
    · intro ρ X L hc hf hL hd Ac Ab
      have Aa : L 10 = false := ak (by kernel_rfl) Ac (k := 8) (by simp) hL
      have hJ := Ab.1 Aa
      have Ca : ρ (.tmp 21) = .func (.func fn) #[] #[] := by
       obtain ⟨_, _, _, e1⟩ := hJ.get (i := 4) (d := 21) rfl (hd ⟨4, .data⟩ (by simp) rfl)
       exact e1
      have Cg : ρ (.tmp 22) = aa pq := by
       obtain ⟨_, _, _, e1⟩ := hJ.get (i := 5) (d := 22) rfl (hd ⟨5, .data⟩ (by simp) rfl)
       exact e1
      have Cf : ρ (.tmp 24) = .int .i64 (q : Int) := by
       obtain ⟨_, _, _, e1⟩ := hJ.get (i := 7) (d := 24) rfl (hd ⟨7, .data⟩ (by simp) rfl)
       exact e1
      have hC := CT.out X hJ.low
      have he := eT.out #[aa pq, .int .i64 (q : Int)] X
      refine dT (f := fn) (args := #[aa pq, .int .i64 (q : Int)]) (w' := X) ?_ hC ?_
      · clear hd Ac hJ Ab hL Aa hC
        go_simp
      · rintro _ Y ⟨va, vc, rfl, Ag, hb⟩
        exact ⟨_, rfl, fun _ => hJ.put Ad.out ft (i := 8) (d := 25) rfl hb (⟨va, vc, rfl, Ag, fun g e => (Ag.lt g e).2⟩), fun e => by rw [al (by decide), Aa] at e; cases e⟩
    · intro ρ X L hc hf hL hd Ac Ab
      have Aa : L 10 = false := ak (by kernel_rfl) Ac (k := 9) (by simp) hL
      have hJ := Ab.1 Aa
      refine ac (v := aa X.heap.size) (w' := X.alloc (.cells #[.int .i64 0, .int .i64 0, .int .i64 0, .int .i64 0, .slice none 0 0] 32)) ?_ ⟨fun _ => hJ.put Ad.out ft (i := 9) (d := 9) rfl (ae X _) (⟨X.heap.size, rfl, heap_alloc_new X _, Nat.le_refl _, by simp⟩), fun e => by rw [al (by decide), Aa] at e; cases e⟩
      clear hd Ac hJ Ab hL Aa
      go_simp
    · intro ρ X L hc hf hL hd Ac Ab
      have hJ := Ab.1 hL
      obtain ⟨lo, hi, AD, AJ⟩ := hJ.at_
      have l8 : L 8 = true := hd ⟨8, .data⟩ (by simp) rfl
      have l9 : L 9 = true := hd ⟨9, .data⟩ (by simp) rfl
      obtain ⟨p1, p2, p3, va, vc, AZ, Ag, Bf⟩ := AD 8 25 rfl l8
      obtain ⟨q1, q2, q3, g, e9, h0, q4, q5⟩ := AD 9 9 rfl l9
      have d1 := AJ 8 9 25 9 rfl rfl (by decide) l8 l9
      have Cc : ρ (.tmp 25) = .agg #[.int .i64 0, .int .i64 0, .int .i64 r1, .int .i64 r2, .slice va (List.length r3) vc] := AZ
      have k9 : ρ (.tmp 9) = aa g := e9
      have Al : Value.ownBlock (.slice va (List.length r3) vc) ≠ some g := fun e => by
       have := (Ag.lt _ e).1
       have := Bf _ e
       omega
      have y0 := h0.get (i := 0) rfl
      have z0 := h0.frz 0
      have y1 := h0.get (i := 1) rfl
      have z1 := h0.frz 1
      have y2 := h0.get (i := 2) rfl
      have z2 := h0.frz 2
      have y3 := h0.get (i := 3) rfl
      have z3 := h0.frz 3
      have y4 := h0.get (i := 4) rfl
      have z4 := h0.frz 4
      have AW : Hid (yN r1 r2 r3 W0 (fA (fun s => ρ (.tmp s)) none undef) (((((X.setCell ⟨g, 0, none⟩ (.int .i64 0)).setCell ⟨g, 1, none⟩ (.int .i64 0)).setCell ⟨g, 2, none⟩ (.int .i64 r1)).setCell ⟨g, 3, none⟩ (.int .i64 r2)).setCell ⟨g, 4, none⟩ (.slice va (List.length r3) vc))) := hide ⟨g, va, vc, by rw [eZ (by simp)]; exact k9, lh h0, aJ (owns_keep Ag fun k hk => wP fun e => Al (e ▸ hk)) p1, by omega, Al, eU hJ.low (by omega)⟩
      refine bX (w' := ((((X.setCell ⟨g, 0, none⟩ (.int .i64 0)).setCell ⟨g, 1, none⟩ (.int .i64 0)).setCell ⟨g, 2, none⟩ (.int .i64 r1)).setCell ⟨g, 3, none⟩ (.int .i64 r2)).setCell ⟨g, 4, none⟩ (.slice va (List.length r3) vc)) ?_ ⟨fun e => (by rw [aG] at e; cases e), fun _ => AW.out⟩
      clear hd Ac hJ Ab hL AW h0 AZ e9 Ag Bf AD AJ d1 p1 p2 p3 q1 q2 q3 q4 q5 l8 l9 Al
      go_simp
    · intro c a' w' _ hE
      exact hE.elim
    · rintro ⟨Af, df⟩ w' AP Bs ⟨L, hL, hJ⟩ Ah
      simp only at Bs AP
      subst Bs
      obtain ⟨g9, va, vc, e9, Br, Ax, Ba, AG, AB⟩ := hJ.2 (hL 10 (by decide))
      have e9 : Af.getD 9 undef = aa g9 := e9
      have AC := em 17 25 9 (by kernel_rfl) AP Ah
      simp only [zs, Nat.reduceLT, Nat.reduceAdd, true_or, or_true, or_self, false_and, ne_eq, Nat.reduceEqDiff, not_false_eq_true, not_true_eq_false, and_self, and_false, if_true, if_false, e9] at AC
      rw [AC]
      clear AC hJ hL Ah AP e9 Ay Ad CT eT
      have Ao := hide Br
      have AS := hide Ax
      have AO := hide (HDr.out.trans (AB.mono HDr.out.size))
      have Bk := hide Ba
      have BM := hide AG
      clear Br Ax Ba AG AB
      generalize Af.getD 17 undef = x17
      generalize Af.getD 18 undef = x18
      generalize Af.getD 19 undef = x19
      generalize Af.getD 20 undef = x20
      generalize Af.getD 21 undef = x21
      generalize Af.getD 22 undef = x22
      generalize Af.getD 23 undef = x23
      generalize Af.getD 24 undef = x24
      generalize Af.getD 25 undef = x25
      have At := hide (Ak.out.keep (AO.out.block _ Ak.out.lt))
      have BD := At.out.get (i := 0) rfl
      have BN := At.out.get (i := 1) rfl
      have f0 := Ao.out.get (i := 0) rfl
      have f1 := Ao.out.get (i := 1) rfl
      have k0 := Ao.out.frz 0
      have k1 := Ao.out.frz 1
      have Bt : b8 ≠ g9 := fun e => by have := Ak.out.lt; have := HDr.out.size; have := Bk.out; omega
      have BF : g9 ≠ b8 := Ne.symm Bt
      go_wp2_with fail
      go_region
      have AY : w1.heap.size ≤ g9 := Nat.le_trans HDr.out.size Bk.out
      have An : Hid (Below w1.heap.size w1 ((w'.setCell ⟨g9, 1, none⟩ (.int .i64 (q : Int))).setCell ⟨g9, 0, none⟩ (.int .i64 ((j : Int) + 1))).drew) := hide ((AO.out.setCell (p := ⟨g9, 1, none⟩) AY _).setCell (p := ⟨g9, 0, none⟩) AY _).drew
      have Ai : Hid (Fx g9 32 [.int .i64 ((j : Int) + 1), .int .i64 (q : Int), .int .i64 r1, .int .i64 r2, .slice va (List.length r3) vc] ((w'.setCell ⟨g9, 1, none⟩ (.int .i64 (q : Int))).setCell ⟨g9, 0, none⟩ (.int .i64 ((j : Int) + 1))).drew) := hide ((Ao.out.set 1 (.int .i64 (q : Int))).set 0 (.int .i64 ((j : Int) + 1)))
      have As : Hid (World.ownsRow ((w'.setCell ⟨g9, 1, none⟩ (.int .i64 (q : Int))).setCell ⟨g9, 0, none⟩ (.int .i64 ((j : Int) + 1))).drew W0.heap.size 100 2 (.slice va (List.length r3) vc) (List.length r3) (prs r3)) := hide (owns_keep AS.out fun g hg => by
       have Al : g ≠ g9 := fun e => BM.out (e ▸ hg)
       show ((w'.setCell ⟨g9, 1, none⟩ (.int .i64 (q : Int))).setCell ⟨g9, 0, none⟩ (.int .i64 ((j : Int) + 1))).heap[g]? = _
       rw [other_set Al, other_set Al])
      clear BD BN f0 f1 k0 k1 At Ao AS AO Bt BF
      generalize ((w'.setCell ⟨g9, 1, none⟩ (.int .i64 (q : Int))).setCell ⟨g9, 0, none⟩ (.int .i64 ((j : Int) + 1))).drew = w3 at *
      have f0 := Ai.out.get (i := 0) rfl
      have f1 := Ai.out.get (i := 1) rfl
      have f2 := Ai.out.get (i := 2) rfl
      have f3 := Ai.out.get (i := 3) rfl
      have f4 := Ai.out.get (i := 4) rfl
      have CS := hide (rN HT.out (BU.out.go An.out) (BO.out.go An.out) ⟨(j : Int) + 1, (q : Int), r1, r2, r3⟩ va vc)
      have Ce : sd < w1.heap.size := by have := AN.out; have := Ar.out.size; have := HA.out.size; omega
      go_upto_region 9 with (go_at_call 33; refine CS.out.mono ?_; rintro _ w4 ⟨rfl, AE, AM⟩; have BA := hide AE; have Aj := hide AM; clear AE AM CS)
      have Bz : g9 ≠ sd := by omega
      have Ap := hide (Ai.out.keep (Aj.out.block _ Ai.out.lt Bz))
      clear f0 f1 f2 f3 f4
      have f0 := Ap.out.get (i := 0) rfl
      have f1 := Ap.out.get (i := 1) rfl
      have f2 := Ap.out.get (i := 2) rfl
      have f3 := Ap.out.get (i := 3) rfl
      have f4 := Ap.out.get (i := 4) rfl
      have Bh : Hid (∀ g, w5.heap.size ≤ g → g < wr.heap.size → w4.heap[g]? = wr.heap[g]?) := hide fun g h1 h2 => by
       have s1 := HA.out.size
       have s3 := An.out.size
       have s5 := Aq.out.size
       rw [Aj.out.block g (by omega) (by have := AN.out; omega), An.out.block g (by omega), HA.out.block g (by omega)]
      obtain ⟨Z, xs, Ae, hz, Ah⟩ := HG.out
      rw [Am.out.1] at Ae
      have AX := hide Ae
      have HZ := hide hz
      have Bx := hide Ah
      have s1 := HA.out.size
      have s3 := An.out.size
      have s4 := Aj.out.size
      have s5 := Aq.out.size
      have s6 := Aw.out.size
      have Bw := hide (owns_keep Ae fun g hg => ((ae w4 (.cells #[.int .i64 ((j : Int) + 1), .int .i64 (q : Int), .int .i64 r1, .int .i64 r2, .slice va (List.length r3) vc] 32)).block g (by have := (Ae.lt g hg).2; omega)).trans (Bh.out g (Ae.lt g hg).1 (Ae.lt g hg).2))
      have Au := hide (owns_keep As.out fun g hg => Aj.out.block g (ax As.out hg) (by have := (As.out.lt g hg).1; have := HDr.out.size; omega))
      have BL : Hid (∀ g, Value.ownBlock (.slice ma k mc) = some g → w5.heap.size ≤ g) := hide fun g e => (Ae.lt g e).1
      clear Ae hz Ah HG
      go_wp2_with (at_builtin; go_must (refine bt _ rfl _ _ 27 rfl w5.heap.size 32 iS _ 5 56 Tryz.underlying27 BC BJ BT BQ rfl (by decide) (.slice ma k mc) k xs rfl Bw.out ⟨w4.heap.size, 0, none⟩ 1 [.int .i64 ((j : Int) + 1), .int .i64 (q : Int), .int .i64 r1, .int .i64 r2, .slice va (List.length r3) vc] rfl rfl (lK (cs := [.int .i64 ((j : Int) + 1), .int .i64 (q : Int), .int .i64 r1, .int .i64 r2, .slice va (List.length r3) vc]) rfl) (by intro u hu; simp at hu; rcases hu with rfl | rfl | rfl | rfl | rfl <;> rfl) (by unfold maxLen; omega) (by omega) (by simp; omega) ?_); intro g4 AL w6 Av Bd; have BE := hide Av; have Bo := hide Bd; clear Av Bd)
      have Bb : Hid (Fr (fun k => w5.heap.size ≤ k) w4 w6) := hide (dl rfl (by rcases Bo.out with h | ⟨h1, h2⟩; exact .inl h; exact .inr ⟨by simpa using h1, h2⟩) BL.out)
      have BR : Hid (Gy 32 5 iZ w5.heap.size (tl ++ [fy T F fk (q : Int) ((j : Int) + 1)]) (.slice (some ⟨g4, 0, none⟩) (k + 1) AL) w6) := hide (Gy.grow (Zn := fun g => Value.ownBlock (.slice va (List.length r3) vc) = some g) gP Am.out.1 AX.out HZ.out Bx.out Bh.out (by omega) (by omega) (fun g hg => ⟨by have := (Au.out.lt g hg).1; have := HDr.out.size; omega, (Au.out.lt g hg).2⟩) ⟨.slice va (List.length r3) vc, by unfold fy; rw [Az.out], by unfold fy; rw [Az.out]; exact rG Au.out (fun g e => e) (by have := oY (T := T) (F := F) (f := fk) (q := (q : Int)) (t := (j : Int) + 1) HT.out.rl; rw [Az.out] at this; exact Nat.le_trans this (by decide))⟩ rfl BE.out (by rcases Bo.out with h | ⟨h1, h2⟩; exact .inl h; exact .inr ⟨by simpa using h1, h2⟩))
      have By : Hid (Pm K pq fm sd F (sayM K.n fk (fy T F fk (q : Int) ((j : Int) + 1))) w6) := hide (by
       have h4 := BA.out
       have e : fy T F fk (q : Int) ((j : Int) + 1) = ⟨(j : Int) + 1, (q : Int), r1, r2, r3⟩ := by unfold fy; rw [Az.out]
       rw [e]
       refine h4.keep fun g hg => Bb.out.block g ?_ ?_
       · rcases hg with rfl | rfl | rfl
         · exact h4.bx.lt
         · exact h4.ff.lt
         · exact h4.sd.lt
       · have b1 := HP.out.bx.lt
         have b2 := HP.out.ff.lt
         have b3 := HP.out.sd.lt
         rcases hg with rfl | rfl | rfl <;> omega)
      have Bv : Hid (Fr (fun g => g = sd) w5 w6) := hide (yl (((Aw.out.trans (Fr.of_below HA.out)).trans (Fr.of_below An.out)).trans Aj.out) Bb.out)
      go_roundw
      case rel => exact ⟨k + 1, _, tl ++ [fy T F fk (q : Int) ((j : Int) + 1)], some ⟨g4, 0, none⟩, AL, by omega, by go_num, rfl, hide ⟨by rw [List.length_append, Am.out.1]; rfl, by rw [Am.out.2, BK.out, List.append_assoc]; rfl⟩, BR, By, Bv⟩
      case measure => simp [intOf]; omega
  · have BS : k = m := by omega
    subst BS
    have HE : Hid (dB T F K.n f od = tl) := hide (by
     have := Am.out.2
     rw [List.drop_eq_nil_of_le (by rw [HM.out]; omega)] at this
     rw [this]
     unfold dB
     rw [List.append_nil])
    have BB := hide (HG.out.down (B2 := w.heap.size) Aq.out.size)
    clear Am HG Bp
    go_wp2_with fail
    go_ret
    rw [HE.out]
    exact ⟨_, rfl, BB.out, Ar.out⟩
end
end Go.Proofs.YtmlhcncagdfjfaaGreat.De
