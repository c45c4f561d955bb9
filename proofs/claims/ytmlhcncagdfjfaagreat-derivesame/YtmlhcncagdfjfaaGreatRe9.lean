import Derived.Test.YtmlhcncagdfjfaaGreatDrP
import Derived.Test.YtmlhcncagdfjfaaGreatFlf
import Derived.Test.YtmlhcncagdfjfaaGreatCnq
set_option maxRecDepth 100000
set_option maxHeartbeats 25600000
namespace Go.Proofs.YtmlhcncagdfjfaaGreat.De
open Go.RowKit Fa Rg
abbrev tbl4 : Array Value := #[fv 158, fv 159, fv 160, fv 161]
theorem qX (w : World) : Calls Tryz.prog 132 #[] w fun e w' => e = .returned (.agg tbl4) ∧ Below w.heap.size w w' := by
 have HB := hide (ac w (.cells #[.nilFunc, .nilFunc, .nilFunc, .nilFunc] 186))
 have hQ : Fx w.heap.size 186 [.nilFunc, .nilFunc, .nilFunc, .nilFunc] (w.alloc (.cells #[.nilFunc, .nilFunc, .nilFunc, .nilFunc] 186)) := heap_alloc_new w _
 have HQ := hide hQ
 clear hQ
 go_enter Tryz.func132, Tryz.ntmps132
 go_upto_region 1 with fail
 generalize hW : w.alloc (.cells #[.nilFunc, .nilFunc, .nilFunc, .nilFunc] 186) = W at *
 clear hW
 have z0 := HQ.out.frz 0
 have z1 := HQ.out.frz 1
 have z2 := HQ.out.frz 2
 have z3 := HQ.out.frz 3
 have y0 := HQ.out.get (i := 0) rfl
 have y1 := HQ.out.get (i := 1) rfl
 have y2 := HQ.out.get (i := 2) rfl
 have y3 := HQ.out.get (i := 3) rfl
 go_wp2_with fail
 have HG := hide ((((HQ.out.set 0 (fv 158)).set 1 (fv 159)).set 2 (fv 160)).set 3 (fv 161))
 have Aa := hide ((((HB.out.setCell (p := ⟨w.heap.size, 0, none⟩) (Nat.le_refl _) (fv 158)).setCell (p := ⟨w.heap.size, 1, none⟩) (Nat.le_refl _) (fv 159)).setCell (p := ⟨w.heap.size, 2, none⟩) (Nat.le_refl _) (fv 160)).setCell (p := ⟨w.heap.size, 3, none⟩) (Nat.le_refl _) (fv 161))
 clear z0 z1 z2 z3 y0 y1 y2 y3 HQ HB
 refine bodyPost_ret (results_cell_row rfl _ _ w.heap.size 186 tbl4 _ _ rfl HG.out Tryz.underlying186 rfl (by kernel_rfl)) rfl ?_
 exact ⟨rfl, Aa.out⟩
section
variable {S : Nat → Prop} {N0 : Nat} {K : cH} {T : Th} {pq fm sd : Nat} {F : List Int} {f : Int → Int} {w : World}
theorem kK {w w' : World} {e : Ending} {r : oI} (h : rm w w' e r) : ∃ va vc, e = .returned (.agg #[.int .i64 0, .int .i64 0, .int .i64 r.1, .int .i64 r.2.1, .slice va (List.length r.2.2) vc]) ∧ w'.ownsRow w.heap.size 100 2 (.slice va (List.length r.2.2) vc) (List.length r.2.2) (prs r.2.2) := by
 obtain ⟨_, rfl, va, vc, rfl, h⟩ := h
 exact ⟨va, vc, rfl, h⟩
theorem si (hT : Wt T K.n) (hX : Xr S N0 K T w) (hP : Pm K pq fm sd F f w) {j : Nat} (hj : j < 4) {q : Nat} (hq : q < K.n) :
    ∃ fn : Nat, tbl4.toList[j]? = some (fv fn) ∧ (∀ args w', (callFunc fn args).run Tryz.prog w' = .ok (.enter fn args) w') ∧ ∀ X : World, Below w.heap.size w X → Calls Tryz.prog fn #[ab pq, .int .i64 (q : Int)] X fun e w' => ∃ va vc, e = .returned (.agg #[.int .i64 0, .int .i64 0, .int .i64 (eh T F f q ((j : Int) + 1)).1, .int .i64 (eh T F f q ((j : Int) + 1)).2.1, .slice va (List.length (eh T F f q ((j : Int) + 1)).2.2) vc]) ∧ w'.ownsRow X.heap.size 100 2 (.slice va (List.length (eh T F f q ((j : Int) + 1)).2.2) vc) (List.length (eh T F f q ((j : Int) + 1)).2.2) (prs (eh T F f q ((j : Int) + 1)).2.2) ∧ Below X.heap.size X w' := by
 match j, hj with
 | 0, _ => exact ⟨_, rfl, fun args w' => rfl, fun X hb => (plusDelta_any hT (hX.go hb) (hP.go hb) hq).mono fun e w' h => by obtain ⟨va, vc, h1, h2⟩ := kK h.1; exact ⟨va, vc, h1, h2, h.2⟩⟩
 | 1, _ => exact ⟨_, rfl, fun args w' => rfl, fun X hb => (minusDelta_any hT (hX.go hb) (hP.go hb) hq).mono fun e w' h => by obtain ⟨va, vc, h1, h2⟩ := kK h.1; exact ⟨va, vc, h1, h2, h.2⟩⟩
 | 2, _ => exact ⟨_, rfl, fun args w' => rfl, fun X hb => (plusPartial_any hT (hX.go hb) (hP.go hb) hq).mono fun e w' h => by obtain ⟨va, vc, h1, h2⟩ := kK h.1; exact ⟨va, vc, h1, h2, h.2⟩⟩
 | 3, _ => exact ⟨_, rfl, fun args w' => rfl, fun X hb => (minusPartial_any hT (hX.go hb) (hP.go hb) hq).mono fun e w' h => by obtain ⟨va, vc, h1, h2⟩ := kK h.1; exact ⟨va, vc, h1, h2, h.2⟩⟩
end
def xi (b5 b8 j q pq fn : Nat) (r1 r2 : Int) (r3 : List (Int × Int)) (i : Nat) (v : Value) (W : World) (lo hi : Nat) : Prop := match i with
 | 0 => v = .pointer (some ⟨b8, 1, none⟩)
 | 1 => v = .int .i64 ((j : Int) + 1)
 | 2 => v = .int .i64 (j : Int)
 | 3 => v = .pointer (some ⟨b5, j, none⟩)
 | 4 => v = .func (.func fn) #[] #[]
 | 5 => v = ab pq
 | 6 => v = .pointer (some ⟨b8, 0, none⟩)
 | 7 => v = .int .i64 (q : Int)
 | 8 => ∃ va vc, v = .agg #[.int .i64 0, .int .i64 0, .int .i64 r1, .int .i64 r2, .slice va (List.length r3) vc] ∧ W.ownsRow lo 100 2 (.slice va (List.length r3) vc) (List.length r3) (prs r3) ∧ ∀ g, Value.ownBlock (.slice va (List.length r3) vc) = some g → g < hi
 | 9 => ∃ g, v = ab g ∧ Fx g 32 stepZ W ∧ lo ≤ g ∧ g < hi
 | _ => True
theorem fG {b5 b8 j q pq fn : Nat} {r1 r2 : Int} {r3 : List (Int × Int)} : ∀ i v W W' lo hi, xi b5 b8 j q pq fn r1 r2 r3 i v W lo hi → hi ≤ W.heap.size → Below W.heap.size W W' → xi b5 b8 j q pq fn r1 r2 r3 i v W' lo hi := by
 intro i v W W' lo hi h hh hb
 unfold xi at *
 split at h
 all_goals first
  | exact h
  | (obtain ⟨va, vc, a, b, c⟩ := h; exact ⟨va, vc, a, owns_keep b fun g hg => hb.block g (aD b hg), c⟩)
  | (obtain ⟨g, a, b, c⟩ := h; exact ⟨g, a, b.keep (hb.block _ b.lt), c⟩)
  | trivial
def yP (r1 r2 : Int) (r3 : List (Int × Int)) (W0 : World) (σ : Nat → Value) (W : World) : Prop := ∃ g va vc, σ 9 = ab g ∧ Fx g 32 [.int .i64 0, .int .i64 0, .int .i64 r1, .int .i64 r2, .slice va (List.length r3) vc] W ∧ W.ownsRow W0.heap.size 100 2 (.slice va (List.length r3) vc) (List.length r3) (prs r3) ∧ W0.heap.size ≤ g ∧ Value.ownBlock (.slice va (List.length r3) vc) ≠ some g ∧ Below W0.heap.size W0 W
theorem xA {Z : Nat → Prop} {a b c : World} (h : Fr Z a b) (k : Fr (fun g => a.heap.size ≤ g) b c) : Fr Z a c :=
 ⟨k.os.trans h.os, k.tape.trans h.tape, k.output.trans h.output, Nat.le_trans h.size k.size, fun i hi hz => (k.block i (Nat.lt_of_lt_of_le hi h.size) (by omega)).trans (h.block i hi hz)⟩
theorem Gy.down {α : Type} {T k B B2 : Nat} {c : (Nat → Prop) → World → α → List Value → Prop} {l : List α} {mv : Value} {wr : World} (h : Gy T k c B l mv wr) (hb : B2 ≤ B) : Gy T k c B2 l mv wr := by
 obtain ⟨Z, xs, h1, h2, h3⟩ := h
 exact ⟨Z, xs, bg h1 hb, fun g hg => ⟨Nat.le_trans hb (h2 g hg).1, (h2 g hg).2⟩, h3⟩
theorem oW {T : Th} {f : Int → Int} {rs : List Int} {t : Int} (h : rs.length ≤ 4096) : (refsM T f rs t).1.length ≤ 4096 := by
 have := oP (g := fun r => refdM T f r t) (l := rs) (acc := [])
 unfold refsM
 simp at this
 omega
theorem qd {T : Th} {f : Int → Int} {q : Int} (h : T.rules.length ≤ 4096) : ∀ {l : List Int}, (dy T f q l).2.2.length ≤ 4096
 | [] => by simp [dy]
 | x :: l => by
  unfold dy
  split
  · exact oW (Nat.le_trans je h)
  · exact qd h
theorem oU {T : Th} {F : List Int} {f : Int → Int} {q t : Int} (h : T.rules.length ≤ 4096) : (eh T F f q t).2.2.length ≤ 4096 := by
 unfold eh rsPD rsMD rsPP rsMP
 repeat' split
 all_goals first
  | exact Nat.zero_le _
  | exact oW (Nat.le_trans bD h)
  | (simp only [List.length_map]; exact Nat.le_trans iH h)
  | exact qd h
theorem sE {T : Th} {F : List Int} {n : Nat} {f : Int → Int} {l : List (Int × Int)} {k : Nat} {x : Int × Int} (h : l[k]? = some x) : dE T F n f (l.drop k) = fL T F f x.1 x.2 :: dE T F n (sayM n f (fL T F f x.1 x.2)) (l.drop (k + 1)) := by rw [bf h]; rfl
theorem rY : (Tryz.prog.info? 32).map (fun i => (i.zero, i.size, i.bytes)) = some (some (.agg #[.int .i64 0, .int .i64 0, .int .i64 0, .int .i64 0, .slice none 0 0]), 5, 56) := by kernel_rfl
section
variable {S : Nat → Prop} {N0 : Nat} {K : cH} {T : Th} {pq fm sd : Nat} {F : List Int} {f : Int → Int} {w : World}
theorem dx (hT : Wt T K.n) (hX : Xr S N0 K T w) (hP : Pm K pq fm sd F f w) (h1 : ¬ S sd) (h2 : N0 ≤ sd) {od : List (Int × Int)} {oa : Option Addr} {oc : Nat} (ho : Prow w oa od) (hol : od.length ≤ 65536) (hod : ∀ x ∈ od, ∃ (q j : Nat), x = ((q : Int), (j : Int) + 1) ∧ q < K.n ∧ j < 4) (hos : ∀ g, oa = some ⟨g, 0, none⟩ → od ≠ [] → g ≠ sd) :
    Calls Tryz.prog 95 #[ab pq, .slice oa od.length oc] w fun e w' => ∃ v, e = .returned v ∧ Gy 32 5 jp w.heap.size (dE T F K.n f od) v w' ∧ Fr (fun k => k = sd) w w' := by
 obtain ⟨iS, BF, BN, BR, BM⟩ := info_parts rY
 have BV : Tryz.prog.follows .mixedOrders = true := by kernel_rfl
 have CR := hide (qX w)
 have HT := hide hT
 have HX := hide hX
 have HP := hide hP
 have HO := hide ho
 have BI := hide hod
 have BQ := hide hos
 have H1 := hide h1
 have H2 := hide h2
 have AG := hide (show sd < w.heap.size from hP.sd.lt)
 obtain ⟨m, hm⟩ : ∃ m, od.length = m := ⟨_, rfl⟩
 have HM := hide hm
 rw [hm] at hol ⊢
 clear hT hX hP ho hod hos h1 h2 hm
 go_enter Tryz.func95, Tryz.ntmps95
 go_upto_region 2 with (go_at_call 132; refine CR.out.mono ?_; rintro _ w0 ⟨rfl, Bs⟩; have AJ := hide Bs; clear Bs CR)
 go_wp2_with fail
 have Ap := hide (AJ.out.trans ((ac w0 (.cells #[.func (.func 158) #[] #[], .func (.func 159) #[] #[], .func (.func 160) #[] #[], .func (.func 161) #[] #[]] 186)).mono AJ.out.size))
 have Be : Fx w0.heap.size 186 tbl4.toList (w0.alloc (.cells #[.func (.func 158) #[] #[], .func (.func 159) #[] #[], .func (.func 160) #[] #[], .func (.func 161) #[] #[]] 186)) := heap_alloc_new w0 _
 have Bk := hide Be
 clear Be
 have Cd : w.heap.size ≤ w0.heap.size := AJ.out.size
 generalize w0.alloc (.cells #[.func (.func 158) #[] #[], .func (.func 159) #[] #[], .func (.func 160) #[] #[], .func (.func 161) #[] #[]] 186) = w5 at *
 generalize w0.heap.size = b5 at *
 go_loopw [6, 13] (fun u x wr => ∃ (k : Nat) (fk : Int → Int) (tl : List StM) (ma : Option Addr) (mc : Nat), k ≤ m ∧ x = .int .i64 k ∧ u = .slice ma k mc ∧ Hid (tl.length = k ∧ dE T F K.n f od = tl ++ dE T F K.n fk (od.drop k)) ∧ Hid (Gy 32 5 jp w5.heap.size tl (.slice ma k mc) wr) ∧ Hid (Pm K pq fm sd F fk wr) ∧ Hid (Fr (fun g => g = sd) w5 wr)) (fun _ x _ => m - (intOf x).toNat)
 case atStart => exact ⟨0, f, [], none, 0, by omega, rfl, rfl, hide ⟨rfl, by rw [List.drop_zero]; rfl⟩, hide Gy.nil, hide (HP.out.go Ap.out), hide (Fr.refl _ _)⟩
 case round =>
  obtain ⟨k, fk, tl, ma, mc, hk, rfl, rfl, An, HG, Bl, Ax⟩ := hrel
  have Ar := hide ((Fr.of_below (Z := fun g => g = sd) Ap.out).trans Ax.out)
  by_cases hlt : k < m
  · obtain ⟨y, hy⟩ := am (l := od) (i := k) (by rw [HM.out]; exact hlt)
    obtain ⟨q, j, rfl, hq, hj⟩ := BI.out y (List.mem_of_getElem? hy)
    obtain ⟨g0, Bh, AE, Bu⟩ := HO.out k _ hy
    have AB : g0 ≠ sd := BQ.out g0 Bh fun e => by rw [e] at hy; simp at hy
    have AW : g0 < w.heap.size := World.block_lt_of_cell? w _ AE
    have cA : wr.cell? ⟨g0, k * 2, none⟩ = some (.int .i64 (q : Int)) := (World.cell?_of_block (Ar.out.block g0 AW AB)).trans AE
    have cB : wr.cell? ⟨g0, k * 2 + 1, none⟩ = some (.int .i64 ((j : Int) + 1)) := (World.cell?_of_block (Ar.out.block g0 AW AB)).trans Bu
    subst Bh
    have BK := hide (sE (T := T) (F := F) (n := K.n) (f := fk) hy)
    clear hy AE Bu AB AW
    have hA := ac wr (.cells #[.int .i64 (q : Int), .int .i64 ((j : Int) + 1)] 85)
    have Bq : Fx wr.heap.size 85 [.int .i64 (q : Int), .int .i64 ((j : Int) + 1)] (wr.alloc (.cells #[.int .i64 (q : Int), .int .i64 ((j : Int) + 1)] 85)) := heap_alloc_new wr _
    have AK := (HX.out.fr Ar.out fun k hk => by rw [hk]; exact ⟨H1.out, H2.out⟩).go hA
    have AD := Bl.out.go hA
    obtain ⟨fn, Bt, AY, AA⟩ := si HT.out AK AD hj hq
    have AO := Bk.out.keep (Ax.out.block _ Bk.out.lt (by have := AG.out; omega))
    have BE := hide AK
    have BC := hide AD
    have AI := hide (AO.keep (hA.block _ AO.lt))
    have Ao := hide Bq
    have HA := hide hA
    have BO := hide Bt
    obtain ⟨⟨r1, r2, r3⟩, AV⟩ : ∃ z, eh T F fk q ((j : Int) + 1) = z := ⟨_, rfl⟩
    rw [AV] at AA
    have Av := hide AV
    have Bo := hide AA
    have eT := hide AY
    clear hA Bq AK AD Bt AY AA AO AV
    go_upto_region 6 with fail
    clear cA cB
    generalize wr.alloc (.cells #[.int .i64 (q : Int), .int .i64 ((j : Int) + 1)] 85) = w1 at *
    obtain ⟨b8, BH⟩ : ∃ b, wr.heap.size = b := ⟨_, rfl⟩
    rw [BH] at Ao ⊢
    have HDr := hide ((Below.refl w1.heap.size w1).drew)
    obtain ⟨W0, Bb⟩ : ∃ W0, w1.drew = W0 := ⟨_, rfl⟩
    rw [Bb] at HDr
    have e1 : IntKind.i64.wrap ((j : Int) + 1 - 1) = (j : Int) := by rw [IntKind.wrap_i64]; omega
    have e2 : IntKind.i64.wrap (j : Int) = (j : Int) := by rw [IntKind.wrap_i64]; omega
    have Ad : Hid (fI [some 17, some 18, some 19, some 20, some 21, some 22, some 23, some 24, some 25, some 9, none] [(0, ab pq), (5, ab b5), (8, ab b8)] = true) := hide rfl
    have Aw : Hid (∀ X, Below W0.heap.size W0 X → X.cell? ⟨b8, 0, none⟩ = some (.int .i64 (q : Int)) ∧ X.cell? ⟨b8, 1, none⟩ = some (.int .i64 ((j : Int) + 1)) ∧ X.cell? ⟨b5, j, none⟩ = some (fv fn)) := hide fun X hX => by
     have hb := HDr.out.trans (hX.mono HDr.out.size)
     have h8 := Ao.out.keep (hb.block _ Ao.out.lt)
     exact ⟨h8.get (i := 0) rfl, h8.get (i := 1) rfl, (AI.out.keep (hb.block _ AI.out.lt)).get BO.out⟩
    have CT : Hid (∀ X, Below W0.heap.size W0 X → _) := hide fun X hX => Bo.out X (HDr.out.trans (hX.mono HDr.out.size))
    clear Bo
    refine bM fJ (Jl 10 [some 17, some 18, some 19, some 20, some 21, some 22, some 23, some 24, some 25, some 9, none] [(0, ab pq), (5, ab b5), (8, ab b8)] (xi b5 b8 j q pq fn r1 r2 r3) (yP r1 r2 r3 W0) W0) (by kernel_rfl) (by kernel_rfl) ?_ (bV ⟨?_, ?_, ?_, ?_, ?_, ?_, ?_, ?_, ?_, ?_, ?_, trivial⟩) ?_ ?_
    · refine ⟨fun _ => ?_, fun e => by cases e⟩
      show Jg _ _ _ W0 _ _ w1.drew
      rw [Bb]
      exact Jg.start.2 fun p hp => by simp at hp; rcases hp with rfl | rfl | rfl <;> rfl
    · intro ρ X L hc hf hL hd Ac Ab
      have Aa : L 10 = false := ah (by kernel_rfl) Ac (k := 0) (by simp) hL
      have hJ := Ab.1 Aa
      have k8 : ρ (.tmp 8) = ab b8 := hJ.base (8, ab b8) (by simp)
      refine aa (v := .pointer (some ⟨b8, 1, none⟩)) (w' := X) ?_ ⟨fun _ => hJ.put Ad.out fG (i := 0) (d := 17) rfl (Below.refl _ _) (rfl), fun e => by rw [aj (by decide), Aa] at e; cases e⟩
      clear hd Ac hJ Ab hL Aa
      go_simp
    · intro ρ X L hc hf hL hd Ac Ab
      have Aa : L 10 = false := ah (by kernel_rfl) Ac (k := 1) (by simp) hL
      have hJ := Ab.1 Aa
      obtain ⟨c0, c1, c5⟩ := Aw.out X hJ.low
      have Cg : ρ (.tmp 17) = .pointer (some ⟨b8, 1, none⟩) := by
       obtain ⟨_, _, _, e1⟩ := hJ.get (i := 0) (d := 17) rfl (hd ⟨0, .data⟩ (by simp) rfl)
       exact e1
      refine aa (v := .int .i64 ((j : Int) + 1)) (w' := X) ?_ ⟨fun _ => hJ.put Ad.out fG (i := 1) (d := 18) rfl (Below.refl _ _) (rfl), fun e => by rw [aj (by decide), Aa] at e; cases e⟩
      clear hd Ac hJ Ab hL Aa
      go_simp
    · intro ρ X L hc hf hL hd Ac Ab
      have Aa : L 10 = false := ah (by kernel_rfl) Ac (k := 2) (by simp) hL
      have hJ := Ab.1 Aa
      have Cc : ρ (.tmp 18) = .int .i64 ((j : Int) + 1) := by
       obtain ⟨_, _, _, e1⟩ := hJ.get (i := 1) (d := 18) rfl (hd ⟨1, .data⟩ (by simp) rfl)
       exact e1
      refine aa (v := .int .i64 (j : Int)) (w' := X) ?_ ⟨fun _ => hJ.put Ad.out fG (i := 2) (d := 19) rfl (Below.refl _ _) (rfl), fun e => by rw [aj (by decide), Aa] at e; cases e⟩
      clear hd Ac hJ Ab hL Aa
      go_simp
    · intro ρ X L hc hf hL hd Ac Ab
      have Aa : L 10 = false := ah (by kernel_rfl) Ac (k := 3) (by simp) hL
      have hJ := Ab.1 Aa
      have k5 : ρ (.tmp 5) = ab b5 := hJ.base (5, ab b5) (by simp)
      have Cb : ρ (.tmp 19) = .int .i64 (j : Int) := by
       obtain ⟨_, _, _, e1⟩ := hJ.get (i := 2) (d := 19) rfl (hd ⟨2, .data⟩ (by simp) rfl)
       exact e1
      refine aa (v := .pointer (some ⟨b5, j, none⟩)) (w' := X) ?_ ⟨fun _ => hJ.put Ad.out fG (i := 3) (d := 20) rfl (Below.refl _ _) (rfl), fun e => by rw [aj (by decide), Aa] at e; cases e⟩
      clear hd Ac hJ Ab hL Aa
      go_simp
      exact fun h => absurd h (by omega)
    · intro ρ X L hc hf hL hd Ac Ab
      have Aa : L 10 = false := ah (by kernel_rfl) Ac (k := 4) (by simp) hL
      have hJ := Ab.1 Aa
      obtain ⟨c0, c1, c5⟩ := Aw.out X hJ.low
      have BZ : ρ (.tmp 20) = .pointer (some ⟨b5, j, none⟩) := by
       obtain ⟨_, _, _, e1⟩ := hJ.get (i := 3) (d := 20) rfl (hd ⟨3, .data⟩ (by simp) rfl)
       exact e1
      refine aa (v := .func (.func fn) #[] #[]) (w' := X) ?_ ⟨fun _ => hJ.put Ad.out fG (i := 4) (d := 21) rfl (Below.refl _ _) (rfl), fun e => by rw [aj (by decide), Aa] at e; cases e⟩
      clear hd Ac hJ Ab hL Aa
      go_simp
    · intro ρ X L hc hf hL hd Ac Ab
      have Aa : L 10 = false := ah (by kernel_rfl) Ac (k := 5) (by simp) hL
      have hJ := Ab.1 Aa
      have k0 : ρ (.tmp 0) = ab pq := hJ.base (0, ab pq) (by simp)
      refine aa (v := ab pq) (w' := X) ?_ ⟨fun _ => hJ.put Ad.out fG (i := 5) (d := 22) rfl (Below.refl _ _) (rfl), fun e => by rw [aj (by decide), Aa] at e; cases e⟩
      clear hd Ac hJ Ab hL Aa
      go_simp
    · intro ρ X L hc hf hL hd Ac Ab
      have Aa : L 10 = false := ah (by kernel_rfl) Ac (k := 6) (by simp) hL
      have hJ := Ab.1 Aa
      have k8 : ρ (.tmp 8) = ab b8 := hJ.base (8, ab b8) (by simp)
      refine aa (v := .pointer (some ⟨b8, 0, none⟩)) (w' := X) ?_ ⟨fun _ => hJ.put Ad.out fG (i := 6) (d := 23) rfl (Below.refl _ _) (rfl), fun e => by rw [aj (by decide), Aa] at e; cases e⟩
      clear hd Ac hJ Ab hL Aa
      go_simp
    · intro ρ X L hc hf hL hd Ac Ab
      have Aa : L 10 = false := ah (by kernel_rfl) Ac (k := 7) (by simp) hL
      have hJ := Ab.1 Aa
      obtain ⟨c0, c1, c5⟩ := Aw.out X hJ.low
      have Ce : ρ (.tmp 23) = .pointer (some ⟨b8, 0, none⟩) := by
       obtain ⟨_, _, _, e1⟩ := hJ.get (i := 6) (d := 23) rfl (hd ⟨6, .data⟩ (by simp) rfl)
       exact e1
      refine aa (v := .int .i64 (q : Int)) (w' := X) ?_ ⟨fun _ => hJ.put Ad.out fG (i := 7) (d := 24) rfl (Below.refl _ _) (rfl), fun e => by rw [aj (by decide), Aa] at e; cases e⟩
      clear hd Ac hJ Ab hL Aa
      go_simp
    · intro ρ X L hc hf hL hd Ac Ab
      have Aa : L 10 = false := ah (by kernel_rfl) Ac (k := 8) (by simp) hL
      have hJ := Ab.1 Aa
      have BW : ρ (.tmp 21) = .func (.func fn) #[] #[] := by
       obtain ⟨_, _, _, e1⟩ := hJ.get (i := 4) (d := 21) rfl (hd ⟨4, .data⟩ (by simp) rfl)
       exact e1
      have Ca : ρ (.tmp 22) = ab pq := by
       obtain ⟨_, _, _, e1⟩ := hJ.get (i := 5) (d := 22) rfl (hd ⟨5, .data⟩ (by simp) rfl)
       exact e1
      have BX : ρ (.tmp 24) = .int .i64 (q : Int) := by
       obtain ⟨_, _, _, e1⟩ := hJ.get (i := 7) (d := 24) rfl (hd ⟨7, .data⟩ (by simp) rfl)
       exact e1
      have hC := CT.out X hJ.low
      have he := eT.out #[ab pq, .int .i64 (q : Int)] X
      refine eB (f := fn) (args := #[ab pq, .int .i64 (q : Int)]) (w' := X) ?_ hC ?_
      · clear hd Ac hJ Ab hL Aa hC
        go_simp
      · rintro _ Y ⟨va, vc, rfl, Ag, hb⟩
        exact ⟨_, rfl, fun _ => hJ.put Ad.out fG (i := 8) (d := 25) rfl hb (⟨va, vc, rfl, Ag, fun g e => (Ag.lt g e).2⟩), fun e => by rw [aj (by decide), Aa] at e; cases e⟩
    · intro ρ X L hc hf hL hd Ac Ab
      have Aa : L 10 = false := ah (by kernel_rfl) Ac (k := 9) (by simp) hL
      have hJ := Ab.1 Aa
      refine aa (v := ab X.heap.size) (w' := X.alloc (.cells #[.int .i64 0, .int .i64 0, .int .i64 0, .int .i64 0, .slice none 0 0] 32)) ?_ ⟨fun _ => hJ.put Ad.out fG (i := 9) (d := 9) rfl (ac X _) (⟨X.heap.size, rfl, heap_alloc_new X _, Nat.le_refl _, by simp⟩), fun e => by rw [aj (by decide), Aa] at e; cases e⟩
      clear hd Ac hJ Ab hL Aa
      go_simp
    · intro ρ X L hc hf hL hd Ac Ab
      have hJ := Ab.1 hL
      obtain ⟨lo, hi, AH, AM⟩ := hJ.at_
      have l8 : L 8 = true := hd ⟨8, .data⟩ (by simp) rfl
      have l9 : L 9 = true := hd ⟨9, .data⟩ (by simp) rfl
      obtain ⟨p1, p2, p3, va, vc, Bi, Ag, Bc⟩ := AH 8 25 rfl l8
      obtain ⟨q1, q2, q3, g, e9, h0, q4, q5⟩ := AH 9 9 rfl l9
      have d1 := AM 8 9 25 9 rfl rfl (by decide) l8 l9
      have BY : ρ (.tmp 25) = .agg #[.int .i64 0, .int .i64 0, .int .i64 r1, .int .i64 r2, .slice va (List.length r3) vc] := Bi
      have k9 : ρ (.tmp 9) = ab g := e9
      have Ak : Value.ownBlock (.slice va (List.length r3) vc) ≠ some g := fun e => by
       have := (Ag.lt _ e).1
       have := Bc _ e
       omega
      have y0 := h0.get (i := 0) rfl
      have z0 := h0.frz 0
      have y1 := h0.get (i := 1) rfl
      have z1 := h0.frz 1
      have y2 := h0.get (i := 2) rfl
      have z2 := h0.frz 2
      have y3 := h0.get (i := 3) rfl
      have z3 := h0.frz 3
      have y4 := h0.get (i := 4) rfl
      have z4 := h0.frz 4
      have AQ : Hid (yP r1 r2 r3 W0 (fF (fun s => ρ (.tmp s)) none undef) (((((X.setCell ⟨g, 0, none⟩ (.int .i64 0)).setCell ⟨g, 1, none⟩ (.int .i64 0)).setCell ⟨g, 2, none⟩ (.int .i64 r1)).setCell ⟨g, 3, none⟩ (.int .i64 r2)).setCell ⟨g, 4, none⟩ (.slice va (List.length r3) vc))) := hide ⟨g, va, vc, by rw [eQ (by simp)]; exact k9, lj h0, bg (owns_keep Ag fun k hk => wW fun e => Ak (e ▸ hk)) p1, by omega, Ak, fi hJ.low (by omega)⟩
      refine bN (w' := ((((X.setCell ⟨g, 0, none⟩ (.int .i64 0)).setCell ⟨g, 1, none⟩ (.int .i64 0)).setCell ⟨g, 2, none⟩ (.int .i64 r1)).setCell ⟨g, 3, none⟩ (.int .i64 r2)).setCell ⟨g, 4, none⟩ (.slice va (List.length r3) vc)) ?_ ⟨fun e => (by rw [aG] at e; cases e), fun _ => AQ.out⟩
      clear hd Ac hJ Ab hL AQ h0 Bi e9 Ag Bc AH AM d1 p1 p2 p3 q1 q2 q3 q4 q5 l8 l9 Ak
      go_simp
    · intro c a' w' _ hE
      exact hE.elim
    · rintro ⟨Af, df⟩ w' AC Bf ⟨L, hL, hJ⟩ Ai
      simp only at Bf AC
      subst Bf
      obtain ⟨g9, va, vc, e9, Bg, Az, Ba, AL, AN⟩ := hJ.2 (hL 10 (by decide))
      have e9 : Af.getD 9 undef = ab g9 := e9
      have AP := dX 17 25 9 (by kernel_rfl) AC Ai
      simp only [zs, Nat.reduceLT, Nat.reduceAdd, true_or, or_true, or_self, false_and, ne_eq, Nat.reduceEqDiff, not_false_eq_true, not_true_eq_false, and_self, and_false, if_true, if_false, e9] at AP
      rw [AP]
      clear AP hJ hL Ai AC e9 Aw Ad CT eT
      have Al := hide Bg
      have AU := hide Az
      have AR := hide (HDr.out.trans (AN.mono HDr.out.size))
      have Bd := hide Ba
      have BP := hide AL
      clear Bg Az Ba AL AN
      generalize Af.getD 17 undef = x17
      generalize Af.getD 18 undef = x18
      generalize Af.getD 19 undef = x19
      generalize Af.getD 20 undef = x20
      generalize Af.getD 21 undef = x21
      generalize Af.getD 22 undef = x22
      generalize Af.getD 23 undef = x23
      generalize Af.getD 24 undef = x24
      generalize Af.getD 25 undef = x25
      have Au := hide (Ao.out.keep (AR.out.block _ Ao.out.lt))
      have BB := Au.out.get (i := 0) rfl
      have BL := Au.out.get (i := 1) rfl
      have f0 := Al.out.get (i := 0) rfl
      have f1 := Al.out.get (i := 1) rfl
      have k0 := Al.out.frz 0
      have k1 := Al.out.frz 1
      have Br : b8 ≠ g9 := fun e => by have := Ao.out.lt; have := HDr.out.size; have := Bd.out; omega
      have BS : g9 ≠ b8 := Ne.symm Br
      go_wp2_with fail
      go_region
      have Bj : w1.heap.size ≤ g9 := Nat.le_trans HDr.out.size Bd.out
      have Am : Hid (Below w1.heap.size w1 ((w'.setCell ⟨g9, 1, none⟩ (.int .i64 (q : Int))).setCell ⟨g9, 0, none⟩ (.int .i64 ((j : Int) + 1))).drew) := hide ((AR.out.setCell (p := ⟨g9, 1, none⟩) Bj _).setCell (p := ⟨g9, 0, none⟩) Bj _).drew
      have Ah : Hid (Fx g9 32 [.int .i64 ((j : Int) + 1), .int .i64 (q : Int), .int .i64 r1, .int .i64 r2, .slice va (List.length r3) vc] ((w'.setCell ⟨g9, 1, none⟩ (.int .i64 (q : Int))).setCell ⟨g9, 0, none⟩ (.int .i64 ((j : Int) + 1))).drew) := hide ((Al.out.set 1 (.int .i64 (q : Int))).set 0 (.int .i64 ((j : Int) + 1)))
      have As : Hid (World.ownsRow ((w'.setCell ⟨g9, 1, none⟩ (.int .i64 (q : Int))).setCell ⟨g9, 0, none⟩ (.int .i64 ((j : Int) + 1))).drew W0.heap.size 100 2 (.slice va (List.length r3) vc) (List.length r3) (prs r3)) := hide (owns_keep AU.out fun g hg => by
       have Ak : g ≠ g9 := fun e => BP.out (e ▸ hg)
       show ((w'.setCell ⟨g9, 1, none⟩ (.int .i64 (q : Int))).setCell ⟨g9, 0, none⟩ (.int .i64 ((j : Int) + 1))).heap[g]? = _
       rw [other_set Ak, other_set Ak])
      clear BB BL f0 f1 k0 k1 Au Al AU AR Br BS
      generalize ((w'.setCell ⟨g9, 1, none⟩ (.int .i64 (q : Int))).setCell ⟨g9, 0, none⟩ (.int .i64 ((j : Int) + 1))).drew = w3 at *
      have f0 := Ah.out.get (i := 0) rfl
      have f1 := Ah.out.get (i := 1) rfl
      have f2 := Ah.out.get (i := 2) rfl
      have f3 := Ah.out.get (i := 3) rfl
      have f4 := Ah.out.get (i := 4) rfl
      have CS := hide (rL HT.out (BE.out.go Am.out) (BC.out.go Am.out) ⟨(j : Int) + 1, (q : Int), r1, r2, r3⟩ va vc)
      have Cf : sd < w1.heap.size := by have := AG.out; have := Ar.out.size; have := HA.out.size; omega
      go_upto_region 9 with (go_at_call 33; refine CS.out.mono ?_; rintro _ w4 ⟨rfl, AF, AT⟩; have By := hide AF; have Aj := hide AT; clear AF AT CS)
      have BA : g9 ≠ sd := by omega
      have Aq := hide (Ah.out.keep (Aj.out.block _ Ah.out.lt BA))
      clear f0 f1 f2 f3 f4
      have f0 := Aq.out.get (i := 0) rfl
      have f1 := Aq.out.get (i := 1) rfl
      have f2 := Aq.out.get (i := 2) rfl
      have f3 := Aq.out.get (i := 3) rfl
      have f4 := Aq.out.get (i := 4) rfl
      have Bn : Hid (∀ g, w5.heap.size ≤ g → g < wr.heap.size → w4.heap[g]? = wr.heap[g]?) := hide fun g h1 h2 => by
       have s1 := HA.out.size
       have s3 := Am.out.size
       have s5 := Ap.out.size
       rw [Aj.out.block g (by omega) (by have := AG.out; omega), Am.out.block g (by omega), HA.out.block g (by omega)]
      obtain ⟨Z, xs, Ae, hz, Ai⟩ := HG.out
      rw [An.out.1] at Ae
      have AX := hide Ae
      have HZ := hide hz
      have Bx := hide Ai
      have s1 := HA.out.size
      have s3 := Am.out.size
      have s4 := Aj.out.size
      have s5 := Ap.out.size
      have s6 := Ax.out.size
      have Bw := hide (owns_keep Ae fun g hg => ((ac w4 (.cells #[.int .i64 ((j : Int) + 1), .int .i64 (q : Int), .int .i64 r1, .int .i64 r2, .slice va (List.length r3) vc] 32)).block g (by have := (Ae.lt g hg).2; omega)).trans (Bn.out g (Ae.lt g hg).1 (Ae.lt g hg).2))
      have At := hide (owns_keep As.out fun g hg => Aj.out.block g (aD As.out hg) (by have := (As.out.lt g hg).1; have := HDr.out.size; omega))
      have BU : Hid (∀ g, Value.ownBlock (.slice ma k mc) = some g → w5.heap.size ≤ g) := hide fun g e => (Ae.lt g e).1
      clear Ae hz Ai HG
      go_wp2_with (at_builtin; go_must (refine bC _ rfl _ _ 27 rfl w5.heap.size 32 iS _ 5 56 Tryz.underlying27 BF BN BR BM rfl (by decide) (.slice ma k mc) k xs rfl Bw.out ⟨w4.heap.size, 0, none⟩ 1 [.int .i64 ((j : Int) + 1), .int .i64 (q : Int), .int .i64 r1, .int .i64 r2, .slice va (List.length r3) vc] rfl rfl (lB (cs := [.int .i64 ((j : Int) + 1), .int .i64 (q : Int), .int .i64 r1, .int .i64 r2, .slice va (List.length r3) vc]) rfl) (by intro u hu; simp at hu; rcases hu with rfl | rfl | rfl | rfl | rfl <;> rfl) (by unfold maxLen; omega) (by omega) (by simp; omega) ?_); intro g4 AS w6 Ay Bp; have BG := hide Ay; have AZ := hide Bp; clear Ay Bp)
      have Bm : Hid (Fr (fun k => w5.heap.size ≤ k) w4 w6) := hide (dB rfl (by rcases AZ.out with h | ⟨h1, h2⟩; exact .inl h; exact .inr ⟨by simpa using h1, h2⟩) BU.out)
      have BT : Hid (Gy 32 5 jp w5.heap.size (tl ++ [fL T F fk (q : Int) ((j : Int) + 1)]) (.slice (some ⟨g4, 0, none⟩) (k + 1) AS) w6) := hide (Gy.grow (Zn := fun g => Value.ownBlock (.slice va (List.length r3) vc) = some g) ie An.out.1 AX.out HZ.out Bx.out Bn.out (by omega) (by omega) (fun g hg => ⟨by have := (At.out.lt g hg).1; have := HDr.out.size; omega, (At.out.lt g hg).2⟩) ⟨.slice va (List.length r3) vc, by unfold fL; rw [Av.out], by unfold fL; rw [Av.out]; exact rT At.out (fun g e => e) (by have := oU (T := T) (F := F) (f := fk) (q := (q : Int)) (t := (j : Int) + 1) HT.out.rl; rw [Av.out] at this; exact Nat.le_trans this (by decide))⟩ rfl BG.out (by rcases AZ.out with h | ⟨h1, h2⟩; exact .inl h; exact .inr ⟨by simpa using h1, h2⟩))
      have Bv : Hid (Pm K pq fm sd F (sayM K.n fk (fL T F fk (q : Int) ((j : Int) + 1))) w6) := hide (by
       have h4 := By.out
       have e : fL T F fk (q : Int) ((j : Int) + 1) = ⟨(j : Int) + 1, (q : Int), r1, r2, r3⟩ := by unfold fL; rw [Av.out]
       rw [e]
       refine h4.keep fun g hg => Bm.out.block g ?_ ?_
       · rcases hg with rfl | rfl | rfl
         · exact h4.bx.lt
         · exact h4.ff.lt
         · exact h4.sd.lt
       · have b1 := HP.out.bx.lt
         have b2 := HP.out.ff.lt
         have b3 := HP.out.sd.lt
         rcases hg with rfl | rfl | rfl <;> omega)
      have Bz : Hid (Fr (fun g => g = sd) w5 w6) := hide (xA (((Ax.out.trans (Fr.of_below HA.out)).trans (Fr.of_below Am.out)).trans Aj.out) Bm.out)
      go_roundw
      case rel => exact ⟨k + 1, _, tl ++ [fL T F fk (q : Int) ((j : Int) + 1)], some ⟨g4, 0, none⟩, AS, by omega, by go_num, rfl, hide ⟨by rw [List.length_append, An.out.1]; rfl, by rw [An.out.2, BK.out, List.append_assoc]; rfl⟩, BT, Bv, Bz⟩
      case measure => simp [intOf]; omega
  · have BD : k = m := by omega
    subst BD
    have HE : Hid (dE T F K.n f od = tl) := hide (by
     have := An.out.2
     rw [List.drop_eq_nil_of_le (by rw [HM.out]; omega)] at this
     rw [this]
     unfold dE
     rw [List.append_nil])
    have BJ := hide (HG.out.down (B2 := w.heap.size) Ap.out.size)
    clear An HG Bl
    go_wp2_with fail
    go_ret
    rw [HE.out]
    exact ⟨_, rfl, BJ.out, Ar.out⟩
end
end Go.Proofs.YtmlhcncagdfjfaaGreat.De
