import Derived.Test.YtmlhcncagdfjfaaGreatDrP
import Derived.Test.YtmlhcncagdfjfaaGreatDrW
import Derived.Test.YtmlhcncagdfjfaaGreatCnq
set_option maxRecDepth 100000
set_option maxHeartbeats 25600000
namespace Go.Proofs.YtmlhcncagdfjfaaGreat.De
open Go.RowKit Fa Rg
abbrev tbl4 : Array Value := #[fv 158, fv 159, fv 160, fv 161]
theorem rz (w : World) : Calls Tryz.prog 132 #[] w fun e w' => e = .returned (.agg tbl4) ∧ Below w.heap.size w w' := by
 have HB := hide (ae w (.cells #[.nilFunc, .nilFunc, .nilFunc, .nilFunc] 186))
 have hQ : Fx w.heap.size 186 [.nilFunc, .nilFunc, .nilFunc, .nilFunc] (w.alloc (.cells #[.nilFunc, .nilFunc, .nilFunc, .nilFunc] 186)) := heap_alloc_new w _
 have HQ := hide hQ
 clear hQ
 go_enter Tryz.func132, Tryz.ntmps132
 go_upto_region 1 with fail
 generalize hW : w.alloc (.cells #[.nilFunc, .nilFunc, .nilFunc, .nilFunc] 186) = W at *
 clear hW
 have z0 := HQ.out.frz 0
 have z1 := HQ.out.frz 1
 have z2 := HQ.out.frz 2
 have z3 := HQ.out.frz 3
 have y0 := HQ.out.get (i := 0) rfl
 have y1 := HQ.out.get (i := 1) rfl
 have y2 := HQ.out.get (i := 2) rfl
 have y3 := HQ.out.get (i := 3) rfl
 go_wp2_with fail
 have HG := hide ((((HQ.out.set 0 (fv 158)).set 1 (fv 159)).set 2 (fv 160)).set 3 (fv 161))
 have Aa := hide ((((HB.out.setCell (p := ⟨w.heap.size, 0, none⟩) (Nat.le_refl _) (fv 158)).setCell (p := ⟨w.heap.size, 1, none⟩) (Nat.le_refl _) (fv 159)).setCell (p := ⟨w.heap.size, 2, none⟩) (Nat.le_refl _) (fv 160)).setCell (p := ⟨w.heap.size, 3, none⟩) (Nat.le_refl _) (fv 161))
 clear z0 z1 z2 z3 y0 y1 y2 y3 HQ HB
 refine bodyPost_ret (results_cell_row rfl _ _ w.heap.size 186 tbl4 _ _ rfl HG.out Tryz.underlying186 rfl (by kernel_rfl)) rfl ?_
 exact ⟨rfl, Aa.out⟩
section
variable {S : Nat → Prop} {N0 : Nat} {K : cC} {T : Th} {pq fm sd : Nat} {F : List Int} {f : Int → Int} {w : World}
theorem kh {w w' : World} {e : Ending} {r : pn} (h : rT w w' e r) : ∃ va vc, e = .returned (.agg #[.int .i64 0, .int .i64 0, .int .i64 r.1, .int .i64 r.2.1, .slice va (List.length r.2.2) vc]) ∧ w'.ownsRow w.heap.size 100 2 (.slice va (List.length r.2.2) vc) (List.length r.2.2) (prs r.2.2) := by
 obtain ⟨_, rfl, va, vc, rfl, h⟩ := h
 exact ⟨va, vc, rfl, h⟩
theorem sI (hT : Wt T K.n) (hX : Xr S N0 K T w) (hP : Pm K pq fm sd F f w) {j : Nat} (hj : j < 4) {q : Nat} (hq : q < K.n) :
    ∃ fn : Nat, tbl4.toList[j]? = some (fv fn) ∧ (∀ args w', (callFunc fn args).run Tryz.prog w' = .ok (.enter fn args) w') ∧ ∀ X : World, Below w.heap.size w X → Calls Tryz.prog fn #[aa pq, .int .i64 (q : Int)] X fun e w' => ∃ va vc, e = .returned (.agg #[.int .i64 0, .int .i64 0, .int .i64 (dK T F f q ((j : Int) + 1)).1, .int .i64 (dK T F f q ((j : Int) + 1)).2.1, .slice va (List.length (dK T F f q ((j : Int) + 1)).2.2) vc]) ∧ w'.ownsRow X.heap.size 100 2 (.slice va (List.length (dK T F f q ((j : Int) + 1)).2.2) vc) (List.length (dK T F f q ((j : Int) + 1)).2.2) (prs (dK T F f q ((j : Int) + 1)).2.2) ∧ Below X.heap.size X w' := by
 match j, hj with
 | 0, _ => exact ⟨_, rfl, fun args w' => rfl, fun X hb => (plusDelta_any hT (hX.go hb) (hP.go hb) hq).mono fun e w' h => by obtain ⟨va, vc, h1, h2⟩ := kh h.1; exact ⟨va, vc, h1, h2, h.2⟩⟩
 | 1, _ => exact ⟨_, rfl, fun args w' => rfl, fun X hb => (minusDelta_any hT (hX.go hb) (hP.go hb) hq).mono fun e w' h => by obtain ⟨va, vc, h1, h2⟩ := kh h.1; exact ⟨va, vc, h1, h2, h.2⟩⟩
 | 2, _ => exact ⟨_, rfl, fun args w' => rfl, fun X hb => (plusPartial_any hT (hX.go hb) (hP.go hb) hq).mono fun e w' h => by obtain ⟨va, vc, h1, h2⟩ := kh h.1; exact ⟨va, vc, h1, h2, h.2⟩⟩
 | 3, _ => exact ⟨_, rfl, fun args w' => rfl, fun X hb => (minusPartial_any hT (hX.go hb) (hP.go hb) hq).mono fun e w' h => by obtain ⟨va, vc, h1, h2⟩ := kh h.1; exact ⟨va, vc, h1, h2, h.2⟩⟩
end
def xd (b5 b8 j q pq fn : Nat) (r1 r2 : Int) (r3 : List (Int × Int)) (i : Nat) (v : Value) (W : World) (lo hi : Nat) : Prop := match i with
 | 0 => v = .pointer (some ⟨b8, 1, none⟩)
 | 1 => v = .int .i64 ((j : Int) + 1)
 | 2 => v = .int .i64 (j : Int)
 | 3 => v = .pointer (some ⟨b5, j, none⟩)
 | 4 => v = .func (.func fn) #[] #[]
 | 5 => v = aa pq
 | 6 => v = .pointer (some ⟨b8, 0, none⟩)
 | 7 => v = .int .i64 (q : Int)
 | 8 => ∃ va vc, v = .agg #[.int .i64 0, .int .i64 0, .int .i64 r1, .int .i64 r2, .slice va (List.length r3) vc] ∧ W.ownsRow lo 100 2 (.slice va (List.length r3) vc) (List.length r3) (prs r3) ∧ ∀ g, Value.ownBlock (.slice va (List.length r3) vc) = some g → g < hi
 | 9 => ∃ g, v = aa g ∧ Fx g 32 stepZ W ∧ lo ≤ g ∧ g < hi
 | _ => True
theorem fu {b5 b8 j q pq fn : Nat} {r1 r2 : Int} {r3 : List (Int × Int)} : ∀ i v W W' lo hi, xd b5 b8 j q pq fn r1 r2 r3 i v W lo hi → hi ≤ W.heap.size → Below W.heap.size W W' → xd b5 b8 j q pq fn r1 r2 r3 i v W' lo hi := by
 intro i v W W' lo hi h hh hb
 unfold xd at *
 split at h
 all_goals first
  | exact h
  | (obtain ⟨va, vc, a, b, c⟩ := h; exact ⟨va, vc, a, owns_keep b fun g hg => hb.block g (ax b hg), c⟩)
  | (obtain ⟨g, a, b, c⟩ := h; exact ⟨g, a, b.keep (hb.block _ b.lt), c⟩)
  | trivial
def yV (r1 r2 : Int) (r3 : List (Int × Int)) (W0 : World) (σ : Nat → Value) (W : World) : Prop := ∃ g va vc, σ 9 = aa g ∧ Fx g 32 [.int .i64 0, .int .i64 0, .int .i64 r1, .int .i64 r2, .slice va (List.length r3) vc] W ∧ W.ownsRow W0.heap.size 100 2 (.slice va (List.length r3) vc) (List.length r3) (prs r3) ∧ W0.heap.size ≤ g ∧ Value.ownBlock (.slice va (List.length r3) vc) ≠ some g ∧ Below W0.heap.size W0 W
theorem xn {Z : Nat → Prop} {a b c : World} (h : Fr Z a b) (k : Fr (fun g => a.heap.size ≤ g) b c) : Fr Z a c :=
 ⟨k.os.trans h.os, k.tape.trans h.tape, k.output.trans h.output, Nat.le_trans h.size k.size, fun i hi hz => (k.block i (Nat.lt_of_lt_of_le hi h.size) (by omega)).trans (h.block i hi hz)⟩
theorem Gy.down {α : Type} {T k B B2 : Nat} {c : (Nat → Prop) → World → α → List Value → Prop} {l : List α} {mv : Value} {wr : World} (h : Gy T k c B l mv wr) (hb : B2 ≤ B) : Gy T k c B2 l mv wr := by
 obtain ⟨Z, xs, h1, h2, h3⟩ := h
 exact ⟨Z, xs, aI h1 hb, fun g hg => ⟨Nat.le_trans hb (h2 g hg).1, (h2 g hg).2⟩, h3⟩
theorem o9 {T : Th} {f : Int → Int} {rs : List Int} {t : Int} (h : rs.length ≤ 4096) : (refsM T f rs t).1.length ≤ 4096 := by
 have := oW (g := fun r => refdM T f r t) (l := rs) (acc := [])
 unfold refsM
 simp at this
 omega
theorem qy {T : Th} {f : Int → Int} {q : Int} (h : T.rules.length ≤ 4096) : ∀ {l : List Int}, (dr T f q l).2.2.length ≤ 4096
 | [] => by simp [dr]
 | x :: l => by
  unfold dr
  split
  ·exact o9 (Nat.le_trans ij h)
  exact qy h
theorem pi {T : Th} {F : List Int} {f : Int → Int} {q t : Int} (h : T.rules.length ≤ 4096) : (dK T F f q t).2.2.length ≤ 4096 := by
 unfold dK rsPD rsMD rsPP rsMP
 repeat' split
 all_goals first
  | exact Nat.zero_le _
  | exact o9 (Nat.le_trans bg h)
  | (simp only [List.length_map]; exact Nat.le_trans g8 h)
  | exact qy h
theorem sK {T : Th} {F : List Int} {n : Nat} {f : Int → Int} {l : List (Int × Int)} {k : Nat} {x : Int × Int} (h : l[k]? = some x) : dD T F n f (l.drop k) = fw T F f x.1 x.2 :: dD T F n (sayM n f (fw T F f x.1 x.2)) (l.drop (k + 1)) := by rw [aM h]; rfl
theorem rH : (Tryz.prog.info? 32).map (fun i => (i.zero, i.size, i.bytes)) = some (some (.agg #[.int .i64 0, .int .i64 0, .int .i64 0, .int .i64 0, .slice none 0 0]), 5, 56) := by kernel_rfl
section
variable {S : Nat → Prop} {N0 : Nat} {K : cC} {T : Th} {pq fm sd : Nat} {F : List Int} {f : Int → Int} {w : World}
theorem dh (hT : Wt T K.n) (hX : Xr S N0 K T w) (hP : Pm K pq fm sd F f w) (h1 : ¬ S sd) (h2 : N0 ≤ sd) {od : List (Int × Int)} {oa : Option Addr} {oc : Nat} (ho : Prow w oa od) (hol : od.length ≤ 65536) (hod : ∀ x ∈ od, ∃ (q j : Nat), x = ((q : Int), (j : Int) + 1) ∧ q < K.n ∧ j < 4) (hos : ∀ g, oa = some ⟨g, 0, none⟩ → od ≠ [] → g ≠ sd) :
    Calls Tryz.prog 95 #[aa pq, .slice oa od.length oc] w fun e w' => ∃ v, e = .returned v ∧ Gy 32 5 i5 w.heap.size (dD T F K.n f od) v w' ∧ Fr (fun k => k = sd) w w' := by
 obtain ⟨iS, BG, BU, BE, BP⟩ := info_parts rH
 have BV : Tryz.prog.follows .mixedOrders = true := by kernel_rfl
 have CR := hide (rz w)
 have HT := hide hT
 have HX := hide hX
 have HP := hide hP
 have HO := hide ho
 have BC := hide hod
 have BJ := hide hos
 have H1 := hide h1
 have H2 := hide h2
 have AM := hide (show sd < w.heap.size from hP.sd.lt)
 obtain ⟨m, hm⟩ : ∃ m, od.length = m := ⟨_, rfl⟩
 have HM := hide hm
 rw [hm] at hol ⊢
 clear hT hX hP ho hod hos h1 h2 hm
 go_enter Tryz.func95, Tryz.ntmps95
 go_upto_region 2 with (go_at_call 132; refine CR.out.mono ?_; rintro _ w0 ⟨rfl, Bl⟩; have AR := hide Bl; clear Bl CR)
 go_wp2_with fail
 have Aq := hide (AR.out.trans ((ae w0 (.cells #[.func (.func 158) #[] #[], .func (.func 159) #[] #[], .func (.func 160) #[] #[], .func (.func 161) #[] #[]] 186)).mono AR.out.size))
 have Bd : Fx w0.heap.size 186 tbl4.toList (w0.alloc (.cells #[.func (.func 158) #[] #[], .func (.func 159) #[] #[], .func (.func 160) #[] #[], .func (.func 161) #[] #[]] 186)) := heap_alloc_new w0 _
 have Bj := hide Bd
 clear Bd
 have Cc : w.heap.size ≤ w0.heap.size := AR.out.size
 generalize w0.alloc (.cells #[.func (.func 158) #[] #[], .func (.func 159) #[] #[], .func (.func 160) #[] #[], .func (.func 161) #[] #[]] 186) = w5 at *
 generalize w0.heap.size = b5 at *
 go_loopw [6, 13] (fun u x wr => ∃ (k : Nat) (fk : Int → Int) (tl : List StM) (ma : Option Addr) (mc : Nat), k ≤ m ∧ x = .int .i64 k ∧ u = .slice ma k mc ∧ Hid (tl.length = k ∧ dD T F K.n f od = tl ++ dD T F K.n fk (od.drop k)) ∧ Hid (Gy 32 5 i5 w5.heap.size tl (.slice ma k mc) wr) ∧ Hid (Pm K pq fm sd F fk wr) ∧ Hid (Fr (fun g => g = sd) w5 wr)) (fun _ x _ => m - (intOf x).toNat)
 case atStart => exact ⟨0, f, [], none, 0, by omega, rfl, rfl, hide ⟨rfl, by rw [List.drop_zero]; rfl⟩, hide Gy.nil, hide (HP.out.go Aq.out), hide (Fr.refl _ _)⟩
 obtain ⟨k, fk, tl, ma, mc, hk, rfl, rfl, Al, HG, Bs, Av⟩ := hrel
 have Ap := hide ((Fr.of_below (Z := fun g => g = sd) Aq.out).trans Av.out)
 by_cases hlt : k < m
 ·obtain ⟨y, hy⟩ := am (l := od) (i := k) (by rw [HM.out]; exact hlt)
  obtain ⟨q, j, rfl, hq, hj⟩ := BC.out y (List.mem_of_getElem? hy)
  obtain ⟨g0, Ba, AF, Bo⟩ := HO.out k _ hy
  have AN : g0 ≠ sd := BJ.out g0 Ba fun e => by rw [e] at hy; simp at hy
  have AH : g0 < w.heap.size := World.block_lt_of_cell? w _ AF
  have cA : wr.cell? ⟨g0, k * 2, none⟩ = some (.int .i64 (q : Int)) := (World.cell?_of_block (Ap.out.block g0 AH AN)).trans AF
  have cB : wr.cell? ⟨g0, k * 2 + 1, none⟩ = some (.int .i64 ((j : Int) + 1)) := (World.cell?_of_block (Ap.out.block g0 AH AN)).trans Bo
  subst Ba
  have BO := hide (sK (T := T) (F := F) (n := K.n) (f := fk) hy)
  clear hy AF Bo AN AH
  have hA := ae wr (.cells #[.int .i64 (q : Int), .int .i64 ((j : Int) + 1)] 85)
  have Bf : Fx wr.heap.size 85 [.int .i64 (q : Int), .int .i64 ((j : Int) + 1)] (wr.alloc (.cells #[.int .i64 (q : Int), .int .i64 ((j : Int) + 1)] 85)) := heap_alloc_new wr _
  have AI := (HX.out.fr Ap.out fun k hk => by rw [hk]; exact ⟨H1.out, H2.out⟩).go hA
  have AS := Bs.out.go hA
  obtain ⟨fn, Bt, Bb, AP⟩ := sI HT.out AI AS hj hq
  have AA := Bj.out.keep (Av.out.block _ Bj.out.lt (by have := AM.out; omega))
  have BQ := hide AI
  have BN := hide AS
  have AJ := hide (AA.keep (hA.block _ AA.lt))
  have Ak := hide Bf
  have HA := hide hA
  have BM := hide Bt
  obtain ⟨⟨r1, r2, r3⟩, AT⟩ : ∃ z, dK T F fk q ((j : Int) + 1) = z := ⟨_, rfl⟩
  rw [AT] at AP
  have Ax := hide AT
  have Bk := hide AP
  have eT := hide Bb
  clear hA Bf AI AS Bt Bb AP AA AT
  go_upto_region 6 with fail
  clear cA cB
  generalize wr.alloc (.cells #[.int .i64 (q : Int), .int .i64 ((j : Int) + 1)] 85) = w1 at *
  obtain ⟨b8, BK⟩ : ∃ b, wr.heap.size = b := ⟨_, rfl⟩
  rw [BK] at Ak ⊢
  have HDr := hide ((Below.refl w1.heap.size w1).drew)
  obtain ⟨W0, Bi⟩ : ∃ W0, w1.drew = W0 := ⟨_, rfl⟩
  rw [Bi] at HDr
  have e1 : IntKind.i64.wrap ((j : Int) + 1 - 1) = (j : Int) := by rw [IntKind.wrap_i64]; omega
  have e2 : IntKind.i64.wrap (j : Int) = (j : Int) := by rw [IntKind.wrap_i64]; omega
  have Ad : Hid (fQ [some 17, some 18, some 19, some 20, some 21, some 22, some 23, some 24, some 25, some 9, none] [(0, aa pq), (5, aa b5), (8, aa b8)] = true) := hide rfl
  have Ay : Hid (∀ X, Below W0.heap.size W0 X → X.cell? ⟨b8, 0, none⟩ = some (.int .i64 (q : Int)) ∧ X.cell? ⟨b8, 1, none⟩ = some (.int .i64 ((j : Int) + 1)) ∧ X.cell? ⟨b5, j, none⟩ = some (fv fn)) := hide fun X hX => by
   have hb := HDr.out.trans (hX.mono HDr.out.size)
   have h8 := Ak.out.keep (hb.block _ Ak.out.lt)
   exact ⟨h8.get (i := 0) rfl, h8.get (i := 1) rfl, (AJ.out.keep (hb.block _ AJ.out.lt)).get BM.out⟩
  have CT : Hid (∀ X, Below W0.heap.size W0 X → _) := hide fun X hX => Bk.out X (HDr.out.trans (hX.mono HDr.out.size))
  clear Bk
  refine bW fY (Jl 10 [some 17, some 18, some 19, some 20, some 21, some 22, some 23, some 24, some 25, some 9, none] [(0, aa pq), (5, aa b5), (8, aa b8)] (xd b5 b8 j q pq fn r1 r2 r3) (yV r1 r2 r3 W0) W0) (by kernel_rfl) (by kernel_rfl) ?_ (ci ⟨?_, ?_, ?_, ?_, ?_, ?_, ?_, ?_, ?_, ?_, ?_, trivial⟩) ?_ ?_
  ·refine ⟨fun _ => ?_, fun e => by cases e⟩
   show Jg _ _ _ W0 _ _ w1.drew
   rw [Bi]
   exact Jg.start.2 fun p hp => by simp at hp; rcases hp with rfl | rfl | rfl <;> rfl
  ·intro ρ X L hc hf hL hd Ac Ab
   have Aa : L 10 = false := ak (by kernel_rfl) Ac (k := 0) (by simp) hL
   have hJ := Ab.1 Aa
   have k8 : ρ (.tmp 8) = aa b8 := hJ.base (8, aa b8) (by simp)
   refine ac (v := .pointer (some ⟨b8, 1, none⟩)) (w' := X) ?_ ⟨fun _ => hJ.put Ad.out fu (i := 0) (d := 17) rfl (Below.refl _ _) (rfl), fun e => by rw [al (by decide), Aa] at e; cases e⟩
   clear hd Ac hJ Ab hL Aa
   go_simp
  ·intro ρ X L hc hf hL hd Ac Ab
   have Aa : L 10 = false := ak (by kernel_rfl) Ac (k := 1) (by simp) hL
   have hJ := Ab.1 Aa
   obtain ⟨c0, c1, c5⟩ := Ay.out X hJ.low
   have BW : ρ (.tmp 17) = .pointer (some ⟨b8, 1, none⟩) := by
    obtain ⟨_, _, _, e1⟩ := hJ.get (i := 0) (d := 17) rfl (hd ⟨0, .data⟩ (by simp) rfl)
    exact e1
   refine ac (v := .int .i64 ((j : Int) + 1)) (w' := X) ?_ ⟨fun _ => hJ.put Ad.out fu (i := 1) (d := 18) rfl (Below.refl _ _) (rfl), fun e => by rw [al (by decide), Aa] at e; cases e⟩
   clear hd Ac hJ Ab hL Aa
   go_simp
  ·intro ρ X L hc hf hL hd Ac Ab
   have Aa : L 10 = false := ak (by kernel_rfl) Ac (k := 2) (by simp) hL
   have hJ := Ab.1 Aa
   have Ce : ρ (.tmp 18) = .int .i64 ((j : Int) + 1) := by
    obtain ⟨_, _, _, e1⟩ := hJ.get (i := 1) (d := 18) rfl (hd ⟨1, .data⟩ (by simp) rfl)
    exact e1
   refine ac (v := .int .i64 (j : Int)) (w' := X) ?_ ⟨fun _ => hJ.put Ad.out fu (i := 2) (d := 19) rfl (Below.refl _ _) (rfl), fun e => by rw [al (by decide), Aa] at e; cases e⟩
   clear hd Ac hJ Ab hL Aa
   go_simp
  ·intro ρ X L hc hf hL hd Ac Ab
   have Aa : L 10 = false := ak (by kernel_rfl) Ac (k := 3) (by simp) hL
   have hJ := Ab.1 Aa
   have k5 : ρ (.tmp 5) = aa b5 := hJ.base (5, aa b5) (by simp)
   have BX : ρ (.tmp 19) = .int .i64 (j : Int) := by
    obtain ⟨_, _, _, e1⟩ := hJ.get (i := 2) (d := 19) rfl (hd ⟨2, .data⟩ (by simp) rfl)
    exact e1
   refine ac (v := .pointer (some ⟨b5, j, none⟩)) (w' := X) ?_ ⟨fun _ => hJ.put Ad.out fu (i := 3) (d := 20) rfl (Below.refl _ _) (rfl), fun e => by rw [al (by decide), Aa] at e; cases e⟩
   clear hd Ac hJ Ab hL Aa
   go_simp
   exact fun h => absurd h (by omega)
  ·intro ρ X L hc hf hL hd Ac Ab
   have Aa : L 10 = false := ak (by kernel_rfl) Ac (k := 4) (by simp) hL
   have hJ := Ab.1 Aa
   obtain ⟨c0, c1, c5⟩ := Ay.out X hJ.low
   have Ca : ρ (.tmp 20) = .pointer (some ⟨b5, j, none⟩) := by
    obtain ⟨_, _, _, e1⟩ := hJ.get (i := 3) (d := 20) rfl (hd ⟨3, .data⟩ (by simp) rfl)
    exact e1
   refine ac (v := .func (.func fn) #[] #[]) (w' := X) ?_ ⟨fun _ => hJ.put Ad.out fu (i := 4) (d := 21) rfl (Below.refl _ _) (rfl), fun e => by rw [al (by decide), Aa] at e; cases e⟩
   clear hd Ac hJ Ab hL Aa
   go_simp
  ·intro ρ X L hc hf hL hd Ac Ab
   have Aa : L 10 = false := ak (by kernel_rfl) Ac (k := 5) (by simp) hL
   have hJ := Ab.1 Aa
   have k0 : ρ (.tmp 0) = aa pq := hJ.base (0, aa pq) (by simp)
   refine ac (v := aa pq) (w' := X) ?_ ⟨fun _ => hJ.put Ad.out fu (i := 5) (d := 22) rfl (Below.refl _ _) (rfl), fun e => by rw [al (by decide), Aa] at e; cases e⟩
   clear hd Ac hJ Ab hL Aa
   go_simp
  ·intro ρ X L hc hf hL hd Ac Ab
   have Aa : L 10 = false := ak (by kernel_rfl) Ac (k := 6) (by simp) hL
   have hJ := Ab.1 Aa
   have k8 : ρ (.tmp 8) = aa b8 := hJ.base (8, aa b8) (by simp)
   refine ac (v := .pointer (some ⟨b8, 0, none⟩)) (w' := X) ?_ ⟨fun _ => hJ.put Ad.out fu (i := 6) (d := 23) rfl (Below.refl _ _) (rfl), fun e => by rw [al (by decide), Aa] at e; cases e⟩
   clear hd Ac hJ Ab hL Aa
   go_simp
  ·intro ρ X L hc hf hL hd Ac Ab
   have Aa : L 10 = false := ak (by kernel_rfl) Ac (k := 7) (by simp) hL
   have hJ := Ab.1 Aa
   obtain ⟨c0, c1, c5⟩ := Ay.out X hJ.low
   have Cb : ρ (.tmp 23) = .pointer (some ⟨b8, 0, none⟩) := by
    obtain ⟨_, _, _, e1⟩ := hJ.get (i := 6) (d := 23) rfl (hd ⟨6, .data⟩ (by simp) rfl)
    exact e1
   refine ac (v := .int .i64 (q : Int)) (w' := X) ?_ ⟨fun _ => hJ.put Ad.out fu (i := 7) (d := 24) rfl (Below.refl _ _) (rfl), fun e => by rw [al (by decide), Aa] at e; cases e⟩
   clear hd Ac hJ Ab hL Aa
   go_simp
  ·intro ρ X L hc hf hL hd Ac Ab
   have Aa : L 10 = false := ak (by kernel_rfl) Ac (k := 8) (by simp) hL
   have hJ := Ab.1 Aa
   have Cg : ρ (.tmp 21) = .func (.func fn) #[] #[] := by
    obtain ⟨_, _, _, e1⟩ := hJ.get (i := 4) (d := 21) rfl (hd ⟨4, .data⟩ (by simp) rfl)
    exact e1
   have Cd : ρ (.tmp 22) = aa pq := by
    obtain ⟨_, _, _, e1⟩ := hJ.get (i := 5) (d := 22) rfl (hd ⟨5, .data⟩ (by simp) rfl)
    exact e1
   have Cf : ρ (.tmp 24) = .int .i64 (q : Int) := by
    obtain ⟨_, _, _, e1⟩ := hJ.get (i := 7) (d := 24) rfl (hd ⟨7, .data⟩ (by simp) rfl)
    exact e1
   have hC := CT.out X hJ.low
   have he := eT.out #[aa pq, .int .i64 (q : Int)] X
   refine dT (f := fn) (args := #[aa pq, .int .i64 (q : Int)]) (w' := X) ?_ hC ?_
   ·clear hd Ac hJ Ab hL Aa hC
    go_simp
   rintro _ Y ⟨va, vc, rfl, Ag, hb⟩
   exact ⟨_, rfl, fun _ => hJ.put Ad.out fu (i := 8) (d := 25) rfl hb (⟨va, vc, rfl, Ag, fun g e => (Ag.lt g e).2⟩), fun e => by rw [al (by decide), Aa] at e; cases e⟩
  ·intro ρ X L hc hf hL hd Ac Ab
   have Aa : L 10 = false := ak (by kernel_rfl) Ac (k := 9) (by simp) hL
   have hJ := Ab.1 Aa
   refine ac (v := aa X.heap.size) (w' := X.alloc (.cells #[.int .i64 0, .int .i64 0, .int .i64 0, .int .i64 0, .slice none 0 0] 32)) ?_ ⟨fun _ => hJ.put Ad.out fu (i := 9) (d := 9) rfl (ae X _) (⟨X.heap.size, rfl, heap_alloc_new X _, Nat.le_refl _, by simp⟩), fun e => by rw [al (by decide), Aa] at e; cases e⟩
   clear hd Ac hJ Ab hL Aa
   go_simp
  ·intro ρ X L hc hf hL hd Ac Ab
   have hJ := Ab.1 hL
   obtain ⟨lo, hi, AG, AK⟩ := hJ.at_
   have l8 : L 8 = true := hd ⟨8, .data⟩ (by simp) rfl
   have l9 : L 9 = true := hd ⟨9, .data⟩ (by simp) rfl
   obtain ⟨p1, p2, p3, va, vc, Bp, Ag, Bm⟩ := AG 8 25 rfl l8
   obtain ⟨q1, q2, q3, g, e9, h0, q4, q5⟩ := AG 9 9 rfl l9
   have d1 := AK 8 9 25 9 rfl rfl (by decide) l8 l9
   have BZ : ρ (.tmp 25) = .agg #[.int .i64 0, .int .i64 0, .int .i64 r1, .int .i64 r2, .slice va (List.length r3) vc] := Bp
   have k9 : ρ (.tmp 9) = aa g := e9
   have An : Value.ownBlock (.slice va (List.length r3) vc) ≠ some g := fun e => by
    have := (Ag.lt _ e).1
    have := Bm _ e
    omega
   have y0 := h0.get (i := 0) rfl
   have z0 := h0.frz 0
   have y1 := h0.get (i := 1) rfl
   have z1 := h0.frz 1
   have y2 := h0.get (i := 2) rfl
   have z2 := h0.frz 2
   have y3 := h0.get (i := 3) rfl
   have z3 := h0.frz 3
   have y4 := h0.get (i := 4) rfl
   have z4 := h0.frz 4
   have AD : Hid (yV r1 r2 r3 W0 (fA (fun s => ρ (.tmp s)) none undef) (((((X.setCell ⟨g, 0, none⟩ (.int .i64 0)).setCell ⟨g, 1, none⟩ (.int .i64 0)).setCell ⟨g, 2, none⟩ (.int .i64 r1)).setCell ⟨g, 3, none⟩ (.int .i64 r2)).setCell ⟨g, 4, none⟩ (.slice va (List.length r3) vc))) := hide ⟨g, va, vc, by rw [eY (by simp)]; exact k9, kH h0, aI (owns_keep Ag fun k hk => xg fun e => An (e ▸ hk)) p1, by omega, An, eU hJ.low (by omega)⟩
   refine bY (w' := ((((X.setCell ⟨g, 0, none⟩ (.int .i64 0)).setCell ⟨g, 1, none⟩ (.int .i64 0)).setCell ⟨g, 2, none⟩ (.int .i64 r1)).setCell ⟨g, 3, none⟩ (.int .i64 r2)).setCell ⟨g, 4, none⟩ (.slice va (List.length r3) vc)) ?_ ⟨fun e => (by rw [aF] at e; cases e), fun _ => AD.out⟩
   clear hd Ac hJ Ab hL AD h0 Bp e9 Ag Bm AG AK d1 p1 p2 p3 q1 q2 q3 q4 q5 l8 l9 An
   go_simp
  ·intro c a' w' _ hE
   exact hE.elim
  rintro ⟨Af, df⟩ w' AU Bq ⟨L, hL, hJ⟩ Ah
  simp only at Bq AU
  subst Bq
  obtain ⟨g9, va, vc, e9, AZ, Az, Br, AC, AB⟩ := hJ.2 (hL 10 (by decide))
  have e9 : Af.getD 9 undef = aa g9 := e9
  have AL := en 17 25 9 (by kernel_rfl) AU Ah
  simp only [zs, Nat.reduceLT, Nat.reduceAdd, true_or, or_true, or_self, false_and, ne_eq, Nat.reduceEqDiff, not_false_eq_true, not_true_eq_false, and_self, and_false, if_true, if_false, e9] at AL
  rw [AL]
  clear AL hJ hL Ah AU e9 Ay Ad CT eT
  have Ao := hide AZ
  have AQ := hide Az
  have AV := hide (HDr.out.trans (AB.mono HDr.out.size))
  have AY := hide Br
  have BF := hide AC
  clear AZ Az Br AC AB
  generalize Af.getD 17 undef = x17
  generalize Af.getD 18 undef = x18
  generalize Af.getD 19 undef = x19
  generalize Af.getD 20 undef = x20
  generalize Af.getD 21 undef = x21
  generalize Af.getD 22 undef = x22
  generalize Af.getD 23 undef = x23
  generalize Af.getD 24 undef = x24
  generalize Af.getD 25 undef = x25
  have As := hide (Ak.out.keep (AV.out.block _ Ak.out.lt))
  have BT := As.out.get (i := 0) rfl
  have BR := As.out.get (i := 1) rfl
  have f0 := Ao.out.get (i := 0) rfl
  have f1 := Ao.out.get (i := 1) rfl
  have k0 := Ao.out.frz 0
  have k1 := Ao.out.frz 1
  have Bc : b8 ≠ g9 := fun e => by have := Ak.out.lt; have := HDr.out.size; have := AY.out; omega
  have BB : g9 ≠ b8 := Ne.symm Bc
  go_wp2_with fail
  go_region
  have Be : w1.heap.size ≤ g9 := Nat.le_trans HDr.out.size AY.out
  have Am : Hid (Below w1.heap.size w1 ((w'.setCell ⟨g9, 1, none⟩ (.int .i64 (q : Int))).setCell ⟨g9, 0, none⟩ (.int .i64 ((j : Int) + 1))).drew) := hide ((AV.out.setCell (p := ⟨g9, 1, none⟩) Be _).setCell (p := ⟨g9, 0, none⟩) Be _).drew
  have Ai : Hid (Fx g9 32 [.int .i64 ((j : Int) + 1), .int .i64 (q : Int), .int .i64 r1, .int .i64 r2, .slice va (List.length r3) vc] ((w'.setCell ⟨g9, 1, none⟩ (.int .i64 (q : Int))).setCell ⟨g9, 0, none⟩ (.int .i64 ((j : Int) + 1))).drew) := hide ((Ao.out.set 1 (.int .i64 (q : Int))).set 0 (.int .i64 ((j : Int) + 1)))
  have Au : Hid (World.ownsRow ((w'.setCell ⟨g9, 1, none⟩ (.int .i64 (q : Int))).setCell ⟨g9, 0, none⟩ (.int .i64 ((j : Int) + 1))).drew W0.heap.size 100 2 (.slice va (List.length r3) vc) (List.length r3) (prs r3)) := hide (owns_keep AQ.out fun g hg => by
   have An : g ≠ g9 := fun e => BF.out (e ▸ hg)
   show ((w'.setCell ⟨g9, 1, none⟩ (.int .i64 (q : Int))).setCell ⟨g9, 0, none⟩ (.int .i64 ((j : Int) + 1))).heap[g]? = _
   rw [other_set An, other_set An])
  clear BT BR f0 f1 k0 k1 As Ao AQ AV Bc BB
  generalize ((w'.setCell ⟨g9, 1, none⟩ (.int .i64 (q : Int))).setCell ⟨g9, 0, none⟩ (.int .i64 ((j : Int) + 1))).drew = w3 at *
  have f0 := Ai.out.get (i := 0) rfl
  have f1 := Ai.out.get (i := 1) rfl
  have f2 := Ai.out.get (i := 2) rfl
  have f3 := Ai.out.get (i := 3) rfl
  have f4 := Ai.out.get (i := 4) rfl
  have CS := hide (rG HT.out (BQ.out.go Am.out) (BN.out.go Am.out) ⟨(j : Int) + 1, (q : Int), r1, r2, r3⟩ va vc)
  have BY : sd < w1.heap.size := by have := AM.out; have := Ap.out.size; have := HA.out.size; omega
  go_upto_region 9 with (go_at_call 33; refine CS.out.mono ?_; rintro _ w4 ⟨rfl, AO, AW⟩; have Bz := hide AO; have Aj := hide AW; clear AO AW CS)
  have Bx : g9 ≠ sd := by omega
  have Ar := hide (Ai.out.keep (Aj.out.block _ Ai.out.lt Bx))
  clear f0 f1 f2 f3 f4
  have f0 := Ar.out.get (i := 0) rfl
  have f1 := Ar.out.get (i := 1) rfl
  have f2 := Ar.out.get (i := 2) rfl
  have f3 := Ar.out.get (i := 3) rfl
  have f4 := Ar.out.get (i := 4) rfl
  have Bn : Hid (∀ g, w5.heap.size ≤ g → g < wr.heap.size → w4.heap[g]? = wr.heap[g]?) := hide fun g h1 h2 => by
   have s1 := HA.out.size
   have s3 := Am.out.size
   have s5 := Aq.out.size
   rw [Aj.out.block g (by omega) (by have := AM.out; omega), Am.out.block g (by omega), HA.out.block g (by omega)]
  obtain ⟨Z, xs, Ae, hz, Ah⟩ := HG.out
  rw [Al.out.1] at Ae
  have AX := hide Ae
  have HZ := hide hz
  have BA := hide Ah
  have s1 := HA.out.size
  have s3 := Am.out.size
  have s4 := Aj.out.size
  have s5 := Aq.out.size
  have s6 := Av.out.size
  have Bv := hide (owns_keep Ae fun g hg => ((ae w4 (.cells #[.int .i64 ((j : Int) + 1), .int .i64 (q : Int), .int .i64 r1, .int .i64 r2, .slice va (List.length r3) vc] 32)).block g (by have := (Ae.lt g hg).2; omega)).trans (Bn.out g (Ae.lt g hg).1 (Ae.lt g hg).2))
  have At := hide (owns_keep Au.out fun g hg => Aj.out.block g (ax Au.out hg) (by have := (Au.out.lt g hg).1; have := HDr.out.size; omega))
  have BI : Hid (∀ g, Value.ownBlock (.slice ma k mc) = some g → w5.heap.size ≤ g) := hide fun g e => (Ae.lt g e).1
  clear Ae hz Ah HG
  go_wp2_with (at_builtin; go_must (refine bt _ rfl _ _ 27 rfl w5.heap.size 32 iS _ 5 56 Tryz.underlying27 BG BU BE BP rfl (by decide) (.slice ma k mc) k xs rfl Bv.out ⟨w4.heap.size, 0, none⟩ 1 [.int .i64 ((j : Int) + 1), .int .i64 (q : Int), .int .i64 r1, .int .i64 r2, .slice va (List.length r3) vc] rfl rfl (lF (cs := [.int .i64 ((j : Int) + 1), .int .i64 (q : Int), .int .i64 r1, .int .i64 r2, .slice va (List.length r3) vc]) rfl) (by intro u hu; simp at hu; rcases hu with rfl | rfl | rfl | rfl | rfl <;> rfl) (by unfold maxLen; omega) (by omega) (by simp; omega) ?_); intro g4 AE w6 Aw Bu; have BS := hide Aw; have Bg := hide Bu; clear Aw Bu)
  have Bh : Hid (Fr (fun k => w5.heap.size ≤ k) w4 w6) := hide (dj rfl (by rcases Bg.out with h | ⟨h1, h2⟩; exact .inl h; exact .inr ⟨by simpa using h1, h2⟩) BI.out)
  have BD : Hid (Gy 32 5 i5 w5.heap.size (tl ++ [fw T F fk (q : Int) ((j : Int) + 1)]) (.slice (some ⟨g4, 0, none⟩) (k + 1) AE) w6) := hide (Gy.grow (Zn := fun g => Value.ownBlock (.slice va (List.length r3) vc) = some g) gN Al.out.1 AX.out HZ.out BA.out Bn.out (by omega) (by omega) (fun g hg => ⟨by have := (At.out.lt g hg).1; have := HDr.out.size; omega, (At.out.lt g hg).2⟩) ⟨.slice va (List.length r3) vc, by unfold fw; rw [Ax.out], by unfold fw; rw [Ax.out]; exact rQ At.out (fun g e => e) (by have := pi (T := T) (F := F) (f := fk) (q := (q : Int)) (t := (j : Int) + 1) HT.out.rl; rw [Ax.out] at this; exact Nat.le_trans this (by decide))⟩ rfl BS.out (by rcases Bg.out with h | ⟨h1, h2⟩; exact .inl h; exact .inr ⟨by simpa using h1, h2⟩))
  have By : Hid (Pm K pq fm sd F (sayM K.n fk (fw T F fk (q : Int) ((j : Int) + 1))) w6) := hide (by
   have h4 := Bz.out
   have e : fw T F fk (q : Int) ((j : Int) + 1) = ⟨(j : Int) + 1, (q : Int), r1, r2, r3⟩ := by unfold fw; rw [Ax.out]
   rw [e]
   refine h4.keep fun g hg => Bh.out.block g ?_ ?_
   ·rcases hg with rfl | rfl | rfl
    ·exact h4.bx.lt
    ·exact h4.ff.lt
    exact h4.sd.lt
   have b1 := HP.out.bx.lt
   have b2 := HP.out.ff.lt
   have b3 := HP.out.sd.lt
   rcases hg with rfl | rfl | rfl <;> omega)
  have Bw : Hid (Fr (fun g => g = sd) w5 w6) := hide (xn (((Av.out.trans (Fr.of_below HA.out)).trans (Fr.of_below Am.out)).trans Aj.out) Bh.out)
  go_roundw
  case rel => exact ⟨k + 1, _, tl ++ [fw T F fk (q : Int) ((j : Int) + 1)], some ⟨g4, 0, none⟩, AE, by omega, by go_num, rfl, hide ⟨by rw [List.length_append, Al.out.1]; rfl, by rw [Al.out.2, BO.out, List.append_assoc]; rfl⟩, BD, By, Bw⟩
  case measure => simp [intOf]; omega
 have BL : k = m := by omega
 subst BL
 have HE : Hid (dD T F K.n f od = tl) := hide (by
  have := Al.out.2
  rw [List.drop_eq_nil_of_le (by rw [HM.out]; omega)] at this
  rw [this]
  unfold dD
  rw [List.append_nil])
 have BH := hide (HG.out.down (B2 := w.heap.size) Aq.out.size)
 clear Al HG Bs
 go_wp2_with fail
 go_ret
 rw [HE.out]
 exact ⟨_, rfl, BH.out, Ap.out⟩
end
end Go.Proofs.YtmlhcncagdfjfaaGreat.De
