import Derived.Test.YtmlhcncagdfjfaaGreatRe2
set_option maxRecDepth 100000
set_option maxHeartbeats 6400000
namespace Go.Proofs.YtmlhcncagdfjfaaGreat.Fa
open Go.RowKit
theorem ti (w : World) (e : Int) : Calls Tryz.prog 15 #[.int .i64 e] w fun r w' => r = .returned (.int .i64 e) ∧ w' = w := by
 go_enter Tryz.func15, Tryz.ntmps15
 go_wp2_with fail
 go_ret
 exact ⟨rfl, rfl⟩
theorem RR.blk {α : Type} {N k : Nat} {c : World → α → List Value → Prop} {w : World} {l : List α} {g T cap : Nat} {vs : List Value} (hg : Fx g T vs w) (hN : g < N) (hcap : l.length ≤ cap) (hlim : l.length ≤ 140737488351232)
    (hc : ∀ i x, l[i]? = some x → ∃ xs, xs.length = k ∧ (∀ j u, xs[j]? = some u → vs[i * k + j]? = some u) ∧ c w x xs) : RR N k c w l (.slice (some ⟨g, 0, none⟩) l.length cap) := by
 refine ⟨_, cap, rfl, hcap, hlim, fun i x hi => ?_⟩
 obtain ⟨xs, h1, h2, h3⟩ := hc i x hi
 exact ⟨g, 0, xs, rfl, hN, h1, fun j u hu => by rw [Nat.zero_add]; exact hg.get (h2 j u hu), h3⟩
theorem RR.none {α : Type} {N k : Nat} {c : World → α → List Value → Prop} {w : World} : RR N k c w [] (.slice .none 0 0) := ⟨_, _, rfl, Nat.le_refl _, Nat.zero_le _, fun i x hi => by simp at hi⟩
theorem tT {vs : List Value} {i : Nat} {x : Value} (h : vs[i]? = some x) : ∀ j u, [x][j]? = some u → vs[i * 1 + j]? = some u := by
 intro j u hu
 match j, hu with
 | 0, hu => simp at hu; subst hu; simpa using h
theorem Ints.blk {N g T : Nat} {w : World} {l : List Int} (hg : Fx g T (aq l) w) (hN : g < N) (hlim : l.length ≤ 140737488351232) : Ints N w l (.slice (some ⟨g, 0, none⟩) l.length l.length) :=
 RR.blk hg hN (Nat.le_refl _) hlim fun i x hi => ⟨[.int .i64 x], rfl, tT (by unfold aq; rw [List.getElem?_map, hi]; rfl), rfl⟩
theorem Lists.blk {N g T : Nat} {w : World} {l : List (List Int)} {vs : List Value} (hg : Fx g T vs w) (hN : g < N) (hlim : l.length ≤ 140737488351232) (hc : ∀ (i : Nat) x, l[i]? = some x → ∃ v, vs[i]? = some v ∧ Ints N w x v) : Lists N w l (.slice (some ⟨g, 0, none⟩) l.length l.length) :=
 RR.blk hg hN (Nat.le_refl _) hlim fun i x hi => by
  obtain ⟨v, h1, h2⟩ := hc i x hi
  exact ⟨[v], rfl, tT h1, v, rfl, h2⟩
theorem qu {α : Type} {P : Nat → α → Prop} {a b : α} (ha : P 0 a) (hb : P 1 b) : ∀ i x, [a, b][i]? = some x → P i x := by
 intro i x hi
 match i, hi with
 | 0, hi => simp at hi; subst hi; exact ha
 | 1, hi => simp at hi; subst hi; exact hb
def allocs (w : World) : List Obj → World
 | [] => w
 | o :: r => allocs (w.alloc o) r
theorem kE : ∀ (os : List Obj) (w : World), Below w.heap.size w (allocs w os) ∧ (allocs w os).heap.size = w.heap.size + os.length ∧ ∀ (i : Nat) o, os[i]? = some o → (allocs w os).heap[w.heap.size + i]? = some o
 | [], w => ⟨Below.refl _ _, rfl, fun i o h => by simp at h⟩
 | o :: r, w => by
  obtain ⟨h1, h2, h3⟩ := kE r (w.alloc o)
  have hs : (w.alloc o).heap.size = w.heap.size + 1 := by simp
  have hb := ae w o
  rw [hs] at h1 h2 h3
  refine ⟨hb.trans (h1.mono (by omega)), by show (allocs (w.alloc o) r).heap.size = _; rw [h2]; simp; omega, fun i q hq => ?_⟩
  cases i with
  | zero =>
   simp at hq
   subst hq
   show (allocs (w.alloc o) r).heap[w.heap.size]? = _
   rw [h1.block _ (by omega)]
   exact heap_alloc_new w o
  | succ i =>
   have := h3 i q (by simpa using hq)
   show (allocs (w.alloc o) r).heap[w.heap.size + (i + 1)]? = _
   rw [← this]
   congr 1
   omega
structure Ev (n : Nat) (w : World) : Prop where
 b0 : Fx n 3 (aq [1]) w
 b1 : Fx (n + 1) 3 (aq [0]) w
 b2 : Fx (n + 1 + 1) 26 [.slice (some ⟨n, 0, none⟩) 1 1, .slice (some ⟨n + 1, 0, none⟩) 1 1] w
 b3 : Fx (n + 1 + 1 + 1) 114 [.int .i64 2, .int .i64 0, .slice none 0 0, .int .i64 2, .int .i64 1, .slice none 0 0] w
theorem Ev.ta {n N : Nat} {w : World} {B : List (List Int)} {ba : Option Addr} {bc : Nat} (h : Ev n w) (hN : n + 4 ≤ N) (hB : Lists N w B (.slice ba B.length bc)) : TA N w ((⟨2, [[1], [0]], [⟨2, 0, []⟩, ⟨2, 1, []⟩], B⟩ : Th)) (some ⟨n + 1 + 1, 0, none⟩) 2 (some ⟨n + 1 + 1 + 1, 0, none⟩) 2 ba bc := by
 refine ⟨?_, ?_, hB⟩
 ·exact Lists.blk (l := [[1], [0]]) h.b2 (by omega) (by decide) (qu ⟨_, rfl, Ints.blk (l := [1]) h.b0 (by omega) (by decide)⟩ ⟨_, rfl, Ints.blk (l := [0]) h.b1 (by omega) (by decide)⟩)
 refine RR.blk (l := ((⟨2, [[1], [0]], [⟨2, 0, []⟩, ⟨2, 1, []⟩], B⟩ : Th)).rules) (cap := 2) h.b3 (by omega) (show 2 ≤ 2 by decide) (show 2 ≤ 140737488351232 by decide) (qu ⟨_, rfl, ?_, _, rfl, RR.none⟩ ⟨_, rfl, ?_, _, rfl, RR.none⟩)
 ·intro j u hu; match j, hu with
  | 0, hu => exact hu
  | 1, hu => exact hu
  | 2, hu => exact hu
 intro j u hu; match j, hu with
 | 0, hu => exact hu
 | 1, hu => exact hu
 | 2, hu => exact hu
end Go.Proofs.YtmlhcncagdfjfaaGreat.Fa
namespace Go.Proofs.YtmlhcncagdfjfaaGreat.De
open Go.RowKit Fa
def pp (n : Nat) : List Obj := [.cells #[.int .i64 2, .slice (some ⟨n + 1 + 1 + 1, 0, none⟩) 2 2, .slice (some ⟨n + 1 + 1 + 1 + 1, 0, none⟩) 2 2, .slice (some ⟨n + 1 + 1 + 1 + 1 + 1 + 1, 0, none⟩) 2 2] 25, .cells #[.int .i64 1] 3, .cells #[.int .i64 0] 3, .cells #[.slice (some ⟨n + 1, 0, none⟩) 1 1, .slice (some ⟨n + 1 + 1, 0, none⟩) 1 1] 26, .cells #[.int .i64 2, .int .i64 0, .slice none 0 0, .int .i64 2, .int .i64 1, .slice none 0 0] 114, .cells #[.int .i64 1] 3, .cells #[.slice (some ⟨n + 1 + 1 + 1 + 1 + 1, 0, none⟩) 1 1, .slice none 0 0] 26]
theorem wk (w : World) : Calls Tryz.prog 53 #[] w fun e w' => ∃ fa fc ra rc ba bc, e = .returned (tv pairT fa fc ra rc ba bc) ∧ TA w'.heap.size w' pairT fa fc ra rc ba bc ∧ Below w.heap.size w w' := by
 have HE : Hid ((((((((w.alloc (.cells #[.int .i64 2, .slice (some ⟨w.heap.size + 1 + 1 + 1, 0, none⟩) 2 2, .slice (some ⟨w.heap.size + 1 + 1 + 1 + 1, 0, none⟩) 2 2, .slice (some ⟨w.heap.size + 1 + 1 + 1 + 1 + 1 + 1, 0, none⟩) 2 2] 25)).alloc (.cells #[.int .i64 1] 3)).alloc (.cells #[.int .i64 0] 3)).alloc (.cells #[.slice (some ⟨w.heap.size + 1, 0, none⟩) 1 1, .slice (some ⟨w.heap.size + 1 + 1, 0, none⟩) 1 1] 26)).alloc (.cells #[.int .i64 2, .int .i64 0, .slice none 0 0, .int .i64 2, .int .i64 1, .slice none 0 0] 114)).alloc (.cells #[.int .i64 1] 3)).alloc (.cells #[.slice (some ⟨w.heap.size + 1 + 1 + 1 + 1 + 1, 0, none⟩) 1 1, .slice none 0 0] 26)) = allocs w (pp w.heap.size)) := hide rfl
 obtain ⟨f1, f2, f3⟩ := kE (pp w.heap.size) w
 have Ab : Hid (Ev (w.heap.size + 1) (allocs w (pp w.heap.size))) := hide ⟨f3 1 _ rfl, f3 2 _ rfl, f3 3 _ rfl, f3 4 _ rfl⟩
 have Ac : Hid (Fx (w.heap.size + 1 + 1 + 1 + 1 + 1) 3 (aq [1]) (allocs w (pp w.heap.size))) := hide (f3 5 _ rfl)
 have Ad : Hid (Fx (w.heap.size + 1 + 1 + 1 + 1 + 1 + 1) 26 [.slice (some ⟨w.heap.size + 1 + 1 + 1 + 1 + 1, 0, none⟩) 1 1, .slice none 0 0] (allocs w (pp w.heap.size))) := hide (f3 6 _ rfl)
 have Aa : Hid (Fx w.heap.size 25 [.int .i64 2, .slice (some ⟨w.heap.size + 1 + 1 + 1, 0, none⟩) 2 2, .slice (some ⟨w.heap.size + 1 + 1 + 1 + 1, 0, none⟩) 2 2, .slice (some ⟨w.heap.size + 1 + 1 + 1 + 1 + 1 + 1, 0, none⟩) 2 2] (allocs w (pp w.heap.size))) := hide (f3 0 _ rfl)
 have Ae : Hid ((allocs w (pp w.heap.size)).heap.size = w.heap.size + 7) := hide f2
 have HB := hide f1
 clear f1 f2 f3
 go_enter Tryz.func53, Tryz.ntmps53
 go_wp2_with fail
 rw [HE.out]
 clear HE
 generalize allocs w (pp w.heap.size) = W at *
 refine bodyPost_ret (results_cell_row rfl _ _ w.heap.size 25 #[.int .i64 2, .slice (some ⟨w.heap.size + 1 + 1 + 1, 0, none⟩) 2 2, .slice (some ⟨w.heap.size + 1 + 1 + 1 + 1, 0, none⟩) 2 2, .slice (some ⟨w.heap.size + 1 + 1 + 1 + 1 + 1 + 1, 0, none⟩) 2 2] _ _ rfl Aa.out Tryz.underlying25 rfl (by kernel_rfl)) rfl ?_
 have hs := Ae.out
 have h6 := Ac.out
 have h7 := Ad.out
 have hL : Lists W.heap.size W [[1], []] (.slice (some ⟨w.heap.size + 1 + 1 + 1 + 1 + 1 + 1, 0, none⟩) 2 2) := Lists.blk (l := [[1], []]) h7 h7.lt (by decide) (qu ⟨_, rfl, Ints.blk (l := [1]) h6 h6.lt (by decide)⟩ ⟨_, rfl, RR.none⟩)
 exact ⟨_, _, _, _, _, _, rfl, Ab.out.ta (N := W.heap.size) (by omega) hL, HB.out⟩
end Go.Proofs.YtmlhcncagdfjfaaGreat.De
set_option maxRecDepth 100000
set_option maxHeartbeats 12800000
namespace Go.Proofs.YtmlhcncagdfjfaaGreat.De
open Go.RowKit Fa
def nE : List StM := [⟨3, 1, 4, -1, []⟩]
theorem zP : chkM pairT [] pairT.lits.toNat (fun _ => 0) iW = (0, 2) := by kernel_rfl
theorem zL : chkM pairT [] pairT.lits.toNat (fun _ => 0) nE = (201, 0) := by kernel_rfl
theorem wG : ∀ s ∈ iW, vC s := by
 intro s hs
 simp [iW] at hs
 rcases hs with rfl | rfl
 ·exact ⟨by decide, by unfold eA; decide, by unfold eA; decide⟩
 exact ⟨by decide, by unfold eA; decide, by unfold eA; decide⟩
section
variable {X : World} {fa ra ba : Option Addr} {fc rc bc : Nat}
theorem qj (td : List (Int × Int)) (h : td = pairO) : td.length ≤ 16384 ∧ ∀ x ∈ td, ∃ (q j : Nat), x = ((q : Int), (j : Int) + 1) ∧ q < pairT.lits.toNat ∧ j < 4 := by
 subst h
 refine ⟨by decide, fun x hx => ?_⟩
 simp [pairO] at hx
 rcases hx with rfl | rfl | rfl | rfl
 ·exact ⟨0, 1, rfl, by decide, by decide⟩
 ·exact ⟨1, 1, rfl, by decide, by decide⟩
 ·exact ⟨0, 2, rfl, by decide, by decide⟩
 exact ⟨1, 3, rfl, by decide, by decide⟩
theorem ww (h : TA X.heap.size X pairT fa fc ra rc ba bc) : Calls Tryz.prog 54 #[tv pairT fa fc ra rc ba bc, .slice none 0 0, .int .i64 0, .int .i64 3] X fun e w' => (∃ va vc, e = .returned (.tuple #[.slice va 2 vc, .int .i64 0]) ∧ Gy 32 5 i5 X.heap.size iW (.slice va 2 vc) w') ∧ Below X.heap.size X w' := by
 refine (qi (Q := fun td => td = pairO) rE qj (F := []) (ea := none) (ec := 0) h RR.none gX (q := 0) (by decide) (t := 3) (.inr (.inr (.inl rfl)))).mono ?_
 rintro e w' ⟨⟨td, rfl, h5⟩, hb⟩
 have p1 := tF
 have p2 := tX
 have p3 := uB
 refine ⟨?_, hb⟩
 rcases h5 with ⟨h6, -⟩ | ⟨i, v, h6, rfl, hg⟩
 ·exfalso
  have h6' : eu (0, 3) pairO 0 = -1 := h6
  omega
 have h6' : eu (0, 3) pairO 0 = (i : Int) := h6
 obtain rfl : i = 2 := by omega
 have Aa : Gy 32 5 i5 X.heap.size iW v w' := by
  have := hg
  rw [show pairT.lits.toNat = 2 from rfl, p2] at this
  exact this
 obtain ⟨va, vc, rfl⟩ := Aa.slice
 exact ⟨va, vc, rfl, Aa⟩
theorem uY (h : TA X.heap.size X pairT fa fc ra rc ba bc) : Calls Tryz.prog 54 #[tv pairT fa fc ra rc ba bc, .slice none 0 0, .int .i64 1, .int .i64 3] X fun e w' => e = .returned (.tuple #[.slice none 0 0, .int .i64 203]) ∧ Below X.heap.size X w' := by
 refine (qi (Q := fun td => td = pairO) rE qj (F := []) (ea := none) (ec := 0) h RR.none gX (q := 1) (by decide) (t := 3) (.inr (.inr (.inl rfl)))).mono ?_
 rintro e w' ⟨⟨td, rfl, h5⟩, hb⟩
 have p1 := tF
 have p2 := tX
 have p3 := uB
 refine ⟨?_, hb⟩
 rcases h5 with ⟨-, rfl⟩ | ⟨i, v, h6, -, -⟩
 ·rfl
 exfalso
 have h6' : eu (1, 3) pairO 0 = (i : Int) := h6
 omega
theorem xp (h : TA X.heap.size X pairT fa fc ra rc ba bc) {va : Option Addr} {vc : Nat} (hl : Sts X.heap.size X iW va) : Calls Tryz.prog 23 #[tv pairT fa fc ra rc ba bc, .slice none 0 0, .slice va 2 vc] X fun e w' => e = .returned (.tuple #[.int .i64 0, .int .i64 2]) ∧ Below X.heap.size X w' := by
 have := mu (F := []) (ea := none) (ec := 0) (lc := vc) h RR.none gX hl
 rw [zP] at this
 exact this
theorem xZ (h : TA X.heap.size X pairT fa fc ra rc ba bc) {va : Option Addr} {vc : Nat} (hl : Sts X.heap.size X nE va) : Calls Tryz.prog 23 #[tv pairT fa fc ra rc ba bc, .slice none 0 0, .slice va 1 vc] X fun e w' => e = .returned (.tuple #[.int .i64 201, .int .i64 0]) ∧ Below X.heap.size X w' := by
 have := mu (F := []) (ea := none) (ec := 0) (lc := vc) h RR.none gX hl
 rw [zL] at this
 exact this
end
theorem tU (w : World) : Calls Tryz.prog 22 #[] w fun e w' => e = .returned (.bool true) ∧ Below w.heap.size w w' := by
 have CP := hide (wk w)
 have D1 := hide (fun (X : World) (fa ra ba : Option Addr) (fc rc bc : Nat) (h : TA X.heap.size X pairT fa fc ra rc ba bc) => ww h)
 have D2 := hide (fun (X : World) (fa ra ba : Option Addr) (fc rc bc : Nat) (h : TA X.heap.size X pairT fa fc ra rc ba bc) => uY h)
 have K1 := hide (fun (X : World) (fa ra ba va : Option Addr) (fc rc bc vc : Nat) (h : TA X.heap.size X pairT fa fc ra rc ba bc) (hl : Sts X.heap.size X iW va) => xp (vc := vc) h hl)
 have K2 := hide (fun (X : World) (fa ra ba va : Option Addr) (fc rc bc vc : Nat) (h : TA X.heap.size X pairT fa fc ra rc ba bc) (hl : Sts X.heap.size X nE va) => xZ (vc := vc) h hl)
 have Ay := hide (@ti)
 obtain ⟨T, hT⟩ : ∃ T, pairT = T := ⟨_, rfl⟩
 rw [hT] at CP D1 D2 K1 K2
 clear hT
 go_enter Tryz.func22, Tryz.ntmps22
 go_upto_region 2 with (go_at_call 53; refine CP.out.mono ?_; rintro _ w1 ⟨fa, fc, ra, rc, ba, bc, rfl, Ax, hb⟩; have Aw := hide Ax; have HB := hide hb; clear Ax hb CP)
 have hA := ae w1 (.cells #[.int .i64 T.lits, .slice fa T.foes.length fc, .slice ra T.rules.length rc, .slice ba T.beats.length bc] 25)
 have HX := hide (heap_alloc_new w1 (.cells #[.int .i64 T.lits, .slice fa T.foes.length fc, .slice ra T.rules.length rc, .slice ba T.beats.length bc] 25))
 have Ag := hide (TR.go hA Aw.out)
 have Ad := hide (HB.out.trans (hA.mono HB.out.size))
 clear hA Aw HB
 generalize w1.alloc (.cells #[.int .i64 T.lits, .slice fa T.foes.length fc, .slice ra T.rules.length rc, .slice ba T.beats.length bc] 25) = w2 at *
 obtain ⟨b1, As⟩ : ∃ b, w1.heap.size = b := ⟨_, rfl⟩
 rw [As] at HX ⊢
 clear As
 obtain ⟨-, c0, c1, c2, c3⟩ := Bt.of HX.out
 have CD := hide (D1.out w2 fa ra ba fc rc bc Ag.out)
 go_upto_region 3 with (go_at_call 54; refine CD.out.mono ?_; rintro _ w3 ⟨⟨va, vc, rfl, hg⟩, hb⟩; have HG := hide hg; have Ab := hide hb; clear hg hb CD)
 clear c0 c1 c2 c3
 have Aj := hide ((Ab.out.block _ (aD HX.out)).trans HX.out)
 have Ah := hide (TR.go Ab.out Ag.out)
 obtain ⟨-, c0, c1, c2, c3⟩ := Bt.of Aj.out
 have CD := hide (D2.out w3 fa ra ba fc rc bc Ah.out)
 go_upto_region 4 with (go_at_call 54; refine CD.out.mono ?_; rintro _ w4 ⟨rfl, hb⟩; have Aa := hide hb; clear hb CD)
 clear c0 c1 c2 c3
 have Am := hide ((Aa.out.block _ (aD Aj.out)).trans Aj.out)
 have Af := hide (TR.go Aa.out Ah.out)
 have Ao := hide (HG.out.keep gN (fun g _ h => Aa.out.block g h) Aa.out.size)
 obtain ⟨-, c0, c1, c2, c3⟩ := Bt.of Am.out
 have CD := hide (K1.out w4 fa ra ba va fc rc bc vc Af.out (tQ Ao.out wG))
 go_upto_region 5 with (go_at_call 23; refine CD.out.mono ?_; rintro _ w5 ⟨rfl, hb⟩; have Ac := hide hb; clear hb CD)
 clear c0 c1 c2 c3
 have Ai := hide ((Ac.out.block _ (aD Am.out)).trans Am.out)
 have An := hide (TR.go Ac.out Af.out)
 have Ar := hide (Ao.out.keep gN (fun g _ h => Ac.out.block g h) Ac.out.size)
 have Aq := hide ((((Ad.out.trans (Ab.out.mono Ad.out.size)).trans (Aa.out.mono (Nat.le_trans Ad.out.size Ab.out.size))).trans (Ac.out.mono (Nat.le_trans (Nat.le_trans Ad.out.size Ab.out.size) Aa.out.size))))
 have hA := ae w5 (.cells #[.int .i64 3, .int .i64 1, .int .i64 4, .int .i64 (-1), .slice none 0 0] 32)
 have hQ : Fx w5.heap.size 32 [.int .i64 3, .int .i64 1, .int .i64 4, .int .i64 (-1), .slice none 0 0] (w5.alloc (.cells #[.int .i64 3, .int .i64 1, .int .i64 4, .int .i64 (-1), .slice none 0 0] 32)) := heap_alloc_new w5 _
 have Au : Sts (w5.alloc (.cells #[.int .i64 3, .int .i64 1, .int .i64 4, .int .i64 (-1), .slice none 0 0] 32)).heap.size (w5.alloc (.cells #[.int .i64 3, .int .i64 1, .int .i64 4, .int .i64 (-1), .slice none 0 0] 32)) nE (some ⟨w5.heap.size, 0, none⟩) := by
  intro i s hi
  match i, hi with
  | 0, hi =>
   simp [nE] at hi
   subst hi
   exact ⟨w5.heap.size, 0, none, 0, rfl, hQ.lt, hQ.get (i := 0) rfl, hQ.get (i := 1) rfl, hQ.get (i := 2) rfl, hQ.get (i := 3) rfl, hQ.get (i := 4) rfl, by decide, fun j x hj => by simp at hj, by unfold eA; decide, by unfold eA; decide⟩
 have CD := hide (K2.out _ fa ra ba _ fc rc bc 1 (TR.go hA An.out) Au)
 have Ae := hide ((hA.block _ (aD Ai.out)).trans Ai.out)
 have At := hide (Ar.out.keep gN (fun g _ h => hA.block g h) hA.size)
 have Ap := hide (Aq.out.trans (hA.mono Aq.out.size))
 clear hA hQ Au
 obtain ⟨-, c0, c1, c2, c3⟩ := Bt.of Ai.out
 have d0 := (Bt.of Ae.out).c0
 have d1 := (Bt.of Ae.out).c1
 have d2 := (Bt.of Ae.out).c2
 have d3 := (Bt.of Ae.out).c3
 go_upto_region 6 with (go_at_call 23; refine CD.out.mono ?_; rintro _ w7 ⟨rfl, hb⟩; have Al := hide hb; clear hb CD)
 clear c0 c1 c2 c3 d0 d1 d2 d3
 have Av := hide (At.out.keep gN (fun g _ h => Al.out.block g h) Al.out.size)
 have Az := hide (Ap.out.trans (Al.out.mono Ap.out.size))
 obtain ⟨g, ca, cc, rfl, -, -, Ak, -, -, -⟩ := qO Av.out (i := 1) (s := ⟨3, 0, 2, 0, [(-1, 0)]⟩) rfl
 have c8 : w7.cell? ⟨g, 8, none⟩ = some (.int .i64 0) := Ak 3 _ rfl
 clear Ak Av At Ar Ao HG HX Aj Am Ai Ae Ag Ah Af An Ad Ab Aa Ac Ap Al Aq D1 D2 K1 K2
 have CN := hide (fun e : Int => Ay.out w7 e)
 clear Ay
 go_wp2_with (go_at_call 15; refine (CN.out _).mono ?_; rintro _ _ ⟨rfl, rfl⟩)
 go_ret
 exact ⟨rfl, Az.out⟩
end Go.Proofs.YtmlhcncagdfjfaaGreat.De
