import Derived.Test.YtmlhcncagdfjfaaGreatDrI
import Derived.Test.YtmlhcncagdfjfaaGreatDr2
import Derived.Carry
set_option maxRecDepth 100000
set_option maxHeartbeats 12800000
namespace Go.Proofs.YtmlhcncagdfjfaaGreat.De
open Go.RowKit Fa Rg Go.WideMaps Go.WideElems Go.MapKept
def fY (_ : List PanicEntry) (_ : World) : Prop := False
def cD (L : aC → List Int) (k : aC) (r : Nat) : aC → List Int := ev L k (L k ++ [(r : Int)])
def gP (r hm : Nat) (bs : List Int) (L : aC → List Int) : aC → List Int := bs.foldl (fun L s => cD L (3, s.toNat, hm) r) L
theorem jC {L : aC → List Int} {k j : aC} {r : Nat} : (cD L k r j).length ≤ (L j).length + 1 := by
 unfold cD
 by_cases e : j = k
 ·subst e; rw [updK_at]; simp
 rw [cK e]; omega
theorem tA {r hm : Nat} {bs : List Int} {s : Int} {L : aC → List Int} : gP r hm (bs ++ [s]) L = cD (gP r hm bs L) (3, s.toNat, hm) r := by unfold gP; rw [List.foldl_append]; rfl
theorem qF {r hm : Nat} {k : aC} : ∀ {bs : List Int} {L : aC → List Int}, (gP r hm bs L k).length ≤ (L k).length + bs.length
 | [], L => by simp [gP]
 | s :: bs, L => by
  have h1 := qF (r := r) (hm := hm) (k := k) (bs := bs) (L := cD L (3, s.toNat, hm) r)
  have h2 := jC (L := L) (k := (3, s.toNat, hm)) (j := k) (r := r)
  show (gP r hm bs (cD L (3, s.toNat, hm) r) k).length ≤ _
  simp only [List.length_cons]
  omega
section
variable {w : World} {base c r hm q n g0 g1 g2 mb : Nat} {fa ra ba : Option Addr} {fc rc bc : Nat} {T : Th} {L : aC → List Int} {V : aC → Value} {x : RuleM}
theorem pZ (h : Ixs base ⟨q, n, fa, fc, ra, rc, ba, bc, g0, g1, g2, mb⟩ T L V c w) (hT : TA base w T fa fc ra rc ba bc) (hb : base ≤ w.heap.size) (hr : T.rules[r]? = some x) (hh : x.head = (hm : Int)) (hm_ : hm < n) (hn : n ≤ 4096) (hrl : T.rules.length ≤ 4096)
    {bl : List Int} (hbl : T.beats[r]? = some bl) (hrow : ∀ y ∈ bl, 0 ≤ y ∧ y < (T.rules.length : Int)) (hlb : bl.length ≤ 4096) (hL : ∀ k, (L k).length ≤ 100000) (hc : c + 4096 < 1000000000) :
    Calls Tryz.prog 76 #[aa q, .int .i64 r] w fun e w' => e = .returned (.tuple #[]) ∧ ∃ V', Ixs base ⟨q, n, fa, fc, ra, rc, ba, bc, g0, g1, g2, mb⟩ T (gP r hm bl (cD L (1, hm, 0) r)) V' (c + bl.length) w' ∧ Below base w w' := by
 have b2 := h.bx.get (i := 2) (v := .slice ra T.rules.length rc) rfl
 have b5 := h.bx.get (i := 5) (v := ay g1 n) rfl
 obtain ⟨gr, go, bd, bp, rfl, Bh, -, x1, -⟩ := dG hT.rules hr
 rw [hh] at x1
 have BT : r < T.rules.length := (List.getElem?_eq_some_iff.1 hr).1
 obtain ⟨gb, ob, a2, c2, rfl, Bu, y0, -, -, AI⟩ := bH hT.beats hbl
 have BF : r < T.beats.length := (List.getElem?_eq_some_iff.1 hbl).1
 have HI := hide h
 have HB : Hid (Below base w w) := hide (Below.refl _ _)
 have As := hide hb
 have AW := hide hL
 have HC := hide hc
 have HY := hide y0
 have Bj := hide AI
 have Bi := hide hrow
 clear h hT hb hL hr hh Bh hc hbl y0 AI hrow
 go_enter Tryz.func76, Tryz.ntmps76
 go_upto_region 1 with fail
 clear x1 b2 b5
 have Ak := (Below.refl w.heap.size w).drew
 have HId := hide (HI.out.go Ak)
 have HBd := hide (HB.out.trans (Ak.mono (Nat.le_trans As.out HB.out.size)))
 obtain ⟨wd, Al⟩ : ∃ wd, w.drew = wd := ⟨_, rfl⟩
 rw [Al] at HId HBd
 obtain ⟨l0, Ae, Af, Aj, Ah, w2, w3, V3, AE, Bb, AG, Ap, Au, Aw, Bf, AO, AM⟩ := HId.out.app (Nat.le_trans As.out HBd.out.size) (d := 1) (by omega) (show hm < n from hm_) r (Nat.le_trans (AW.out _) (by omega))
 replace AG : wd.cell? ⟨g1, hm, none⟩ = some (.slice Ae l0.length Af) := AG
 replace Aw : w2.setCell ⟨g1, hm, none⟩ (.slice (some ⟨Aj, 0, none⟩) (l0.length + 1) Ah) = w3 := Aw
 have Ar := hide Ap
 have Bc := hide Aw
 have AQ := hide AO
 have AZ := hide (HBd.out.trans AM)
 have kb : ∀ {g t : Nat} {xs : List Value} {j : Nat} {v : Value}, Fx g t xs wd → t ≠ 3 → xs[j]? = some v → ∀ X, X = wd ∨ X = wd.alloc (.cells #[.int .i64 r] 3) ∨ X = w2 → X.cell? ⟨g, j, none⟩ = some v := fun hf ht hj X hX => by
  rcases hX with rfl | rfl | rfl
  ·exact hf.get hj
  ·exact ar (hf.get hj) (ae _ _)
  exact (Au _ _ _ hf ht).get hj
 have LH := hide (kb (j := 5) (v := ay g1 n) HId.out.bx (by decide) rfl)
 have Ay : Fx g1 26 (eq V 1 n) wd := HId.out.rw 1 (by omega)
 have LR := hide (kb (v := .slice Ae l0.length Af) Ay (by decide) ((gl hm_).trans (congrArg some Bb)))
 have q1 : w2.cell? ⟨g1, hm, none⟩ = some (.slice Ae l0.length Af) := LR.out w2 (.inr (.inr rfl))
 have q2 : w2.frozen? ⟨g1, hm, none⟩ = false := (Au _ _ _ Ay (by decide)).frz hm
 have Ab : Hid (fQ ([some (17, aa q), some (18, aa q), some (19, .pointer (some ⟨q, 5, none⟩)), some (20, ay g1 n), some (21, .int .i64 hm), some (22, aa q), some (23, aa q), some (24, .pointer (some ⟨q, 5, none⟩)), some (25, ay g1 n), some (26, .int .i64 hm), some (27, .pointer (some ⟨g1, hm, none⟩)), some (28, .slice Ae l0.length Af), some (29, .int .i64 r), some (30, .slice (some ⟨wd.heap.size, 0, none⟩) 1 1), some (31, .slice (some ⟨Aj, 0, none⟩) (l0.length + 1) Ah), some (32, .pointer (some ⟨g1, hm, none⟩)), none].map fun p : Option (Nat × Value) => p.map Prod.fst) [(0, aa q), (1, .int .i64 r), (4, .int .i64 hm)] = true) := hide rfl
 have Bo : Hid (fP .any (Array.mk []) = fP .any (Array.mk [])) := hide rfl
 clear Ay HI HB AO AM Ap Aw Au Bf AG AE Bb Ak kb
 refine bW fY (Jt [some (17, aa q), some (18, aa q), some (19, .pointer (some ⟨q, 5, none⟩)), some (20, ay g1 n), some (21, .int .i64 hm), some (22, aa q), some (23, aa q), some (24, .pointer (some ⟨q, 5, none⟩)), some (25, ay g1 n), some (26, .int .i64 hm), some (27, .pointer (some ⟨g1, hm, none⟩)), some (28, .slice Ae l0.length Af), some (29, .int .i64 r), some (30, .slice (some ⟨wd.heap.size, 0, none⟩) 1 1), some (31, .slice (some ⟨Aj, 0, none⟩) (l0.length + 1) Ah), some (32, .pointer (some ⟨g1, hm, none⟩)), none] [(0, aa q), (1, .int .i64 r), (4, .int .i64 hm)] (fG 13 14 16 wd (wd.alloc (.cells #[.int .i64 r] 3)) w2 w3)) (by kernel_rfl) (by kernel_rfl) ?_ (ci ⟨?_, ?_, ?_, ?_, ?_, ?_, ?_, ?_, ?_, ?_, ?_, ?_, ?_, ?_, ?_, ?_, ?_, trivial⟩) ?_ ?_
 ·exact ⟨fun p hp => by simp at hp; rcases hp with rfl | rfl | rfl <;> rfl, fun i d v _ hL => (by cases hL), Al⟩
 ·intro ρ X L hc hf hL hd Aa hJ
  have k0 : ρ (.tmp 0) = aa q := hJ.base (0, aa q) (by simp)
  refine ac (v := aa q) (w' := X) ?_ (hJ.put Ab.out rfl (by rw [ap (by decide) (by decide) (by decide)]; exact hJ.wd))
  clear hd Aa hJ hL
  go_simp
 ·intro ρ X L hc hf hL hd Aa hJ
  have Bz := hJ.vals 0 17 (aa q) rfl (hd ⟨0, .data⟩ (by simp) rfl)
  refine ac (v := aa q) (w' := X) ?_ (hJ.put Ab.out rfl (by rw [ap (by decide) (by decide) (by decide)]; exact hJ.wd))
  clear hd Aa hJ hL
  go_simp
 ·intro ρ X L hc hf hL hd Aa hJ
  have BP := hJ.vals 1 18 (aa q) rfl (hd ⟨1, .data⟩ (by simp) rfl)
  refine ac (v := .pointer (some ⟨q, 5, none⟩)) (w' := X) ?_ (hJ.put Ab.out rfl (by rw [ap (by decide) (by decide) (by decide)]; exact hJ.wd))
  clear hd Aa hJ hL
  go_simp
 ·intro ρ X L hc hf hL hd Aa hJ
  have BB := hJ.vals 2 19 (.pointer (some ⟨q, 5, none⟩)) rfl (hd ⟨2, .data⟩ (by simp) rfl)
  have Ad : L 16 = false := ak (by kernel_rfl) Aa (k := 3) (by simp) hL
  have hx := LH.out X (aZ hJ.wd Ad)
  clear Ad
  refine ac (v := ay g1 n) (w' := X) ?_ (hJ.put Ab.out rfl (by rw [ap (by decide) (by decide) (by decide)]; exact hJ.wd))
  clear hd Aa hJ hL
  go_simp
 ·intro ρ X L hc hf hL hd Aa hJ
  have k4 : ρ (.tmp 4) = .int .i64 hm := hJ.base (4, .int .i64 hm) (by simp)
  refine ac (v := .int .i64 hm) (w' := X) ?_ (hJ.put Ab.out rfl (by rw [ap (by decide) (by decide) (by decide)]; exact hJ.wd))
  clear hd Aa hJ hL
  go_simp
 ·intro ρ X L hc hf hL hd Aa hJ
  have k0 : ρ (.tmp 0) = aa q := hJ.base (0, aa q) (by simp)
  refine ac (v := aa q) (w' := X) ?_ (hJ.put Ab.out rfl (by rw [ap (by decide) (by decide) (by decide)]; exact hJ.wd))
  clear hd Aa hJ hL
  go_simp
 ·intro ρ X L hc hf hL hd Aa hJ
  have BM := hJ.vals 5 22 (aa q) rfl (hd ⟨5, .data⟩ (by simp) rfl)
  refine ac (v := aa q) (w' := X) ?_ (hJ.put Ab.out rfl (by rw [ap (by decide) (by decide) (by decide)]; exact hJ.wd))
  clear hd Aa hJ hL
  go_simp
 ·intro ρ X L hc hf hL hd Aa hJ
  have BJ := hJ.vals 6 23 (aa q) rfl (hd ⟨6, .data⟩ (by simp) rfl)
  refine ac (v := .pointer (some ⟨q, 5, none⟩)) (w' := X) ?_ (hJ.put Ab.out rfl (by rw [ap (by decide) (by decide) (by decide)]; exact hJ.wd))
  clear hd Aa hJ hL
  go_simp
 ·intro ρ X L hc hf hL hd Aa hJ
  have BQ := hJ.vals 7 24 (.pointer (some ⟨q, 5, none⟩)) rfl (hd ⟨7, .data⟩ (by simp) rfl)
  have Ad : L 16 = false := ak (by kernel_rfl) Aa (k := 8) (by simp) hL
  have hx := LH.out X (aZ hJ.wd Ad)
  clear Ad
  refine ac (v := ay g1 n) (w' := X) ?_ (hJ.put Ab.out rfl (by rw [ap (by decide) (by decide) (by decide)]; exact hJ.wd))
  clear hd Aa hJ hL
  go_simp
 ·intro ρ X L hc hf hL hd Aa hJ
  have k4 : ρ (.tmp 4) = .int .i64 hm := hJ.base (4, .int .i64 hm) (by simp)
  refine ac (v := .int .i64 hm) (w' := X) ?_ (hJ.put Ab.out rfl (by rw [ap (by decide) (by decide) (by decide)]; exact hJ.wd))
  clear hd Aa hJ hL
  go_simp
 ·intro ρ X L hc hf hL hd Aa hJ
  have BD := hJ.vals 8 25 (ay g1 n) rfl (hd ⟨8, .data⟩ (by simp) rfl)
  have BG := hJ.vals 9 26 (.int .i64 hm) rfl (hd ⟨9, .data⟩ (by simp) rfl)
  refine ac (v := .pointer (some ⟨g1, hm, none⟩)) (w' := X) ?_ (hJ.put Ab.out rfl (by rw [ap (by decide) (by decide) (by decide)]; exact hJ.wd))
  clear hd Aa hJ hL
  go_simp
 ·intro ρ X L hc hf hL hd Aa hJ
  have BK := hJ.vals 10 27 (.pointer (some ⟨g1, hm, none⟩)) rfl (hd ⟨10, .data⟩ (by simp) rfl)
  have Ad : L 16 = false := ak (by kernel_rfl) Aa (k := 11) (by simp) hL
  have hx := LR.out X (aZ hJ.wd Ad)
  clear Ad
  refine ac (v := .slice Ae l0.length Af) (w' := X) ?_ (hJ.put Ab.out rfl (by rw [ap (by decide) (by decide) (by decide)]; exact hJ.wd))
  clear hd Aa hJ hL
  go_simp
 ·intro ρ X L hc hf hL hd Aa hJ
  have k1 : ρ (.tmp 1) = .int .i64 r := hJ.base (1, .int .i64 r) (by simp)
  refine ac (v := .int .i64 r) (w' := X) ?_ (hJ.put Ab.out rfl (by rw [ap (by decide) (by decide) (by decide)]; exact hJ.wd))
  clear hd Aa hJ hL
  go_simp
 ·intro ρ X L hc hf hL hd Aa hJ
  have Bw := hJ.vals 12 29 (.int .i64 r) rfl (hd ⟨12, .data⟩ (by simp) rfl)
  have Ag : L 14 = false := by cases e : L 14 with | false => rfl | true => (have := Aa 14 _ rfl e ⟨13, .data⟩ (by simp) rfl; rw [show (⟨13, .data⟩ : Edge).on = 13 from rfl] at this; rw [hL] at this; cases this)
  have Ad : L 16 = false := ak (by kernel_rfl) Aa (k := 13) (by simp) hL
  have hX := hJ.wd.trans (jV hL Ag Ad)
  refine ac (v := .slice (some ⟨wd.heap.size, 0, none⟩) 1 1) (w' := wd.alloc (.cells #[.int .i64 r] 3)) ?_ (hJ.put Ab.out rfl ((eD aF (by rw [al (by decide)]; exact Ag) (by rw [al (by decide)]; exact Ad)).symm))
  subst hX
  clear hd Aa hJ hL Ag Ad
  go_simp
 ·intro ρ X L hc hf hL hd Aa hJ
  have Bq := hJ.vals 11 28 (.slice Ae l0.length Af) rfl (hd ⟨11, .data⟩ (by simp) rfl)
  have Bt := hJ.vals 13 30 (.slice (some ⟨wd.heap.size, 0, none⟩) 1 1) rfl (hd ⟨13, .data⟩ (by simp) rfl)
  have AF : L 13 = true := hd ⟨13, .data⟩ (by simp) rfl
  have Ad : L 16 = false := ak (by kernel_rfl) Aa (k := 14) (by simp) hL
  have hX := hJ.wd.trans (eD AF hL Ad)
  refine eM _ _ 26 rfl Bq Bt (u := .slice (some ⟨Aj, 0, none⟩) (l0.length + 1) Ah) (w' := w2) (by rw [hX]; exact Ar.out) (hJ.put Ab.out rfl ((eF aF (by rw [al (by decide)]; exact Ad)).symm))
 ·intro ρ X L hc hf hL hd Aa hJ
  have BE := hJ.vals 3 20 (ay g1 n) rfl (hd ⟨3, .data⟩ (by simp) rfl)
  have BS := hJ.vals 4 21 (.int .i64 hm) rfl (hd ⟨4, .data⟩ (by simp) rfl)
  refine ac (v := .pointer (some ⟨g1, hm, none⟩)) (w' := X) ?_ (hJ.put Ab.out rfl (by rw [ap (by decide) (by decide) (by decide)]; exact hJ.wd))
  clear hd Aa hJ hL
  go_simp
 ·intro ρ X L hc hf hL hd Aa hJ
  have BO := hJ.vals 15 32 (.pointer (some ⟨g1, hm, none⟩)) rfl (hd ⟨15, .data⟩ (by simp) rfl)
  have BI := hJ.vals 14 31 (.slice (some ⟨Aj, 0, none⟩) (l0.length + 1) Ah) rfl (hd ⟨14, .data⟩ (by simp) rfl)
  have Ag : L 14 = true := hd ⟨14, .data⟩ (by simp) rfl
  have hX := hJ.wd.trans (eF Ag hL)
  refine bY (w' := w3) ?_ (hJ.last rfl ((eC aF).symm))
  subst hX
  clear hd Aa hJ hL Ag
  rw [← Bc.out]
  go_simp
 ·intro c a' w' _ hE
  exact hE.elim
 rintro ⟨Ac, df⟩ w' Ao At ⟨Lq, Aq, hJ⟩ An
 simp only at At Ao
 subst At
 have AB : w3 = w' := (hJ.wd.trans (eC (Aq 16 (by decide)))).symm
 subst AB
 have Am := dA 17 32 (by kernel_rfl) Ao An
 simp only [zr, Nat.reduceLT, Nat.reduceAdd, true_or, or_true, or_self, if_true, if_false] at Am
 rw [Am]
 clear Am hJ Aq An Ao Ab Bo Ar Bc LH LR q1 q2 Al HBd HId
 generalize Ac.getD 17 undef = x17
 generalize Ac.getD 18 undef = x18
 generalize Ac.getD 19 undef = x19
 generalize Ac.getD 20 undef = x20
 generalize Ac.getD 21 undef = x21
 generalize Ac.getD 22 undef = x22
 generalize Ac.getD 23 undef = x23
 generalize Ac.getD 24 undef = x24
 generalize Ac.getD 25 undef = x25
 generalize Ac.getD 26 undef = x26
 generalize Ac.getD 27 undef = x27
 generalize Ac.getD 28 undef = x28
 generalize Ac.getD 29 undef = x29
 generalize Ac.getD 30 undef = x30
 generalize Ac.getD 31 undef = x31
 generalize Ac.getD 32 undef = x32
 have HIs := hide AQ.out
 have HBs := hide AZ.out
 clear AQ AZ
 have b3 := HIs.out.bx.get (i := 3) (v := .slice (some ⟨gb, ob, none⟩) T.beats.length bc) rfl
 have y0 : w3.cell? ⟨gb, ob + r, none⟩ = some (.slice a2 bl.length c2) := (World.cell?_of_block (HBs.out.block gb Bu)).trans HY.out
 have AP : Hid (∀ k, (cD L (1, hm, 0) r k).length ≤ 100001) := hide fun k => Nat.le_trans jC (Nat.succ_le_succ (AW.out k))
 have HIs : Hid (Ixs base ⟨q, n, fa, fc, some ⟨gr, go, none⟩, rc, some ⟨gb, ob, none⟩, bc, g0, g1, g2, mb⟩ T (cD L (1, hm, 0) r) V3 c w3) := HIs
 obtain ⟨L1, AA⟩ : ∃ L1, cD L (1, hm, 0) r = L1 := ⟨_, rfl⟩
 rw [AA] at AP HIs
 have Bm := hide AA
 clear AA
 go_upto_region 3 with fail
 clear b3 y0
 go_loopw [42] (fun xv wr => ∃ (j : Nat) (V' : aC → Value), j ≤ bl.length ∧ xv = .int .i64 j ∧ Hid (Ixs base ⟨q, n, fa, fc, some ⟨gr, go, none⟩, rc, some ⟨gb, ob, none⟩, bc, g0, g1, g2, mb⟩ T (gP r hm (bl.take j) L1) V' (c + j) wr) ∧ Hid (Below base w wr)) (fun x _ => bl.length - (intOf x).toNat)
 case atStart => exact ⟨0, V3, by omega, rfl, HIs, HBs⟩
 clear HIs HBs
 obtain ⟨j, V', hj, rfl, HI, HB⟩ := hrel
 by_cases hlt : j < bl.length
 ·obtain ⟨s, hs⟩ := am hlt
  have BC := Bi.out s (List.mem_of_getElem? hs)
  obtain ⟨sn, rfl⟩ : ∃ sn : Nat, s = (sn : Int) := ⟨s.toNat, by omega⟩
  obtain ⟨g5, o5, rfl, BA, y5⟩ := ji (Bj.out.keep HB.out.block) hs
  have AH := ae wr (.cells #[.int .i64 sn, .int .i64 hm] 85)
  have HIq := hide (HI.out.go AH)
  have HBq := hide (HB.out.trans (AH.mono (Nat.le_trans As.out HB.out.size)))
  have HQ : Hid (Fx wr.heap.size 85 [.int .i64 sn, .int .i64 hm] (wr.alloc (.cells #[.int .i64 sn, .int .i64 hm] 85))) := hide (heap_alloc_new wr _)
  clear HI HB AH
  go_upto_region 6 with fail
  clear y5
  generalize wr.alloc (.cells #[.int .i64 sn, .int .i64 hm] 85) = wq at *
  obtain ⟨p, hp⟩ : ∃ p, wr.heap.size = p := ⟨_, rfl⟩
  rw [hp] at HQ ⊢
  clear hp
  have Ak := (Below.refl wq.heap.size wq).drew
  have HId := hide (HIq.out.go Ak)
  have HBd := hide (HBq.out.trans (Ak.mono (Nat.le_trans As.out HBq.out.size)))
  have HQd := hide (HQ.out.keep (Ak.block _ HQ.out.lt))
  obtain ⟨wd, Al⟩ : ∃ wd, wq.drew = wd := ⟨_, rfl⟩
  rw [Al] at HId HBd HQd
  obtain ⟨l0, Ae, Af, st, Aj, Ah, wm, Az, w3, w4, V4, AE, AR, AD, Av, AV, Ap, Bd, AN, AL⟩ := HId.out.appE (Nat.le_trans As.out HBd.out.size) (s := sn) (q := hm) (by omega) (by omega) (by have := HC.out; omega) r (by have := qF (r := r) (hm := hm) (k := (3, sn, hm)) (bs := bl.take j) (L := L1); have := AP.out (3, sn, hm); rw [List.length_take] at *; omega)
  obtain ⟨wb, Ax⟩ : ∃ wb, wd.alloc (.cells #[.int .i64 r] 3) = wb := ⟨_, rfl⟩
  rw [Ax] at AD
  obtain ⟨zz, AC⟩ : ∃ zz, wd.heap.size = zz := ⟨_, rfl⟩
  rw [AC] at Av Ap
  have Ar := hide Ap
  have AK := hide AR
  have AX := hide AD
  have AT : Hid ((Instr.entryStore 116 (.map (some mb)) (.int .i64 st) (.slice (some ⟨Aj, 0, none⟩) (l0.length + 1) Ah)).run Tryz.prog w3 = .ok () w4) := hide Bd
  have Ba := hide AV
  have AU := hide Ax
  have AJ := hide AC
  have AS := hide Av
  have Bn := hide AN
  have Bg := hide (HBd.out.trans AL)
  have kb : ∀ {g t : Nat} {xs : List Value} {j : Nat} {v : Value}, Fx g t xs wd → xs[j]? = some v → ∀ X, X = wd ∨ X = wb → X.cell? ⟨g, j, none⟩ = some v := fun hf hj X hX => by
   rcases hX with rfl | rfl
   ·exact hf.get hj
   rw [← Ax]; exact ar (hf.get hj) (ae _ _)
  have LQ := hide (kb (j := 7) (v := .map (some mb)) HId.out.bx rfl)
  have AY := hide (kb (j := 0) (v := .int .i64 sn) HQd.out rfl)
  have Be := hide (kb (j := 1) (v := .int .i64 hm) HQd.out rfl)
  have Ab : Hid (fQ ([some (49, aa q), some (50, aa q), some (51, .pointer (some ⟨q, 7, none⟩)), some (52, .map (some mb)), some (53, pk sn hm), some (55, .int .i64 r), some (56, .slice (some ⟨zz, 0, none⟩) 1 1), some (57, .tuple #[.slice Ae l0.length Af, goInt st]), some (54, .slice Ae l0.length Af), some (58, .slice (some ⟨Aj, 0, none⟩) (l0.length + 1) Ah), some (59, goInt st), none].map fun p : Option (Nat × Value) => p.map Prod.fst) [(0, aa q), (1, .int .i64 r), (7, aa p)] = true) := hide rfl
  clear HIq HBq HQ HQd HId HBd AN AL Ap AR AD Bd AV Ax AC Av AE Ak kb
  refine bW fY (Jt [some (49, aa q), some (50, aa q), some (51, .pointer (some ⟨q, 7, none⟩)), some (52, .map (some mb)), some (53, pk sn hm), some (55, .int .i64 r), some (56, .slice (some ⟨zz, 0, none⟩) 1 1), some (57, .tuple #[.slice Ae l0.length Af, goInt st]), some (54, .slice Ae l0.length Af), some (58, .slice (some ⟨Aj, 0, none⟩) (l0.length + 1) Ah), some (59, goInt st), none] [(0, aa q), (1, .int .i64 r), (7, aa p)] (gR 6 7 9 11 wd wb wm Az w3 w4)) (by kernel_rfl) (by kernel_rfl) ?_ (ci ⟨?_, ?_, ?_, ?_, ?_, ?_, ?_, ?_, ?_, ?_, ?_, ?_, trivial⟩) ?_ ?_
  ·exact ⟨fun p hp => by simp at hp; rcases hp with rfl | rfl | rfl <;> rfl, fun i d v _ hL => (by cases hL), Al⟩
  ·intro ρ X L hc hf hL hd Aa hJ
   have k0 : ρ (.tmp 0) = aa q := hJ.base (0, aa q) (by simp)
   refine ac (v := aa q) (w' := X) ?_ (hJ.put Ab.out rfl (by rw [fF (by decide) (by decide) (by decide) (by decide)]; exact hJ.wd))
   clear hd Aa hJ hL
   go_simp
  ·intro ρ X L hc hf hL hd Aa hJ
   have BN := hJ.vals 0 49 (aa q) rfl (hd ⟨0, .data⟩ (by simp) rfl)
   refine ac (v := aa q) (w' := X) ?_ (hJ.put Ab.out rfl (by rw [fF (by decide) (by decide) (by decide) (by decide)]; exact hJ.wd))
   clear hd Aa hJ hL
   go_simp
  ·intro ρ X L hc hf hL hd Aa hJ
   have BL := hJ.vals 1 50 (aa q) rfl (hd ⟨1, .data⟩ (by simp) rfl)
   refine ac (v := .pointer (some ⟨q, 7, none⟩)) (w' := X) ?_ (hJ.put Ab.out rfl (by rw [fF (by decide) (by decide) (by decide) (by decide)]; exact hJ.wd))
   clear hd Aa hJ hL
   go_simp
  ·intro ρ X L hc hf hL hd Aa hJ
   have Bx := hJ.vals 2 51 (.pointer (some ⟨q, 7, none⟩)) rfl (hd ⟨2, .data⟩ (by simp) rfl)
   have Ai : L 7 = false := by cases e : L 7 with | false => rfl | true => (have := Aa 7 _ rfl e ⟨3, .data⟩ (by simp) rfl; rw [show (⟨3, .data⟩ : Edge).on = 3 from rfl] at this; rw [hL] at this; cases this)
   have hX : X = wd ∨ X = wb := by rw [hJ.wd]; cases e : L 6 with | false => exact .inl (pI Ai e) | true => exact .inr (pG Ai e)
   have hx := LQ.out X hX
   clear hX Ai
   refine ac (v := .map (some mb)) (w' := X) ?_ (hJ.put Ab.out rfl (by rw [fF (by decide) (by decide) (by decide) (by decide)]; exact hJ.wd))
   clear hd Aa hJ hL
   go_simp
  ·intro ρ X L hc hf hL hd Aa hJ
   have k7 : ρ (.tmp 7) = aa p := hJ.base (7, aa p) (by simp)
   have Ai : L 7 = false := by cases e : L 7 with | false => rfl | true => (have := Aa 7 _ rfl e ⟨4, .data⟩ (by simp) rfl; rw [show (⟨4, .data⟩ : Edge).on = 4 from rfl] at this; rw [hL] at this; cases this)
   have hX : X = wd ∨ X = wb := by rw [hJ.wd]; cases e : L 6 with | false => exact .inl (pI Ai e) | true => exact .inr (pG Ai e)
   have hx := AY.out X hX
   have hy := Be.out X hX
   clear hX Ai
   refine ac (v := pk sn hm) (w' := X) ?_ (hJ.put Ab.out rfl (by rw [fF (by decide) (by decide) (by decide) (by decide)]; exact hJ.wd))
   clear hd Aa hJ hL
   go_simp
  ·intro ρ X L hc hf hL hd Aa hJ
   have k1 : ρ (.tmp 1) = .int .i64 r := hJ.base (1, .int .i64 r) (by simp)
   refine ac (v := .int .i64 r) (w' := X) ?_ (hJ.put Ab.out rfl (by rw [fF (by decide) (by decide) (by decide) (by decide)]; exact hJ.wd))
   clear hd Aa hJ hL
   go_simp
  ·intro ρ X L hc hf hL hd Aa hJ
   have By := hJ.vals 5 55 (.int .i64 r) rfl (hd ⟨5, .data⟩ (by simp) rfl)
   have Ag : L 9 = false := by cases e : L 9 with | false => rfl | true => (have := Aa 9 _ rfl e ⟨6, .data⟩ (by simp) rfl; rw [show (⟨6, .data⟩ : Edge).on = 6 from rfl] at this; rw [hL] at this; cases this)
   have Ad : L 11 = false := ak (by kernel_rfl) Aa (k := 6) (by simp) hL
   cases e : L 7 with
   | true =>
    have hX := hJ.wd.trans (xf e hL Ag Ad)
    refine ac (v := .slice (some ⟨zz, 0, none⟩) 1 1) (w' := Az) ?_ (hJ.put Ab.out rfl ((qG (by rw [al (by decide)]; exact e) aF (by rw [al (by decide)]; exact Ag) (by rw [al (by decide)]; exact Ad)).symm))
    subst hX
    clear hd Aa hJ hL Ag Ad
    rw [← Ba.out, ← AS.out]
    go_simp
   | false =>
    have hX := hJ.wd.trans (pI e hL)
    refine ac (v := .slice (some ⟨zz, 0, none⟩) 1 1) (w' := wb) ?_ (hJ.put Ab.out rfl ((pG (by rw [al (by decide)]; exact e) aF).symm))
    subst hX
    clear hd Aa hJ hL Ag Ad
    rw [← AU.out, ← AJ.out]
    go_simp
  ·intro ρ X L hc hf hL hd Aa hJ
   have Bk := hJ.vals 3 52 (.map (some mb)) rfl (hd ⟨3, .data⟩ (by simp) rfl)
   have BR := hJ.vals 4 53 (pk sn hm) rfl (hd ⟨4, .data⟩ (by simp) rfl)
   have Ag : L 9 = false := by cases e : L 9 with | false => rfl | true => (have h8 := Aa 9 _ rfl e ⟨8, .data⟩ (by simp) rfl; have := Aa 8 _ rfl h8 ⟨7, .data⟩ (by simp) rfl; rw [show (⟨7, .data⟩ : Edge).on = 7 from rfl] at this; rw [hL] at this; cases this)
   have Ad : L 11 = false := ak (by kernel_rfl) Aa (k := 7) (by simp) hL
   cases e : L 6 with
   | true =>
    have hX := hJ.wd.trans (pG hL e)
    have hE := AX.out
    refine ac (v := .tuple #[.slice Ae l0.length Af, goInt st]) (w' := Az) ?_ (hJ.put Ab.out rfl ((qG aF (by rw [al (by decide)]; exact e) (by rw [al (by decide)]; exact Ag) (by rw [al (by decide)]; exact Ad)).symm))
    subst hX
    clear hd Aa hJ hL Ag Ad
    go_simp
   | false =>
    have hX := hJ.wd.trans (pI hL e)
    have hE := AK.out
    refine ac (v := .tuple #[.slice Ae l0.length Af, goInt st]) (w' := wm) ?_ (hJ.put Ab.out rfl ((xf aF (by rw [al (by decide)]; exact e) (by rw [al (by decide)]; exact Ag) (by rw [al (by decide)]; exact Ad)).symm))
    subst hX
    clear hd Aa hJ hL Ag Ad
    go_simp
  ·intro ρ X L hc hf hL hd Aa hJ
   have Br := hJ.vals 7 57 (.tuple #[.slice Ae l0.length Af, goInt st]) rfl (hd ⟨7, .data⟩ (by simp) rfl)
   refine ac (v := .slice Ae l0.length Af) (w' := X) ?_ (hJ.put Ab.out rfl (by rw [fF (by decide) (by decide) (by decide) (by decide)]; exact hJ.wd))
   clear hd Aa hJ hL
   go_simp
  ·intro ρ X L hc hf hL hd Aa hJ
   have Bl := hJ.vals 8 54 (.slice Ae l0.length Af) rfl (hd ⟨8, .data⟩ (by simp) rfl)
   have Bs := hJ.vals 6 56 (.slice (some ⟨zz, 0, none⟩) 1 1) rfl (hd ⟨6, .data⟩ (by simp) rfl)
   have AF : L 6 = true := hd ⟨6, .data⟩ (by simp) rfl
   have Ai : L 7 = true := Aa 8 _ rfl (hd ⟨8, .data⟩ (by simp) rfl) ⟨7, .data⟩ (by simp) rfl
   have Ad : L 11 = false := ak (by kernel_rfl) Aa (k := 9) (by simp) hL
   have hX := hJ.wd.trans (qG Ai AF hL Ad)
   refine eM _ _ 26 rfl Bl Bs (u := .slice (some ⟨Aj, 0, none⟩) (l0.length + 1) Ah) (w' := w3) (by rw [hX]; exact Ar.out) (hJ.put Ab.out rfl ((wP (by rw [al (by decide)]; exact Ai) aF (by rw [al (by decide)]; exact Ad)).symm))
  ·intro ρ X L hc hf hL hd Aa hJ
   have Br := hJ.vals 7 57 (.tuple #[.slice Ae l0.length Af, goInt st]) rfl (hd ⟨7, .data⟩ (by simp) rfl)
   refine ac (v := goInt st) (w' := X) ?_ (hJ.put Ab.out rfl (by rw [fF (by decide) (by decide) (by decide) (by decide)]; exact hJ.wd))
   clear hd Aa hJ hL
   go_simp
  ·intro ρ X L hc hf hL hd Aa hJ
   have Bk := hJ.vals 3 52 (.map (some mb)) rfl (hd ⟨3, .data⟩ (by simp) rfl)
   have Bv := hJ.vals 10 59 (goInt st) rfl (hd ⟨10, .data⟩ (by simp) rfl)
   have BH := hJ.vals 9 58 (.slice (some ⟨Aj, 0, none⟩) (l0.length + 1) Ah) rfl (hd ⟨9, .data⟩ (by simp) rfl)
   have Ag : L 9 = true := hd ⟨9, .data⟩ (by simp) rfl
   have Ai : L 7 = true := Aa 8 _ rfl (Aa 9 _ rfl Ag ⟨8, .data⟩ (by simp) rfl) ⟨7, .data⟩ (by simp) rfl
   have hX := hJ.wd.trans (wP Ai Ag hL)
   have hE := AT.out
   refine bY (w' := w4) ?_ (hJ.last rfl ((wN (by rw [al (by decide)]; exact Ai) aF).symm))
   subst hX
   clear hd Aa hJ hL Ag Ai
   go_simp
  ·intro c a' w' _ hE
   exact hE.elim
  rintro ⟨Ac, df⟩ w' Ao At ⟨Lq, Aq, hJ⟩ An
  simp only at At Ao
  subst At
  have AB : w4 = w' := (hJ.wd.trans (wN (Aq 7 (by decide)) (Aq 11 (by decide)))).symm
  subst AB
  have Am := dA 49 59 (by kernel_rfl) Ao An
  simp only [zr, Nat.reduceLT, Nat.reduceAdd, true_or, or_true, or_self, if_true, if_false] at Am
  rw [Am]
  clear Am hJ Aq An Ao Ab Ar AK AX AT Ba AU AJ AS LQ AY Be Al
  generalize Ac.getD 49 undef = x49
  generalize Ac.getD 50 undef = x50
  generalize Ac.getD 51 undef = x51
  generalize Ac.getD 52 undef = x52
  generalize Ac.getD 53 undef = x53
  generalize Ac.getD 54 undef = x54
  generalize Ac.getD 55 undef = x55
  generalize Ac.getD 56 undef = x56
  generalize Ac.getD 57 undef = x57
  generalize Ac.getD 58 undef = x58
  generalize Ac.getD 59 undef = x59
  go_wp2_with fail
  go_roundw
  case rel => exact ⟨j + 1, V4, by omega, by go_num, hide (by rw [bD hs, tA, Int.toNat_natCast]; exact Bn.out), Bg⟩
  case measure => simp [intOf]; omega
 have Bp : j = bl.length := by omega
 have HI : Hid (Ixs base ⟨q, n, fa, fc, some ⟨gr, go, none⟩, rc, some ⟨gb, ob, none⟩, bc, g0, g1, g2, mb⟩ T (gP r hm bl L1) V' (c + bl.length) wr) := hide (by have := HI.out; rw [Bp, List.take_length] at this; exact this)
 go_wp2_with fail
 go_end0
 rw [Bm.out]
 exact ⟨rfl, V', HI.out, HB.out⟩
end
end Go.Proofs.YtmlhcncagdfjfaaGreat.De
namespace Go.Proofs.YtmlhcncagdfjfaaGreat.De
open Go.RowKit Fa
def gD (r : Nat) (ks : List aC) (L : aC → List Int) : aC → List Int := ks.foldl (fun L k => cD L k r) L
theorem gy {r : Nat} {k : aC} : ∀ {ks : List aC} {L : aC → List Int}, ks.Nodup → gD r ks L k = if k ∈ ks then L k ++ [(r : Int)] else L k
 | [], L, _ => by simp [gD]
 | a :: ks, L, h => by
  have hn := List.nodup_cons.1 h
  show gD r ks (cD L a r) k = _
  rw [gy hn.2]
  by_cases e : k = a
  ·subst e
   rw [if_neg hn.1, if_pos (List.mem_cons_self ..)]
   unfold cD
   rw [updK_at]
  have : cD L a r k = L k := cK e
  rw [this]
  by_cases e2 : k ∈ ks
  ·rw [if_pos e2, if_pos (List.mem_cons_of_mem _ e2)]
  rw [if_neg e2, if_neg (by simp [e, e2])]
theorem pd {r hm : Nat} : ∀ {bs : List Int} {L : aC → List Int}, gP r hm bs L = gD r (bs.map fun s => (3, s.toNat, hm)) L
 | [], L => rfl
 | s :: bs, L => by
  show gP r hm bs (cD L (3, s.toNat, hm) r) = _
  rw [pd]; rfl
def lR (r : Nat) (fs : List Int) (L : aC → List Int) : aC → List Int := fs.foldl (fun L f => cD L (2, f.toNat, 0) r) L
theorem vb {r : Nat} {fs : List Int} {f : Int} {L : aC → List Int} : lR r (fs ++ [f]) L = cD (lR r fs L) (2, f.toNat, 0) r := by unfold lR; rw [List.foldl_append]; rfl
theorem ki {r : Nat} : ∀ {fs : List Int} {L : aC → List Int}, lR r fs L = gD r (fs.map fun f => (2, f.toNat, 0)) L
 | [], L => rfl
 | s :: bs, L => by
  show lR r bs (cD L (2, s.toNat, 0) r) = _
  rw [ki]; rfl
theorem kU {r : Nat} {k : aC} : ∀ {ks : List aC} {L : aC → List Int}, (gD r ks L k).length ≤ (L k).length + ks.length
 | [], L => by simp [gD]
 | a :: ks, L => by
  have h1 := kU (r := r) (k := k) (ks := ks) (L := cD L a r)
  have h2 := jC (L := L) (k := a) (j := k) (r := r)
  show (gD r ks (cD L a r) k).length ≤ _
  simp only [List.length_cons]
  omega
def GL (T : Th) (n k : Nat) : aC → List Int := fun κ =>
 if κ.1 = 0 then (if κ.2.2 = 0 ∧ κ.2.1 < n then bh T kS k κ.2.1 else []) else if κ.1 = 1 then (if κ.2.2 = 0 ∧ κ.2.1 < n then bh T kT k κ.2.1 else [])
 else if κ.1 = 2 then (if κ.2.2 = 0 ∧ κ.2.1 < n then gd T k κ.2.1 else []) else if κ.1 = 3 then (if κ.2.2 < n then eX T k κ.2.2 κ.2.1 else []) else []
theorem sf {L : aC → List Int} {a : aC} {r : Nat} : cD L a r a = L a ++ [(r : Int)] := updK_at
theorem ig {L : aC → List Int} {a k : aC} {r : Nat} (h : k ≠ a) : cD L a r k = L k := cK h
theorem qn {T : Th} {n k : Nat} (κ : aC) : (GL T n k κ).length ≤ k := by
 unfold GL
 have f : ∀ p z, (bh T p k z).length ≤ k := fun p z => bg
 split
 ·split
  ·exact f _ _
  simp
 split
 ·split
  ·exact f _ _
  simp
 split
 ·split
  ·exact g8
  simp
 split
 ·split
  ·unfold eX
   exact Nat.le_trans (List.length_filter_le _ _) (f _ _)
  simp
 simp
theorem xK {T : Th} {n : Nat} : GL T n 0 = fun _ => [] := by
 funext κ
 have := qn (T := T) (n := n) (k := 0) κ
 exact List.eq_nil_of_length_eq_zero (by omega)
theorem ph {g : Nat → aC} (hg : ∀ a b, g a = g b → a = b) {l : List Int} (hn : l.Nodup) (h0 : ∀ x ∈ l, 0 ≤ x) : (l.map fun s => g s.toNat).Nodup := by
 rw [List.nodup_iff_pairwise_ne] at hn ⊢
 rw [List.pairwise_map]
 refine hn.imp_of_mem fun ha hb hne e => hne ?_
 have := hg _ _ e
 have h1 := h0 _ ha
 have h2 := h0 _ hb
 omega
theorem rZ {g : Nat → aC} (hg : ∀ a b, g a = g b → a = b) {l : List Int} (h0 : ∀ x ∈ l, 0 ≤ x) (i : Nat) : g i ∈ l.map (fun s => g s.toNat) ↔ (i : Int) ∈ l := by
 rw [List.mem_map]
 constructor
 ·rintro ⟨s, hs, e⟩
  have := hg _ _ e
  have h1 := h0 _ hs
  have : s = (i : Int) := by omega
  rw [← this]; exact hs
 intro h
 exact ⟨i, h, by simp⟩
def mZ (k hm : Nat) (x : RuleM) (fs bl : List Int) (L : aC → List Int) : aC → List Int :=
 let L1 := lR k fs L
 let L2 := if x.kind = 1 then cD L1 (0, hm, 0) k else L1
 if x.kind = 3 then L2 else gP k hm bl (cD L2 (1, hm, 0) k)
theorem xY {T : Th} {n k hm : Nat} {x : RuleM} (hr : T.rules[k]? = some x) (hh : x.head = (hm : Int)) (hm_ : hm < n) (hf0 : ∀ y ∈ row T.foes hm, 0 ≤ y ∧ y < (n : Int)) (hfn : (row T.foes hm).Nodup) (hb0 : ∀ y ∈ row T.beats k, 0 ≤ y) (hbn : (row T.beats k).Nodup) :
    mZ k hm x (row T.foes hm) (row T.beats k) (GL T n k) = GL T n (k + 1) := by
 have ka : (((row T.foes hm).map fun f => ((2, f.toNat, 0) : aC))).Nodup := ph (g := fun i => (2, i, 0)) (fun a b e => by simpa using e) hfn fun y hy => (hf0 y hy).1
 have kb : (((row T.beats k).map fun s => ((3, s.toNat, hm) : aC))).Nodup := ph (g := fun i => (3, i, hm)) (fun a b e => by simpa using e) hbn hb0
 have mf : ∀ p z, bK T p z k = (p x && decide (x.head = z)) := fun p z => by unfold bK; rw [hr]
 have ma : ∀ z, lX T z k = decide (z ∈ row T.foes hm) := fun z => by unfold lX; rw [hr, ← hh]
 funext ⟨d, i, j⟩
 unfold mZ
 simp only [pd, ki]
 generalize hA : ((row T.foes hm).map fun f => ((2, f.toNat, 0) : aC)) = ks at ka
 generalize hC : ((row T.beats k).map fun s => ((3, s.toNat, hm) : aC)) = cs at kb
 have nA : ∀ d' i' j', d' ≠ 2 → (d', i', j') ∉ ks := fun d' i' j' hd hm => by rw [← hA, List.mem_map] at hm; obtain ⟨y, -, e⟩ := hm; simp only [Prod.mk.injEq] at e; exact hd e.1.symm
 have nC : ∀ d' i' j', d' ≠ 3 → (d', i', j') ∉ cs := fun d' i' j' hd hm => by rw [← hC, List.mem_map] at hm; obtain ⟨y, -, e⟩ := hm; simp only [Prod.mk.injEq] at e; exact hd e.1.symm
 have Ad : ∀ L2 : aC → List Int, d ≠ 1 → d ≠ 3 → (if x.kind = 3 then L2 else gD k cs (cD L2 (1, hm, 0) k)) (d, i, j) = L2 (d, i, j) := fun L2 h1 h3 => by
  split
  ·rfl
  rw [gy kb, if_neg (nC _ _ _ h3), ig (by simp; omega)]
 have Ac : ∀ L1 : aC → List Int, d ≠ 0 → (if x.kind = 1 then cD L1 (0, hm, 0) k else L1) (d, i, j) = L1 (d, i, j) := fun L1 h0 => by
  split
  ·exact ig (by simp; omega)
  rfl
 have Aa : ∀ L0 : aC → List Int, d ≠ 2 → gD k ks L0 (d, i, j) = L0 (d, i, j) := fun L0 h2 => by rw [gy ka, if_neg (nA _ _ _ h2)]
 have Ae : ∀ {i : Nat}, x.head = (i : Int) ↔ i = hm := fun {i} => by rw [hh]; omega
 by_cases h0 : d = 0
 ·subst h0
  rw [Ad _ (by decide) (by decide)]
  have g : ∀ k', GL T n k' (0, i, j) = if j = 0 ∧ i < n then bh T kS k' i else [] := fun k' => by simp [GL]
  rw [g, cG, mf]
  by_cases hk : x.kind = 1
  ·rw [if_pos hk]
   by_cases e : i = hm ∧ j = 0
   ·obtain ⟨rfl, rfl⟩ := e
    rw [sf, Aa _ (by decide), g, if_pos ⟨rfl, hm_⟩, if_pos ⟨rfl, hm_⟩, if_pos (by simp [kS, hk, hh])]
   rw [ig (by simp; omega), Aa _ (by decide), g]
   by_cases e2 : j = 0 ∧ i < n
   ·rw [if_pos e2, if_pos e2, if_neg (by simp [Ae]; intro _ e3; exact e ⟨e3, e2.1⟩)]
   rw [if_neg e2, if_neg e2]
  rw [if_neg hk, Aa _ (by decide), g, show kS x = false by simp [kS, hk]]
  simp
 by_cases h2 : d = 2
 ·subst h2
  rw [Ad _ (by decide) (by decide), Ac _ (by decide), gy ka]
  have g : ∀ k', GL T n k' (2, i, j) = if j = 0 ∧ i < n then gd T k' i else [] := fun k' => by simp [GL]
  rw [g, g, vK, ma]
  by_cases ej : j = 0
  ·subst ej
   have Ab : ((2, i, 0) : aC) ∈ ks ↔ (i : Int) ∈ row T.foes hm := by rw [← hA]; exact rZ (g := fun i => (2, i, 0)) (fun a b e => by simpa using e) (fun y hy => (hf0 y hy).1) i
   by_cases e : (i : Int) ∈ row T.foes hm
   ·have := (hf0 _ e).2
    rw [if_pos (Ab.2 e), if_pos ⟨rfl, by omega⟩, if_pos ⟨rfl, by omega⟩, if_pos (by simpa using e)]
   rw [if_neg fun h => e (Ab.1 h)]
   simp [e]
  rw [if_neg (show ¬ (j = 0 ∧ i < n) from fun h => ej h.1), if_neg (show ¬ (j = 0 ∧ i < n) from fun h => ej h.1), if_neg]
  rw [← hA, List.mem_map]
  rintro ⟨y, -, e⟩
  simp only [Prod.mk.injEq] at e
  exact ej e.2.2.symm
 by_cases h1 : d = 1
 ·subst h1
  have g : ∀ k', GL T n k' (1, i, j) = if j = 0 ∧ i < n then bh T kT k' i else [] := fun k' => by simp [GL]
  rw [g, cG, mf]
  by_cases hk : x.kind = 3
  ·rw [if_pos hk, Ac _ (by decide), Aa _ (by decide), g, show kT x = false by simp [kT, hk]]
   simp
  rw [if_neg hk, gy kb, if_neg (nC _ _ _ (by decide))]
  by_cases e : i = hm ∧ j = 0
  ·obtain ⟨rfl, rfl⟩ := e
   rw [sf, Ac _ (by decide), Aa _ (by decide), g, if_pos ⟨rfl, hm_⟩, if_pos ⟨rfl, hm_⟩, if_pos (by simp [kT, hk, hh])]
  rw [ig (by simp; omega), Ac _ (by decide), Aa _ (by decide), g]
  by_cases e2 : j = 0 ∧ i < n
  ·rw [if_pos e2, if_pos e2, if_neg (by simp [Ae]; intro _ e3; exact e ⟨e3, e2.1⟩)]
  rw [if_neg e2, if_neg e2]
 by_cases h3 : d = 3
 ·subst h3
  have g : ∀ k', GL T n k' (3, i, j) = if j < n then eX T k' j i else [] := fun k' => by simp [GL]
  rw [g, uH, mf]
  by_cases hk : x.kind = 3
  ·rw [if_pos hk, Ac _ (by decide), Aa _ (by decide), g, show kT x = false by simp [kT, hk]]
   simp
  rw [if_neg hk, gy kb, ig (by simp), Ac _ (by decide), Aa _ (by decide), g]
  by_cases ej : j = hm
  ·subst ej
   have Ab : ((3, i, j) : aC) ∈ cs ↔ (i : Int) ∈ row T.beats k := by rw [← hC]; exact rZ (g := fun i => (3, i, j)) (fun a b e => by simpa using e) hb0 i
   rw [if_pos hm_, if_pos hm_]
   by_cases e : (i : Int) ∈ row T.beats k
   ·rw [if_pos (Ab.2 e), if_pos (by simp [kT, hk, hh, beatB, e])]
   rw [if_neg fun h => e (Ab.1 h), if_neg (by simp [beatB, e])]
  rw [if_neg, if_neg (show ¬ ((kT x && decide (x.head = (j : Int)) && beatB T k i) = true) by simp [Ae, ej])]
  rw [← hC, List.mem_map]
  rintro ⟨y, -, e⟩
  simp only [Prod.mk.injEq] at e
  exact ej e.2.2.symm
 have g : ∀ k', GL T n k' (d, i, j) = [] := fun k' => by simp [GL, h0, h1, h2, h3]
 rw [Ad _ h1 h3, Ac _ h0, Aa _ h2, g, g]
end Go.Proofs.YtmlhcncagdfjfaaGreat.De
set_option maxRecDepth 100000
set_option maxHeartbeats 12800000
namespace Go.Proofs.YtmlhcncagdfjfaaGreat.De
open Go.RowKit Fa Rg Go.WideMaps Go.WideElems Go.MapKept
def wY (T : Th) (fa ra ba : Option Addr) (fc rc bc bq n N : Nat) (i : Nat) (v : Value) (W : World) (lo hi : Nat) : Prop := match i with
 | 0 => v = .agg #[.int .i64 T.lits, .slice fa T.foes.length fc, .slice ra T.rules.length rc, .slice ba T.beats.length bc]
 | 1 | 4 | 7 => v = aa bq
 | 2 | 5 | 8 => v = .int .i64 T.lits
 | 3 | 6 | 9 => ∃ g, v = ay g n ∧ Fx g 26 (List.replicate n (.slice none 0 0)) W ∧ lo ≤ g ∧ g < hi ∧ N ≤ g
 | 10 => ∃ g, v = .map (some g) ∧ W.heap[g]? = some (.map #[] 0) ∧ N ≤ g
 | 11 => ∃ g0 g1 g2 mb, v = .agg #[.int .i64 T.lits, .slice fa T.foes.length fc, .slice ra T.rules.length rc, .slice ba T.beats.length bc, ay g0 n, ay g1 n, ay g2 n, .map (some mb)] ∧ Fx g0 26 (List.replicate n (.slice none 0 0)) W ∧ Fx g1 26 (List.replicate n (.slice none 0 0)) W ∧ Fx g2 26 (List.replicate n (.slice none 0 0)) W ∧ W.heap[mb]? = some (.map #[] 0) ∧ (N ≤ g0 ∧ N ≤ g1 ∧ N ≤ g2 ∧ N ≤ mb) ∧ g0 ≠ g1 ∧ g0 ≠ g2 ∧ g1 ≠ g2
 | 12 | 13 => ∃ q g0 g1 g2 mb, v = aa q ∧ Fx q 118 [.int .i64 T.lits, .slice fa T.foes.length fc, .slice ra T.rules.length rc, .slice ba T.beats.length bc, ay g0 n, ay g1 n, ay g2 n, .map (some mb)] W ∧ N ≤ q ∧ Fx g0 26 (List.replicate n (.slice none 0 0)) W ∧ Fx g1 26 (List.replicate n (.slice none 0 0)) W ∧ Fx g2 26 (List.replicate n (.slice none 0 0)) W ∧ W.heap[mb]? = some (.map #[] 0) ∧ (N ≤ g0 ∧ N ≤ g1 ∧ N ≤ g2 ∧ N ≤ mb) ∧ g0 ≠ g1 ∧ g0 ≠ g2 ∧ g1 ≠ g2
 | _ => True
theorem dE {T : Th} {fa ra ba : Option Addr} {fc rc bc bq n N : Nat} : ∀ i v W W' lo hi, wY T fa ra ba fc rc bc bq n N i v W lo hi → hi ≤ W.heap.size → Below W.heap.size W W' → wY T fa ra ba fc rc bc bq n N i v W' lo hi := by
 intro i v W W' lo hi h hh hb
 have k : ∀ {g t : Nat} {xs : List Value}, Fx g t xs W → Fx g t xs W' := fun hf => hf.keep (hb.block _ hf.lt)
 have km : ∀ {g : Nat} {o : Obj}, W.heap[g]? = some o → W'.heap[g]? = some o := fun hf => (hb.block _ (Array.getElem?_eq_some_iff.1 hf).1).trans hf
 unfold wY at *
 split at h
 all_goals first
  | exact h
  | (obtain ⟨g, a, b, c⟩ := h; first | exact ⟨g, a, k b, c⟩ | exact ⟨g, a, km b, c⟩)
  | (obtain ⟨g0, g1, g2, g3, a, b, c, d, e, f⟩ := h; exact ⟨g0, g1, g2, g3, a, k b, k c, k d, km e, f⟩)
  | (obtain ⟨q, g0, g1, g2, g3, a, x, y, b, c, d, e, f⟩ := h; exact ⟨q, g0, g1, g2, g3, a, k x, y, k b, k c, k d, km e, f⟩)
  | trivial
theorem uo {N q n fc rc bc g0 g1 g2 mb : Nat} {fa ra ba : Option Addr} {T : Th} {W : World} (hq : Fx q 118 [.int .i64 T.lits, .slice fa T.foes.length fc, .slice ra T.rules.length rc, .slice ba T.beats.length bc, ay g0 n, ay g1 n, ay g2 n, .map (some mb)] W) (hN : N ≤ q) (h : Fx g0 26 (List.replicate n (.slice none 0 0)) W ∧ Fx g1 26 (List.replicate n (.slice none 0 0)) W ∧ Fx g2 26 (List.replicate n (.slice none 0 0)) W ∧ W.heap[mb]? = some (.map #[] 0) ∧ (N ≤ g0 ∧ N ≤ g1 ∧ N ≤ g2 ∧ N ≤ mb) ∧ g0 ≠ g1 ∧ g0 ≠ g2 ∧ g1 ≠ g2) :
    Ixs N ⟨q, n, fa, fc, ra, rc, ba, bc, g0, g1, g2, mb⟩ T (fun _ => []) (fun _ => .slice none 0 0) 0 W := by
 obtain ⟨f0, f1, f2, hm, ⟨n0, n1, n2, n3⟩, d1, d2, d3⟩ := h
 have three : ∀ {P : Nat → Prop}, P 0 → P 1 → P 2 → ∀ c, c < 3 → P c := fun a b d c hc => by
  rcases (show c = 0 ∨ c = 1 ∨ c = 2 by omega) with rfl | rfl | rfl
  ·exact a
  ·exact b
  exact d
 have rv : ∀ d, eq (fun _ => .slice none 0 0) d n = (List.replicate n (.slice none 0 0)) := fun d => by unfold eq; simp [List.map_const']
 refine ⟨hq, fun d hd => ?_, ⟨#[], 0, hm, yJ⟩, ⟨fun k => ⟨rfl, .inl ⟨rfl, rfl⟩⟩, fun j k g e => by simp [Value.ownBlock] at e⟩, ⟨hN, n3, three n0 n1 n2⟩, ?_⟩
 ·rw [rv]
  exact three (P := fun d => Fx (gK ⟨q, n, fa, fc, ra, rc, ba, bc, g0, g1, g2, mb⟩ d) 26 (List.replicate n (.slice none 0 0)) W) f0 f1 f2 d hd
 intro c d hc Ab Aa
 rcases (show c = 0 ∨ c = 1 ∨ c = 2 by omega) with rfl | rfl | rfl <;> rcases (show d = 0 ∨ d = 1 ∨ d = 2 by omega) with rfl | rfl | rfl <;> first | exact absurd rfl Aa | exact d1 | exact d2 | exact d3 | exact Ne.symm d1 | exact Ne.symm d2 | exact Ne.symm d3
theorem iu {w : World} {T : Th} {n : Nat} {fa ra ba : Option Addr} {fc rc bc : Nat} (h : TA w.heap.size w T fa fc ra rc ba bc) (hW : Wt T n) (hbl : T.beats.length = T.rules.length) (hbr : ∀ k : Nat, ∀ y ∈ row T.beats k, 0 ≤ y ∧ y < (T.rules.length : Int)) (hbn : ∀ k : Nat, (row T.beats k).Nodup ∧ (row T.beats k).length ≤ 4096) :
    Calls Tryz.prog 39 #[tv T fa fc ra rc ba bc] w fun e w' => ∃ q g0 g1 g2 mb V c, e = .returned (aa q) ∧ Ixs (w.heap.size + 1) ⟨q, n, fa, fc, ra, rc, ba, bc, g0, g1, g2, mb⟩ T (GL T n T.rules.length) V c w' ∧ Below w.heap.size w w' := by
 obtain ⟨iL, BU, Ce, Cb, Ch⟩ := info_parts nL
 have BB := hW.n4
 have Ba : ∀ W, (Instr.makeSlice 22 (.int .i64 T.lits) (.int .i64 T.lits)).run Tryz.prog W = .ok (ay W.heap.size n) (W.alloc (.cells (Array.replicate n (.slice none 0 0)) 26)) := fun W => by rw [hW.ln]; exact aH (P := Tryz.prog) Tryz.underlying22 BU Ce Cb rfl n (by rw [Ch]; omega) (by unfold maxLen; omega) W
 have BQ := @run_makeMap Tryz.prog
 have hB := ae w (.cells #[.int .i64 T.lits, .slice fa T.foes.length fc, .slice ra T.rules.length rc, .slice ba T.beats.length bc] 25)
 have BK : Fx w.heap.size 25 [.int .i64 T.lits, .slice fa T.foes.length fc, .slice ra T.rules.length rc, .slice ba T.beats.length bc] (w.alloc (.cells #[.int .i64 T.lits, .slice fa T.foes.length fc, .slice ra T.rules.length rc, .slice ba T.beats.length bc] 25)) := heap_alloc_new w _
 have AU := hide (TR.go hB h)
 have HW := hide hW
 have As := hide (And.intro hbl (And.intro hbr hbn))
 have BT := hide hB
 have At := hide BK
 clear h hW hbl hbr hbn hB
 go_enter Tryz.func39, Tryz.ntmps39
 go_upto_region 1 with fail
 clear BK
 have AR : (w.alloc (.cells #[.int .i64 T.lits, .slice fa T.foes.length fc, .slice ra T.rules.length rc, .slice ba T.beats.length bc] 25)).heap.size = w.heap.size + 1 := by simp
 generalize w.alloc (.cells #[.int .i64 T.lits, .slice fa T.foes.length fc, .slice ra T.rules.length rc, .slice ba T.beats.length bc] 25) = W at *
 obtain ⟨bq, Bj⟩ : ∃ bq, w.heap.size = bq := ⟨_, rfl⟩
 have Bw := hide Bj
 rw [Bj] at At AR ⊢
 have BV := hide AR
 clear Bj AR
 have HDr := hide ((Below.refl W.heap.size W).drew)
 obtain ⟨W0, Bn⟩ : ∃ W0, W.drew = W0 := ⟨_, rfl⟩
 have HX1d := hide (At.out.keep (HDr.out.block _ At.out.lt))
 have Ae : Hid (fQ [some 8, some 9, some 10, some 11, some 12, some 13, some 14, some 15, some 16, some 17, some 18, some 19, some 20, some 3] [(1, aa bq)] = true) := hide rfl
 rw [Bn] at HX1d HDr
 have Ag : Hid (∀ X, Below W0.heap.size W0 X → X.cell? ⟨bq, 0, none⟩ = some (.int .i64 T.lits) ∧ X.cell? ⟨bq, 1, none⟩ = some (.slice fa T.foes.length fc) ∧ X.cell? ⟨bq, 2, none⟩ = some (.slice ra T.rules.length rc) ∧ X.cell? ⟨bq, 3, none⟩ = some (.slice ba T.beats.length bc)) := hide fun X hX => by
  have hf := HX1d.out.keep (hX.block _ HX1d.out.lt)
  exact ⟨hf.get (i := 0) rfl, hf.get (i := 1) rfl, hf.get (i := 2) rfl, hf.get (i := 3) rfl⟩
 refine bW fY (Jg [some 8, some 9, some 10, some 11, some 12, some 13, some 14, some 15, some 16, some 17, some 18, some 19, some 20, some 3] [(1, aa bq)] (wY T fa ra ba fc rc bc bq n W0.heap.size) W0) (by kernel_rfl) (by kernel_rfl) ?_ (ci ⟨?_, ?_, ?_, ?_, ?_, ?_, ?_, ?_, ?_, ?_, ?_, ?_, ?_, ?_, trivial⟩) ?_ ?_
 ·show Jg _ _ _ W0 _ _ W.drew
  rw [Bn]
  exact Jg.start.2 fun p hp => by simp at hp; subst hp; rfl
 ·intro ρ X L hc hf hL hd Aa hJ
  obtain ⟨c0, c1, c2, c3⟩ := Ag.out X hJ.low
  have k1 : ρ (.tmp 1) = aa bq := hJ.base (1, aa bq) (by simp)
  refine ac (v := .agg #[.int .i64 T.lits, .slice fa T.foes.length fc, .slice ra T.rules.length rc, .slice ba T.beats.length bc]) (w' := X) ?_ (hJ.put Ae.out dE (i := 0) (d := 8) rfl (Below.refl _ _) (rfl))
  clear hd Aa hJ hL
  go_simp
 ·intro ρ X L hc hf hL hd Aa hJ
  obtain ⟨c0, c1, c2, c3⟩ := Ag.out X hJ.low
  have k1 : ρ (.tmp 1) = aa bq := hJ.base (1, aa bq) (by simp)
  refine ac (v := aa bq) (w' := X) ?_ (hJ.put Ae.out dE (i := 1) (d := 9) rfl (Below.refl _ _) (rfl))
  clear hd Aa hJ hL
  go_simp
 ·intro ρ X L hc hf hL hd Aa hJ
  obtain ⟨c0, c1, c2, c3⟩ := Ag.out X hJ.low
  obtain ⟨_, _, _, e1⟩ := hJ.get (i := 1) (d := 9) rfl (hd ⟨1, .data⟩ (by simp) rfl)
  have k9 : ρ (.tmp 9) = aa bq := e1
  clear e1
  refine ac (v := .int .i64 T.lits) (w' := X) ?_ (hJ.put Ae.out dE (i := 2) (d := 10) rfl (Below.refl _ _) (rfl))
  clear hd Aa hJ hL
  go_simp
 ·intro ρ X L hc hf hL hd Aa hJ
  obtain ⟨c0, c1, c2, c3⟩ := Ag.out X hJ.low
  obtain ⟨_, _, _, e1⟩ := hJ.get (i := 2) (d := 10) rfl (hd ⟨2, .data⟩ (by simp) rfl)
  have Cj : ρ (.tmp 10) = .int .i64 T.lits := e1
  have BD := Ba X
  clear e1
  refine ac (v := ay X.heap.size n) (w' := X.alloc (.cells (Array.replicate n (.slice none 0 0)) 26)) ?_ (hJ.put Ae.out dE (i := 3) (d := 11) rfl (ae X _) (⟨X.heap.size, rfl, by unfold Fx; rw [heap_alloc_new]; simp, Nat.le_refl _, by simp, hJ.low.size⟩))
  clear hd Aa hJ hL
  go_simp
 ·intro ρ X L hc hf hL hd Aa hJ
  obtain ⟨c0, c1, c2, c3⟩ := Ag.out X hJ.low
  have k1 : ρ (.tmp 1) = aa bq := hJ.base (1, aa bq) (by simp)
  refine ac (v := aa bq) (w' := X) ?_ (hJ.put Ae.out dE (i := 4) (d := 12) rfl (Below.refl _ _) (rfl))
  clear hd Aa hJ hL
  go_simp
 ·intro ρ X L hc hf hL hd Aa hJ
  obtain ⟨c0, c1, c2, c3⟩ := Ag.out X hJ.low
  obtain ⟨_, _, _, e1⟩ := hJ.get (i := 4) (d := 12) rfl (hd ⟨4, .data⟩ (by simp) rfl)
  have CF : ρ (.tmp 12) = aa bq := e1
  clear e1
  refine ac (v := .int .i64 T.lits) (w' := X) ?_ (hJ.put Ae.out dE (i := 5) (d := 13) rfl (Below.refl _ _) (rfl))
  clear hd Aa hJ hL
  go_simp
 ·intro ρ X L hc hf hL hd Aa hJ
  obtain ⟨c0, c1, c2, c3⟩ := Ag.out X hJ.low
  obtain ⟨_, _, _, e1⟩ := hJ.get (i := 5) (d := 13) rfl (hd ⟨5, .data⟩ (by simp) rfl)
  have Da : ρ (.tmp 13) = .int .i64 T.lits := e1
  have BD := Ba X
  clear e1
  refine ac (v := ay X.heap.size n) (w' := X.alloc (.cells (Array.replicate n (.slice none 0 0)) 26)) ?_ (hJ.put Ae.out dE (i := 6) (d := 14) rfl (ae X _) (⟨X.heap.size, rfl, by unfold Fx; rw [heap_alloc_new]; simp, Nat.le_refl _, by simp, hJ.low.size⟩))
  clear hd Aa hJ hL
  go_simp
 ·intro ρ X L hc hf hL hd Aa hJ
  obtain ⟨c0, c1, c2, c3⟩ := Ag.out X hJ.low
  have k1 : ρ (.tmp 1) = aa bq := hJ.base (1, aa bq) (by simp)
  refine ac (v := aa bq) (w' := X) ?_ (hJ.put Ae.out dE (i := 7) (d := 15) rfl (Below.refl _ _) (rfl))
  clear hd Aa hJ hL
  go_simp
 ·intro ρ X L hc hf hL hd Aa hJ
  obtain ⟨c0, c1, c2, c3⟩ := Ag.out X hJ.low
  obtain ⟨_, _, _, e1⟩ := hJ.get (i := 7) (d := 15) rfl (hd ⟨7, .data⟩ (by simp) rfl)
  have CT : ρ (.tmp 15) = aa bq := e1
  clear e1
  refine ac (v := .int .i64 T.lits) (w' := X) ?_ (hJ.put Ae.out dE (i := 8) (d := 16) rfl (Below.refl _ _) (rfl))
  clear hd Aa hJ hL
  go_simp
 ·intro ρ X L hc hf hL hd Aa hJ
  obtain ⟨c0, c1, c2, c3⟩ := Ag.out X hJ.low
  obtain ⟨_, _, _, e1⟩ := hJ.get (i := 8) (d := 16) rfl (hd ⟨8, .data⟩ (by simp) rfl)
  have Ct : ρ (.tmp 16) = .int .i64 T.lits := e1
  have BD := Ba X
  clear e1
  refine ac (v := ay X.heap.size n) (w' := X.alloc (.cells (Array.replicate n (.slice none 0 0)) 26)) ?_ (hJ.put Ae.out dE (i := 9) (d := 17) rfl (ae X _) (⟨X.heap.size, rfl, by unfold Fx; rw [heap_alloc_new]; simp, Nat.le_refl _, by simp, hJ.low.size⟩))
  clear hd Aa hJ hL
  go_simp
 ·intro ρ X L hc hf hL hd Aa hJ
  obtain ⟨c0, c1, c2, c3⟩ := Ag.out X hJ.low
  refine ac (v := .map (some X.heap.size)) (w' := X.alloc (.map #[] 0)) ?_ (hJ.put Ae.out dE (i := 10) (d := 18) rfl (ae X _) (⟨X.heap.size, rfl, heap_alloc_new X _, hJ.low.size⟩))
  clear hd Aa hJ hL
  go_simp
 ·intro ρ X L hc hf hL hd Aa hJ
  obtain ⟨c0, c1, c2, c3⟩ := Ag.out X hJ.low
  obtain ⟨lo, hi, AA, AE⟩ := hJ.at_
  have l0 : L 0 = true := hd ⟨0, .data⟩ (by simp) rfl
  have l3 : L 3 = true := hd ⟨3, .data⟩ (by simp) rfl
  have l6 : L 6 = true := hd ⟨6, .data⟩ (by simp) rfl
  have l9 : L 9 = true := hd ⟨9, .data⟩ (by simp) rfl
  have BY : L 10 = true := hd ⟨10, .data⟩ (by simp) rfl
  obtain ⟨-, -, -, e0⟩ := AA 0 8 rfl l0
  obtain ⟨-, -, -, g0, e3, f3, a3, b3, n3⟩ := AA 3 11 rfl l3
  obtain ⟨-, -, -, g1, e6, f6, a6, b6, n6⟩ := AA 6 14 rfl l6
  obtain ⟨-, -, -, g2, e9, f9, a9, b9, n9⟩ := AA 9 17 rfl l9
  obtain ⟨-, -, -, mb, Bz, Bu, Cc⟩ := AA 10 18 rfl BY
  have d1 := AE 3 6 11 14 rfl rfl (by decide) l3 l6
  have d2 := AE 3 9 11 17 rfl rfl (by decide) l3 l9
  have d3 := AE 6 9 14 17 rfl rfl (by decide) l6 l9
  have k8 : ρ (.tmp 8) = .agg #[.int .i64 T.lits, .slice fa T.foes.length fc, .slice ra T.rules.length rc, .slice ba T.beats.length bc] := e0
  have CE : ρ (.tmp 11) = ay g0 n := e3
  have Co : ρ (.tmp 14) = ay g1 n := e6
  have Cu : ρ (.tmp 17) = ay g2 n := e9
  have CV : ρ (.tmp 18) = .map (some mb) := Bz
  refine ac (v := .agg #[.int .i64 T.lits, .slice fa T.foes.length fc, .slice ra T.rules.length rc, .slice ba T.beats.length bc, ay g0 n, ay g1 n, ay g2 n, .map (some mb)]) (w' := X) ?_ (hJ.put Ae.out dE (i := 11) (d := 19) rfl (Below.refl _ _) (⟨g0, g1, g2, mb, rfl, f3, f6, f9, Bu, ⟨n3, n6, n9, Cc⟩, by omega, by omega, by omega⟩))
  clear hd Aa hJ hL AA AE d1 d2 d3 e0 e3 e6 e9 Bz f3 f6 f9 Bu
  go_simp
 ·intro ρ X L hc hf hL hd Aa hJ
  obtain ⟨c0, c1, c2, c3⟩ := Ag.out X hJ.low
  obtain ⟨_, _, BX, g0, g1, g2, mb, BZ, AD⟩ := hJ.get (i := 11) (d := 19) rfl (hd ⟨11, .data⟩ (by simp) rfl)
  have Cv : ρ (.tmp 19) = .agg #[.int .i64 T.lits, .slice fa T.foes.length fc, .slice ra T.rules.length rc, .slice ba T.beats.length bc, ay g0 n, ay g1 n, ay g2 n, .map (some mb)] := BZ
  obtain ⟨f0, f1, f2, fm, AV⟩ := AD
  have hbn := ae X (.cells #[.int .i64 T.lits, .slice fa T.foes.length fc, .slice ra T.rules.length rc, .slice ba T.beats.length bc, ay g0 n, ay g1 n, ay g2 n, .map (some mb)] 118)
  have f0 := f0.keep (hbn.block _ f0.lt)
  have f1 := f1.keep (hbn.block _ f1.lt)
  have f2 := f2.keep (hbn.block _ f2.lt)
  have fm := (hbn.block _ (Array.getElem?_eq_some_iff.1 fm).1).trans fm
  clear hbn
  refine ac (v := aa X.heap.size) (w' := X.alloc (.cells #[.int .i64 T.lits, .slice fa T.foes.length fc, .slice ra T.rules.length rc, .slice ba T.beats.length bc, ay g0 n, ay g1 n, ay g2 n, .map (some mb)] 118)) ?_ (hJ.put Ae.out dE (i := 12) (d := 20) rfl (ae X _) (⟨X.heap.size, g0, g1, g2, mb, rfl, heap_alloc_new X _, hJ.low.size, f0, f1, f2, fm, AV⟩))
  clear hd Aa hJ hL f0 f1 f2 fm AV
  go_simp
 ·intro ρ X L hc hf hL hd Aa hJ
  obtain ⟨c0, c1, c2, c3⟩ := Ag.out X hJ.low
  obtain ⟨_, _, BX, q, g0, g1, g2, mb, BP, AS⟩ := hJ.get (i := 12) (d := 20) rfl (hd ⟨12, .data⟩ (by simp) rfl)
  have CC : ρ (.tmp 20) = aa q := BP
  refine ac (v := aa q) (w' := X) ?_ (hJ.put Ae.out dE (i := 13) (d := 3) rfl (Below.refl _ _) (⟨q, g0, g1, g2, mb, rfl, AS⟩))
  clear hd Aa hJ hL
  go_simp
 ·intro c a' w' _ hE
  exact hE.elim
 rintro ⟨Ab, df⟩ w' Ao Av ⟨Lq, Au, hJ⟩ An
 simp only at Av Ao
 subst Av
 obtain ⟨_, _, _, q, g0, g1, g2, mb, e3, AS, BF, AD⟩ := hJ.get (i := 13) (d := 3) rfl (Au 13 (by decide))
 have Bt := uo AS BF AD
 have By := hJ.low
 have e3 : Ab.getD 3 undef = aa q := e3
 have Am := en 8 20 3 (by kernel_rfl) Ao An
 simp only [zs, Nat.reduceLT, Nat.reduceAdd, true_or, or_true, or_self, false_and, ne_eq, Nat.reduceEqDiff, not_false_eq_true, not_true_eq_false, and_self, and_false, if_true, if_false, e3] at Am
 rw [Am]
 clear Am hJ Au An Ao e3 Ba BQ Ag Ae AS BF AD
 generalize Ab.getD 8 undef = x8
 generalize Ab.getD 9 undef = x9
 generalize Ab.getD 10 undef = x10
 generalize Ab.getD 11 undef = x11
 generalize Ab.getD 12 undef = x12
 generalize Ab.getD 13 undef = x13
 generalize Ab.getD 14 undef = x14
 generalize Ab.getD 15 undef = x15
 generalize Ab.getD 16 undef = x16
 generalize Ab.getD 17 undef = x17
 generalize Ab.getD 18 undef = x18
 generalize Ab.getD 19 undef = x19
 generalize Ab.getD 20 undef = x20
 have Be : W0.heap.size = W.heap.size := by rw [← Bn]; rfl
 rw [Be] at Bt
 have AX := hide Bt
 have Br : Hid (Below W.heap.size W w') := hide (HDr.out.trans (By.mono HDr.out.size))
 clear Bt By Be HDr HX1d
 have b2 := (At.out.keep (Br.out.block _ At.out.lt)).get (i := 2) (v := .slice ra T.rules.length rc) rfl
 go_upto_region 3 with fail
 clear b2
 have AX : Hid (Ixs W.heap.size ⟨q, n, fa, fc, ra, rc, ba, bc, g0, g1, g2, mb⟩ T (GL T n 0) (fun _ => .slice none 0 0) 0 w') := hide (by rw [xK]; exact AX.out)
 have AL := hide HW.out.rl
 go_loopw [24] (fun xv wr => ∃ (k c : Nat) (V : aC → Value), k ≤ T.rules.length ∧ xv = .int .i64 k ∧ c ≤ k * 4096 ∧ Hid (Ixs W.heap.size ⟨q, n, fa, fc, ra, rc, ba, bc, g0, g1, g2, mb⟩ T (GL T n k) V c wr) ∧ Hid (Below W.heap.size W wr)) (fun x _ => T.rules.length - (intOf x).toNat)
 case atStart => exact ⟨0, 0, _, by omega, rfl, by omega, AX, Br⟩
 clear AX Br
 obtain ⟨k, c, V, hk, rfl, CU, HI, HB⟩ := hrel
 by_cases hlt : k < T.rules.length
 ·obtain ⟨x, hr⟩ := am hlt
  have Bd := List.mem_of_getElem? hr
  obtain ⟨hm, hh⟩ : ∃ hm : Nat, x.head = (hm : Int) := ⟨x.head.toNat, by have := (HW.out.hd x Bd).1; omega⟩
  have Al : hm < n := by have := (HW.out.hd x Bd).2; omega
  obtain ⟨fs, Bh⟩ := am (l := T.foes) (i := hm) (by rw [HW.out.fl]; exact Al)
  have AC : row T.foes (hm : Int) = fs := bn (by rw [Int.toNat_natCast]; exact Bh)
  obtain ⟨bl, hbl⟩ := am (l := T.beats) (i := k) (by rw [As.out.1]; exact hlt)
  have Bg : row T.beats (k : Int) = bl := bn (by rw [Int.toNat_natCast]; exact hbl)
  have Ac := xY (n := n) hr hh Al (fun y hy => HW.out.fo hm Al y hy) (by have := (HW.out.fp hm Al).1; exact this.imp fun h => by omega) (fun y hy => (As.out.2.1 k y hy).1) (As.out.2.2 k).1
  rw [AC, Bg] at Ac
  have Ci : fs.length ≤ 64 := by have := (HW.out.fp hm Al).2; rw [AC] at this; exact this
  obtain ⟨gr, go, bd, bp, rfl, BL, x0, x1, x2, -⟩ := dG (TR.keep HB.out.block AU.out).rules hr
  rw [hh] at x1
  obtain ⟨gf, of, af, cf, rfl, BG, AN, -, -, BA⟩ := bH AU.out.foes Bh
  have AN := (World.cell?_of_block (HB.out.block gf BG)).trans AN
  have b2 := (At.out.keep (HB.out.block _ At.out.lt)).get (i := 2) (v := .slice (some ⟨gr, go, none⟩) T.rules.length rc) rfl
  have b1 := (At.out.keep (HB.out.block _ At.out.lt)).get (i := 1) (v := .slice (some ⟨gf, of, none⟩) T.foes.length fc) rfl
  have CX : hm < T.foes.length := by rw [HW.out.fl]; exact Al
  have AP := ae wr (.cells #[.int .i64 x.kind, .int .i64 hm, .slice bd x.body.length bp] 114)
  have HIq := hide (HI.out.go AP)
  have HBq := hide (HB.out.trans (AP.mono HB.out.size))
  have HQ : Hid (Fx wr.heap.size 114 [.int .i64 x.kind, .int .i64 hm, .slice bd x.body.length bp] (wr.alloc (.cells #[.int .i64 x.kind, .int .i64 hm, .slice bd x.body.length bp] 114))) := hide (heap_alloc_new wr _)
  have b1 := ar b1 AP
  have AN := ar AN AP
  have Bx := hide BA
  have BI := hide hr
  have BH := hide hh
  have BN := hide AC
  have AB := hide Bg
  have BC := hide hbl
  have Bf := hide Ac
  have CH : k < 4096 := Nat.lt_of_lt_of_le hlt AL.out
  clear hr hh AC AP HI HB Bd BA Bh Bg hbl Ac BL BG
  go_upto_region 6 with fail
  clear x0 x1 x2 b1 b2 AN
  generalize wr.alloc (.cells #[.int .i64 x.kind, .int .i64 hm, .slice bd x.body.length bp] 114) = wq at *
  obtain ⟨qr, Bv⟩ : ∃ qr, wr.heap.size = qr := ⟨_, rfl⟩
  rw [Bv] at HQ ⊢
  clear Bv
  go_loopw [36] (fun xv wr => ∃ (j : Nat) (V : aC → Value), j ≤ fs.length ∧ xv = .int .i64 j ∧ Hid (Ixs W.heap.size ⟨q, n, some ⟨gf, of, none⟩, fc, some ⟨gr, go, none⟩, rc, ba, bc, g0, g1, g2, mb⟩ T (lR k (fs.take j) (GL T n k)) V c wr) ∧ Hid (Fx qr 114 [.int .i64 x.kind, .int .i64 hm, .slice bd x.body.length bp] wr) ∧ Hid (Below W.heap.size W wr)) (fun x _ => fs.length - (intOf x).toNat)
  case atStart => exact ⟨0, V, by omega, rfl, HIq, HQ, HBq⟩
  clear HIq HQ HBq
  obtain ⟨j, V1, hj, rfl, HI, HQ, HB⟩ := hrel
  by_cases hlj : j < fs.length
  ·obtain ⟨f, hf⟩ := am hlj
   have Ca := HW.out.fo hm Al f (by rw [BN.out]; exact List.mem_of_getElem? hf)
   obtain ⟨fo, rfl⟩ : ∃ fo : Nat, f = (fo : Int) := ⟨f.toNat, by omega⟩
   have BJ : fo < n := by omega
   obtain ⟨g5, o5, rfl, Cg, y5⟩ := ji (Bx.out.keep HB.out.block) hf
   clear Ca Cg
   go_upto_region 8 with fail
   clear y5
   have Ar := (Below.refl wr.heap.size wr).drew
   have HId := hide (HI.out.go Ar)
   have HBd := hide (HB.out.trans (Ar.mono HB.out.size))
   have HQd := hide (HQ.out.keep (Ar.block _ HQ.out.lt))
   obtain ⟨wd, Ax⟩ : ∃ wd, wr.drew = wd := ⟨_, rfl⟩
   rw [Ax] at HId HBd HQd
   obtain ⟨l0, Ah, Ai, Aj, Af, w2, w3, V3, Bk, AO, Bo, AG, Ap, Aq, Az, AK, AJ⟩ := HId.out.app HBd.out.size (d := 2) (by omega) (show fo < n from BJ) k (by rw [ki]; refine Nat.le_trans kU ?_; have := qn (T := T) (n := n) (k := k) (2, fo, 0); rw [List.length_map, List.length_take]; omega)
   replace Aq : w2.setCell ⟨g2, fo, none⟩ (.slice (some ⟨Aj, 0, none⟩) (l0.length + 1) Af) = w3 := Aq
   have Aw : Fx g2 26 (eq _ 2 n) wd := HId.out.rw 2 (by omega)
   have AM := (gl BJ).trans (congrArg some AO)
   have AF := hide AG
   have AQ := hide Aq
   have AW := hide AK
   have AY := hide (HBd.out.trans AJ)
   have AZ := hide (Az _ _ _ HQd.out (by decide) (by decide))
   have kb : ∀ {g t : Nat} {xs : List Value} {j : Nat} {v : Value}, Fx g t xs wd → t ≠ 3 → xs[j]? = some v → ∀ X, X = wd ∨ X = wd.alloc (.cells #[.int .i64 k] 3) ∨ X = w2 → X.cell? ⟨g, j, none⟩ = some v := fun hf ht hj X hX => by
    rcases hX with rfl | rfl | rfl
    ·exact hf.get hj
    ·exact ar (hf.get hj) (ae _ _)
    exact (Ap _ _ _ hf ht).get hj
   have LH := hide (kb (j := 6) (v := ay g2 n) HId.out.bx (by decide) rfl)
   have LR := hide (kb (v := .slice Ah l0.length Ai) Aw (by decide) AM)
   have q1 : w2.cell? ⟨g2, fo, none⟩ = some (.slice Ah l0.length Ai) := LR.out w2 (.inr (.inr rfl))
   have q2 : w2.frozen? ⟨g2, fo, none⟩ = false := (Ap _ _ _ Aw (by decide)).frz fo
   have Ad : Hid (fQ ([some (40, aa q), some (41, aa q), some (42, .pointer (some ⟨q, 6, none⟩)), some (43, ay g2 n), some (44, .int .i64 fo), some (45, aa q), some (46, aa q), some (47, .pointer (some ⟨q, 6, none⟩)), some (48, ay g2 n), some (49, .int .i64 fo), some (50, .pointer (some ⟨g2, fo, none⟩)), some (51, .slice Ah l0.length Ai), some (52, .int .i64 k), some (53, .slice (some ⟨wd.heap.size, 0, none⟩) 1 1), some (54, .slice (some ⟨Aj, 0, none⟩) (l0.length + 1) Af), some (55, .pointer (some ⟨g2, fo, none⟩)), none].map fun p : Option (Nat × Value) => p.map Prod.fst) [(3, aa q), (4, .int .i64 k), (7, .int .i64 fo)] = true) := hide rfl
   clear Aw AM HI HB HQ AK AJ AG Aq Ap Az Bo Bk AO Ar kb HQd
   refine bW fY (Jt [some (40, aa q), some (41, aa q), some (42, .pointer (some ⟨q, 6, none⟩)), some (43, ay g2 n), some (44, .int .i64 fo), some (45, aa q), some (46, aa q), some (47, .pointer (some ⟨q, 6, none⟩)), some (48, ay g2 n), some (49, .int .i64 fo), some (50, .pointer (some ⟨g2, fo, none⟩)), some (51, .slice Ah l0.length Ai), some (52, .int .i64 k), some (53, .slice (some ⟨wd.heap.size, 0, none⟩) 1 1), some (54, .slice (some ⟨Aj, 0, none⟩) (l0.length + 1) Af), some (55, .pointer (some ⟨g2, fo, none⟩)), none] [(3, aa q), (4, .int .i64 k), (7, .int .i64 fo)] (fG 13 14 16 wd (wd.alloc (.cells #[.int .i64 k] 3)) w2 w3)) (by kernel_rfl) (by kernel_rfl) ?_ (ci ⟨?_, ?_, ?_, ?_, ?_, ?_, ?_, ?_, ?_, ?_, ?_, ?_, ?_, ?_, ?_, ?_, ?_, trivial⟩) ?_ ?_
   ·exact ⟨fun p hp => by simp at hp; rcases hp with rfl | rfl | rfl <;> rfl, fun i d v _ hL => (by cases hL), Ax⟩
   ·intro ρ X L hc hf hL hd Aa hJ
    have k3 : ρ (.tmp 3) = aa q := hJ.base (3, aa q) (by simp)
    refine ac (v := aa q) (w' := X) ?_ (hJ.put Ad.out rfl (by rw [ap (by decide) (by decide) (by decide)]; exact hJ.wd))
    clear hd Aa hJ hL
    go_simp
   ·intro ρ X L hc hf hL hd Aa hJ
    have Cy := hJ.vals 0 40 (aa q) rfl (hd ⟨0, .data⟩ (by simp) rfl)
    refine ac (v := aa q) (w' := X) ?_ (hJ.put Ad.out rfl (by rw [ap (by decide) (by decide) (by decide)]; exact hJ.wd))
    clear hd Aa hJ hL
    go_simp
   ·intro ρ X L hc hf hL hd Aa hJ
    have CW := hJ.vals 1 41 (aa q) rfl (hd ⟨1, .data⟩ (by simp) rfl)
    refine ac (v := .pointer (some ⟨q, 6, none⟩)) (w' := X) ?_ (hJ.put Ad.out rfl (by rw [ap (by decide) (by decide) (by decide)]; exact hJ.wd))
    clear hd Aa hJ hL
    go_simp
   ·intro ρ X L hc hf hL hd Aa hJ
    have CO := hJ.vals 2 42 (.pointer (some ⟨q, 6, none⟩)) rfl (hd ⟨2, .data⟩ (by simp) rfl)
    have Ac : L 16 = false := ak (by kernel_rfl) Aa (k := 3) (by simp) hL
    have hx := LH.out X (aZ hJ.wd Ac)
    clear Ac
    refine ac (v := ay g2 n) (w' := X) ?_ (hJ.put Ad.out rfl (by rw [ap (by decide) (by decide) (by decide)]; exact hJ.wd))
    clear hd Aa hJ hL
    go_simp
   ·intro ρ X L hc hf hL hd Aa hJ
    have k7 : ρ (.tmp 7) = .int .i64 fo := hJ.base (7, .int .i64 fo) (by simp)
    refine ac (v := .int .i64 fo) (w' := X) ?_ (hJ.put Ad.out rfl (by rw [ap (by decide) (by decide) (by decide)]; exact hJ.wd))
    clear hd Aa hJ hL
    go_simp
   ·intro ρ X L hc hf hL hd Aa hJ
    have k3 : ρ (.tmp 3) = aa q := hJ.base (3, aa q) (by simp)
    refine ac (v := aa q) (w' := X) ?_ (hJ.put Ad.out rfl (by rw [ap (by decide) (by decide) (by decide)]; exact hJ.wd))
    clear hd Aa hJ hL
    go_simp
   ·intro ρ X L hc hf hL hd Aa hJ
    have Cs := hJ.vals 5 45 (aa q) rfl (hd ⟨5, .data⟩ (by simp) rfl)
    refine ac (v := aa q) (w' := X) ?_ (hJ.put Ad.out rfl (by rw [ap (by decide) (by decide) (by decide)]; exact hJ.wd))
    clear hd Aa hJ hL
    go_simp
   ·intro ρ X L hc hf hL hd Aa hJ
    have CB := hJ.vals 6 46 (aa q) rfl (hd ⟨6, .data⟩ (by simp) rfl)
    refine ac (v := .pointer (some ⟨q, 6, none⟩)) (w' := X) ?_ (hJ.put Ad.out rfl (by rw [ap (by decide) (by decide) (by decide)]; exact hJ.wd))
    clear hd Aa hJ hL
    go_simp
   ·intro ρ X L hc hf hL hd Aa hJ
    have CS := hJ.vals 7 47 (.pointer (some ⟨q, 6, none⟩)) rfl (hd ⟨7, .data⟩ (by simp) rfl)
    have Ac : L 16 = false := ak (by kernel_rfl) Aa (k := 8) (by simp) hL
    have hx := LH.out X (aZ hJ.wd Ac)
    clear Ac
    refine ac (v := ay g2 n) (w' := X) ?_ (hJ.put Ad.out rfl (by rw [ap (by decide) (by decide) (by decide)]; exact hJ.wd))
    clear hd Aa hJ hL
    go_simp
   ·intro ρ X L hc hf hL hd Aa hJ
    have k7 : ρ (.tmp 7) = .int .i64 fo := hJ.base (7, .int .i64 fo) (by simp)
    refine ac (v := .int .i64 fo) (w' := X) ?_ (hJ.put Ad.out rfl (by rw [ap (by decide) (by decide) (by decide)]; exact hJ.wd))
    clear hd Aa hJ hL
    go_simp
   ·intro ρ X L hc hf hL hd Aa hJ
    have CQ := hJ.vals 8 48 (ay g2 n) rfl (hd ⟨8, .data⟩ (by simp) rfl)
    have CP := hJ.vals 9 49 (.int .i64 fo) rfl (hd ⟨9, .data⟩ (by simp) rfl)
    refine ac (v := .pointer (some ⟨g2, fo, none⟩)) (w' := X) ?_ (hJ.put Ad.out rfl (by rw [ap (by decide) (by decide) (by decide)]; exact hJ.wd))
    clear hd Aa hJ hL
    go_simp
   ·intro ρ X L hc hf hL hd Aa hJ
    have CM := hJ.vals 10 50 (.pointer (some ⟨g2, fo, none⟩)) rfl (hd ⟨10, .data⟩ (by simp) rfl)
    have Ac : L 16 = false := ak (by kernel_rfl) Aa (k := 11) (by simp) hL
    have hx := LR.out X (aZ hJ.wd Ac)
    clear Ac
    refine ac (v := .slice Ah l0.length Ai) (w' := X) ?_ (hJ.put Ad.out rfl (by rw [ap (by decide) (by decide) (by decide)]; exact hJ.wd))
    clear hd Aa hJ hL
    go_simp
   ·intro ρ X L hc hf hL hd Aa hJ
    have k4 : ρ (.tmp 4) = .int .i64 k := hJ.base (4, .int .i64 k) (by simp)
    refine ac (v := .int .i64 k) (w' := X) ?_ (hJ.put Ad.out rfl (by rw [ap (by decide) (by decide) (by decide)]; exact hJ.wd))
    clear hd Aa hJ hL
    go_simp
   ·intro ρ X L hc hf hL hd Aa hJ
    have Cn := hJ.vals 12 52 (.int .i64 k) rfl (hd ⟨12, .data⟩ (by simp) rfl)
    have Ak : L 14 = false := by cases e : L 14 with | false => rfl | true => (have := Aa 14 _ rfl e ⟨13, .data⟩ (by simp) rfl; rw [show (⟨13, .data⟩ : Edge).on = 13 from rfl] at this; rw [hL] at this; cases this)
    have Ac : L 16 = false := ak (by kernel_rfl) Aa (k := 13) (by simp) hL
    have hX := hJ.wd.trans (jV hL Ak Ac)
    refine ac (v := .slice (some ⟨wd.heap.size, 0, none⟩) 1 1) (w' := wd.alloc (.cells #[.int .i64 k] 3)) ?_ (hJ.put Ad.out rfl ((eD aF (by rw [al (by decide)]; exact Ak) (by rw [al (by decide)]; exact Ac)).symm))
    subst hX
    clear hd Aa hJ hL Ak Ac
    go_simp
   ·intro ρ X L hc hf hL hd Aa hJ
    have BM := hJ.vals 11 51 (.slice Ah l0.length Ai) rfl (hd ⟨11, .data⟩ (by simp) rfl)
    have Cd := hJ.vals 13 53 (.slice (some ⟨wd.heap.size, 0, none⟩) 1 1) rfl (hd ⟨13, .data⟩ (by simp) rfl)
    have Bl : L 13 = true := hd ⟨13, .data⟩ (by simp) rfl
    have Ac : L 16 = false := ak (by kernel_rfl) Aa (k := 14) (by simp) hL
    have hX := hJ.wd.trans (eD Bl hL Ac)
    refine eM _ _ 26 rfl BM Cd (u := .slice (some ⟨Aj, 0, none⟩) (l0.length + 1) Af) (w' := w2) (by rw [hX]; exact AF.out) (hJ.put Ad.out rfl ((eF aF (by rw [al (by decide)]; exact Ac)).symm))
   ·intro ρ X L hc hf hL hd Aa hJ
    have CR := hJ.vals 3 43 (ay g2 n) rfl (hd ⟨3, .data⟩ (by simp) rfl)
    have CK := hJ.vals 4 44 (.int .i64 fo) rfl (hd ⟨4, .data⟩ (by simp) rfl)
    refine ac (v := .pointer (some ⟨g2, fo, none⟩)) (w' := X) ?_ (hJ.put Ad.out rfl (by rw [ap (by decide) (by decide) (by decide)]; exact hJ.wd))
    clear hd Aa hJ hL
    go_simp
   ·intro ρ X L hc hf hL hd Aa hJ
    have Cp := hJ.vals 15 55 (.pointer (some ⟨g2, fo, none⟩)) rfl (hd ⟨15, .data⟩ (by simp) rfl)
    have CD := hJ.vals 14 54 (.slice (some ⟨Aj, 0, none⟩) (l0.length + 1) Af) rfl (hd ⟨14, .data⟩ (by simp) rfl)
    have Ak : L 14 = true := hd ⟨14, .data⟩ (by simp) rfl
    have hX := hJ.wd.trans (eF Ak hL)
    refine bY (w' := w3) ?_ (hJ.last rfl ((eC aF).symm))
    subst hX
    clear hd Aa hJ hL Ak
    rw [← AQ.out]
    go_simp
   ·intro c a' w' _ hE
    exact hE.elim
   rintro ⟨Ab, df⟩ w' Ao Av ⟨Lq, Au, hJ⟩ An
   simp only at Av Ao
   subst Av
   have Bi : w3 = w' := (hJ.wd.trans (eC (Au 16 (by decide)))).symm
   subst Bi
   have Am := dA 40 55 (by kernel_rfl) Ao An
   simp only [zr, Nat.reduceLT, Nat.reduceAdd, true_or, or_true, or_self, if_true, if_false] at Am
   rw [Am]
   clear Am hJ Au An Ao Ad AF AQ LH LR q1 q2 Ax HBd HId
   generalize Ab.getD 40 undef = x40
   generalize Ab.getD 41 undef = x41
   generalize Ab.getD 42 undef = x42
   generalize Ab.getD 43 undef = x43
   generalize Ab.getD 44 undef = x44
   generalize Ab.getD 45 undef = x45
   generalize Ab.getD 46 undef = x46
   generalize Ab.getD 47 undef = x47
   generalize Ab.getD 48 undef = x48
   generalize Ab.getD 49 undef = x49
   generalize Ab.getD 50 undef = x50
   generalize Ab.getD 51 undef = x51
   generalize Ab.getD 52 undef = x52
   generalize Ab.getD 53 undef = x53
   generalize Ab.getD 54 undef = x54
   generalize Ab.getD 55 undef = x55
   go_wp2_with fail
   go_roundw
   case rel => exact ⟨j + 1, V3, by omega, by go_num, hide (by rw [bD hf, vb, Int.toNat_natCast]; exact AW.out), AZ, AY⟩
   case measure => simp [intOf]; omega
  have BW : j = fs.length := by omega
  have HI : Hid (Ixs W.heap.size ⟨q, n, some ⟨gf, of, none⟩, fc, some ⟨gr, go, none⟩, rc, ba, bc, g0, g1, g2, mb⟩ T (lR k fs (GL T n k)) V1 c wr) := hide (by have := HI.out; rw [BW, List.take_length] at this; exact this)
  have Bq : Hid (∀ κ, (lR k fs (GL T n k) κ).length ≤ 50000) := hide fun κ => by
   rw [ki]; refine Nat.le_trans kU ?_; have := qn (T := T) (n := n) (k := k) κ; rw [List.length_map]; omega
  have BE := HQ.out.get (i := 0) (v := .int .i64 x.kind) rfl
  clear Bx
  by_cases hk1 : x.kind = 1
  ·have Ay : ¬ x.kind = 3 := by omega
   have AT := hide hk1
   have Bs : (x.kind == 1) = true := by simpa using hk1
   go_upto_region 11 with fail
   clear BE Bs
   have Ar := (Below.refl wr.heap.size wr).drew
   have HId := hide (HI.out.go Ar)
   have HBd := hide (HB.out.trans (Ar.mono HB.out.size))
   have HQd := hide (HQ.out.keep (Ar.block _ HQ.out.lt))
   obtain ⟨wd, Ax⟩ : ∃ wd, wr.drew = wd := ⟨_, rfl⟩
   rw [Ax] at HId HBd HQd
   obtain ⟨l0, Ah, Ai, Aj, Af, w2, w3, V3, Bk, AO, Bo, AG, Ap, Aq, Az, AK, AJ⟩ := HId.out.app HBd.out.size (d := 0) (by omega) (show hm < n from Al) k (Nat.le_trans (Bq.out _) (by omega))
   replace Aq : w2.setCell ⟨g0, hm, none⟩ (.slice (some ⟨Aj, 0, none⟩) (l0.length + 1) Af) = w3 := Aq
   have Aw : Fx g0 26 (eq _ 0 n) wd := HId.out.rw 0 (by omega)
   have AM := (gl Al).trans (congrArg some AO)
   have AF := hide AG
   have AQ := hide Aq
   have AW := hide AK
   have AY := hide (HBd.out.trans AJ)
   have AZ := hide (Az _ _ _ HQd.out (by decide) (by decide))
   have kb : ∀ {g t : Nat} {xs : List Value} {j : Nat} {v : Value}, Fx g t xs wd → t ≠ 3 → xs[j]? = some v → ∀ X, X = wd ∨ X = wd.alloc (.cells #[.int .i64 k] 3) ∨ X = w2 → X.cell? ⟨g, j, none⟩ = some v := fun hf ht hj X hX => by
    rcases hX with rfl | rfl | rfl
    ·exact hf.get hj
    ·exact ar (hf.get hj) (ae _ _)
    exact (Ap _ _ _ hf ht).get hj
   have LH := hide (kb (j := 4) (v := ay g0 n) HId.out.bx (by decide) rfl)
   have LQ := hide (kb (j := 1) (v := .int .i64 hm) HQd.out (by decide) rfl)
   have LR := hide (kb (v := .slice Ah l0.length Ai) Aw (by decide) AM)
   have q1 : w2.cell? ⟨g0, hm, none⟩ = some (.slice Ah l0.length Ai) := LR.out w2 (.inr (.inr rfl))
   have q2 : w2.frozen? ⟨g0, hm, none⟩ = false := (Ap _ _ _ Aw (by decide)).frz hm
   have Ad : Hid (fQ ([some (60, aa q), some (61, aa q), some (62, .pointer (some ⟨q, 4, none⟩)), some (63, ay g0 n), some (64, .pointer (some ⟨qr, 1, none⟩)), some (65, .int .i64 hm), some (66, aa q), some (67, aa q), some (68, .pointer (some ⟨q, 4, none⟩)), some (69, ay g0 n), some (70, .pointer (some ⟨qr, 1, none⟩)), some (71, .int .i64 hm), some (72, .pointer (some ⟨g0, hm, none⟩)), some (73, .slice Ah l0.length Ai), some (74, .int .i64 k), some (75, .slice (some ⟨wd.heap.size, 0, none⟩) 1 1), some (76, .slice (some ⟨Aj, 0, none⟩) (l0.length + 1) Af), some (77, .pointer (some ⟨g0, hm, none⟩)), none].map fun p : Option (Nat × Value) => p.map Prod.fst) [(3, aa q), (4, .int .i64 k), (5, aa qr)] = true) := hide rfl
   clear Aw AM HI HB HQ AK AJ AG Aq Ap Az Bo Bk AO Ar kb HQd
   refine bW fY (Jt [some (60, aa q), some (61, aa q), some (62, .pointer (some ⟨q, 4, none⟩)), some (63, ay g0 n), some (64, .pointer (some ⟨qr, 1, none⟩)), some (65, .int .i64 hm), some (66, aa q), some (67, aa q), some (68, .pointer (some ⟨q, 4, none⟩)), some (69, ay g0 n), some (70, .pointer (some ⟨qr, 1, none⟩)), some (71, .int .i64 hm), some (72, .pointer (some ⟨g0, hm, none⟩)), some (73, .slice Ah l0.length Ai), some (74, .int .i64 k), some (75, .slice (some ⟨wd.heap.size, 0, none⟩) 1 1), some (76, .slice (some ⟨Aj, 0, none⟩) (l0.length + 1) Af), some (77, .pointer (some ⟨g0, hm, none⟩)), none] [(3, aa q), (4, .int .i64 k), (5, aa qr)] (fG 15 16 18 wd (wd.alloc (.cells #[.int .i64 k] 3)) w2 w3)) (by kernel_rfl) (by kernel_rfl) ?_ (ci ⟨?_, ?_, ?_, ?_, ?_, ?_, ?_, ?_, ?_, ?_, ?_, ?_, ?_, ?_, ?_, ?_, ?_, ?_, ?_, trivial⟩) ?_ ?_
   ·exact ⟨fun p hp => by simp at hp; rcases hp with rfl | rfl | rfl <;> rfl, fun i d v _ hL => (by cases hL), Ax⟩
   ·intro ρ X L hc hf hL hd Aa hJ
    have k3 : ρ (.tmp 3) = aa q := hJ.base (3, aa q) (by simp)
    refine ac (v := aa q) (w' := X) ?_ (hJ.put Ad.out rfl (by rw [ap (by decide) (by decide) (by decide)]; exact hJ.wd))
    clear hd Aa hJ hL
    go_simp
   ·intro ρ X L hc hf hL hd Aa hJ
    have CY := hJ.vals 0 60 (aa q) rfl (hd ⟨0, .data⟩ (by simp) rfl)
    refine ac (v := aa q) (w' := X) ?_ (hJ.put Ad.out rfl (by rw [ap (by decide) (by decide) (by decide)]; exact hJ.wd))
    clear hd Aa hJ hL
    go_simp
   ·intro ρ X L hc hf hL hd Aa hJ
    have Db := hJ.vals 1 61 (aa q) rfl (hd ⟨1, .data⟩ (by simp) rfl)
    refine ac (v := .pointer (some ⟨q, 4, none⟩)) (w' := X) ?_ (hJ.put Ad.out rfl (by rw [ap (by decide) (by decide) (by decide)]; exact hJ.wd))
    clear hd Aa hJ hL
    go_simp
   ·intro ρ X L hc hf hL hd Aa hJ
    have Cx := hJ.vals 2 62 (.pointer (some ⟨q, 4, none⟩)) rfl (hd ⟨2, .data⟩ (by simp) rfl)
    have Ac : L 18 = false := ak (by kernel_rfl) Aa (k := 3) (by simp) hL
    have hx := LH.out X (aZ hJ.wd Ac)
    clear Ac
    refine ac (v := ay g0 n) (w' := X) ?_ (hJ.put Ad.out rfl (by rw [ap (by decide) (by decide) (by decide)]; exact hJ.wd))
    clear hd Aa hJ hL
    go_simp
   ·intro ρ X L hc hf hL hd Aa hJ
    have k5 : ρ (.tmp 5) = aa qr := hJ.base (5, aa qr) (by simp)
    refine ac (v := .pointer (some ⟨qr, 1, none⟩)) (w' := X) ?_ (hJ.put Ad.out rfl (by rw [ap (by decide) (by decide) (by decide)]; exact hJ.wd))
    clear hd Aa hJ hL
    go_simp
   ·intro ρ X L hc hf hL hd Aa hJ
    have CZ := hJ.vals 4 64 (.pointer (some ⟨qr, 1, none⟩)) rfl (hd ⟨4, .data⟩ (by simp) rfl)
    have Ac : L 18 = false := ak (by kernel_rfl) Aa (k := 5) (by simp) hL
    have hx := LQ.out X (aZ hJ.wd Ac)
    clear Ac
    refine ac (v := .int .i64 hm) (w' := X) ?_ (hJ.put Ad.out rfl (by rw [ap (by decide) (by decide) (by decide)]; exact hJ.wd))
    clear hd Aa hJ hL
    go_simp
   ·intro ρ X L hc hf hL hd Aa hJ
    have k3 : ρ (.tmp 3) = aa q := hJ.base (3, aa q) (by simp)
    refine ac (v := aa q) (w' := X) ?_ (hJ.put Ad.out rfl (by rw [ap (by decide) (by decide) (by decide)]; exact hJ.wd))
    clear hd Aa hJ hL
    go_simp
   ·intro ρ X L hc hf hL hd Aa hJ
    have CI := hJ.vals 6 66 (aa q) rfl (hd ⟨6, .data⟩ (by simp) rfl)
    refine ac (v := aa q) (w' := X) ?_ (hJ.put Ad.out rfl (by rw [ap (by decide) (by decide) (by decide)]; exact hJ.wd))
    clear hd Aa hJ hL
    go_simp
   ·intro ρ X L hc hf hL hd Aa hJ
    have Ck := hJ.vals 7 67 (aa q) rfl (hd ⟨7, .data⟩ (by simp) rfl)
    refine ac (v := .pointer (some ⟨q, 4, none⟩)) (w' := X) ?_ (hJ.put Ad.out rfl (by rw [ap (by decide) (by decide) (by decide)]; exact hJ.wd))
    clear hd Aa hJ hL
    go_simp
   ·intro ρ X L hc hf hL hd Aa hJ
    have Cl := hJ.vals 8 68 (.pointer (some ⟨q, 4, none⟩)) rfl (hd ⟨8, .data⟩ (by simp) rfl)
    have Ac : L 18 = false := ak (by kernel_rfl) Aa (k := 9) (by simp) hL
    have hx := LH.out X (aZ hJ.wd Ac)
    clear Ac
    refine ac (v := ay g0 n) (w' := X) ?_ (hJ.put Ad.out rfl (by rw [ap (by decide) (by decide) (by decide)]; exact hJ.wd))
    clear hd Aa hJ hL
    go_simp
   ·intro ρ X L hc hf hL hd Aa hJ
    have k5 : ρ (.tmp 5) = aa qr := hJ.base (5, aa qr) (by simp)
    refine ac (v := .pointer (some ⟨qr, 1, none⟩)) (w' := X) ?_ (hJ.put Ad.out rfl (by rw [ap (by decide) (by decide) (by decide)]; exact hJ.wd))
    clear hd Aa hJ hL
    go_simp
   ·intro ρ X L hc hf hL hd Aa hJ
    have CA := hJ.vals 10 70 (.pointer (some ⟨qr, 1, none⟩)) rfl (hd ⟨10, .data⟩ (by simp) rfl)
    have Ac : L 18 = false := ak (by kernel_rfl) Aa (k := 11) (by simp) hL
    have hx := LQ.out X (aZ hJ.wd Ac)
    clear Ac
    refine ac (v := .int .i64 hm) (w' := X) ?_ (hJ.put Ad.out rfl (by rw [ap (by decide) (by decide) (by decide)]; exact hJ.wd))
    clear hd Aa hJ hL
    go_simp
   ·intro ρ X L hc hf hL hd Aa hJ
    have CL := hJ.vals 9 69 (ay g0 n) rfl (hd ⟨9, .data⟩ (by simp) rfl)
    have Cq := hJ.vals 11 71 (.int .i64 hm) rfl (hd ⟨11, .data⟩ (by simp) rfl)
    refine ac (v := .pointer (some ⟨g0, hm, none⟩)) (w' := X) ?_ (hJ.put Ad.out rfl (by rw [ap (by decide) (by decide) (by decide)]; exact hJ.wd))
    clear hd Aa hJ hL
    go_simp
   ·intro ρ X L hc hf hL hd Aa hJ
    have Cm := hJ.vals 12 72 (.pointer (some ⟨g0, hm, none⟩)) rfl (hd ⟨12, .data⟩ (by simp) rfl)
    have Ac : L 18 = false := ak (by kernel_rfl) Aa (k := 13) (by simp) hL
    have hx := LR.out X (aZ hJ.wd Ac)
    clear Ac
    refine ac (v := .slice Ah l0.length Ai) (w' := X) ?_ (hJ.put Ad.out rfl (by rw [ap (by decide) (by decide) (by decide)]; exact hJ.wd))
    clear hd Aa hJ hL
    go_simp
   ·intro ρ X L hc hf hL hd Aa hJ
    have k4 : ρ (.tmp 4) = .int .i64 k := hJ.base (4, .int .i64 k) (by simp)
    refine ac (v := .int .i64 k) (w' := X) ?_ (hJ.put Ad.out rfl (by rw [ap (by decide) (by decide) (by decide)]; exact hJ.wd))
    clear hd Aa hJ hL
    go_simp
   ·intro ρ X L hc hf hL hd Aa hJ
    have CG := hJ.vals 14 74 (.int .i64 k) rfl (hd ⟨14, .data⟩ (by simp) rfl)
    have Ak : L 16 = false := by cases e : L 16 with | false => rfl | true => (have := Aa 16 _ rfl e ⟨15, .data⟩ (by simp) rfl; rw [show (⟨15, .data⟩ : Edge).on = 15 from rfl] at this; rw [hL] at this; cases this)
    have Ac : L 18 = false := ak (by kernel_rfl) Aa (k := 15) (by simp) hL
    have hX := hJ.wd.trans (jV hL Ak Ac)
    refine ac (v := .slice (some ⟨wd.heap.size, 0, none⟩) 1 1) (w' := wd.alloc (.cells #[.int .i64 k] 3)) ?_ (hJ.put Ad.out rfl ((eD aF (by rw [al (by decide)]; exact Ak) (by rw [al (by decide)]; exact Ac)).symm))
    subst hX
    clear hd Aa hJ hL Ak Ac
    go_simp
   ·intro ρ X L hc hf hL hd Aa hJ
    have BR := hJ.vals 13 73 (.slice Ah l0.length Ai) rfl (hd ⟨13, .data⟩ (by simp) rfl)
    have Cf := hJ.vals 15 75 (.slice (some ⟨wd.heap.size, 0, none⟩) 1 1) rfl (hd ⟨15, .data⟩ (by simp) rfl)
    have Bl : L 15 = true := hd ⟨15, .data⟩ (by simp) rfl
    have Ac : L 18 = false := ak (by kernel_rfl) Aa (k := 16) (by simp) hL
    have hX := hJ.wd.trans (eD Bl hL Ac)
    refine eM _ _ 26 rfl BR Cf (u := .slice (some ⟨Aj, 0, none⟩) (l0.length + 1) Af) (w' := w2) (by rw [hX]; exact AF.out) (hJ.put Ad.out rfl ((eF aF (by rw [al (by decide)]; exact Ac)).symm))
   ·intro ρ X L hc hf hL hd Aa hJ
    have Cz := hJ.vals 3 63 (ay g0 n) rfl (hd ⟨3, .data⟩ (by simp) rfl)
    have Cr := hJ.vals 5 65 (.int .i64 hm) rfl (hd ⟨5, .data⟩ (by simp) rfl)
    refine ac (v := .pointer (some ⟨g0, hm, none⟩)) (w' := X) ?_ (hJ.put Ad.out rfl (by rw [ap (by decide) (by decide) (by decide)]; exact hJ.wd))
    clear hd Aa hJ hL
    go_simp
   ·intro ρ X L hc hf hL hd Aa hJ
    have Cw := hJ.vals 17 77 (.pointer (some ⟨g0, hm, none⟩)) rfl (hd ⟨17, .data⟩ (by simp) rfl)
    have CN := hJ.vals 16 76 (.slice (some ⟨Aj, 0, none⟩) (l0.length + 1) Af) rfl (hd ⟨16, .data⟩ (by simp) rfl)
    have Ak : L 16 = true := hd ⟨16, .data⟩ (by simp) rfl
    have hX := hJ.wd.trans (eF Ak hL)
    refine bY (w' := w3) ?_ (hJ.last rfl ((eC aF).symm))
    subst hX
    clear hd Aa hJ hL Ak
    rw [← AQ.out]
    go_simp
   ·intro c a' w' _ hE
    exact hE.elim
   rintro ⟨Ab, df⟩ w' Ao Av ⟨Lq, Au, hJ⟩ An
   simp only at Av Ao
   subst Av
   have Bi : w3 = w' := (hJ.wd.trans (eC (Au 18 (by decide)))).symm
   subst Bi
   have Am := dA 60 77 (by kernel_rfl) Ao An
   simp only [zr, Nat.reduceLT, Nat.reduceAdd, true_or, or_true, or_self, if_true, if_false] at Am
   rw [Am]
   clear Am hJ Au An Ao Ad AF AQ LH LR q1 q2 Ax HBd HId LQ
   generalize Ab.getD 60 undef = x60
   generalize Ab.getD 61 undef = x61
   generalize Ab.getD 62 undef = x62
   generalize Ab.getD 63 undef = x63
   generalize Ab.getD 64 undef = x64
   generalize Ab.getD 65 undef = x65
   generalize Ab.getD 66 undef = x66
   generalize Ab.getD 67 undef = x67
   generalize Ab.getD 68 undef = x68
   generalize Ab.getD 69 undef = x69
   generalize Ab.getD 70 undef = x70
   generalize Ab.getD 71 undef = x71
   generalize Ab.getD 72 undef = x72
   generalize Ab.getD 73 undef = x73
   generalize Ab.getD 74 undef = x74
   generalize Ab.getD 75 undef = x75
   generalize Ab.getD 76 undef = x76
   generalize Ab.getD 77 undef = x77
   have HI := hide AW.out
   have HB := hide AY.out
   have BE := AZ.out.get (i := 0) (v := .int .i64 x.kind) rfl
   clear AW AY AZ
   have CJ := hide (pZ HI.out (TR.keep HB.out.block AU.out) HB.out.size BI.out BH.out Al BB AL.out BC.out (fun y hy => (As.out.2.1 k y (by rw [AB.out]; exact hy))) (by have := (As.out.2.2 k).2; rw [AB.out] at this; exact this) (fun κ => Nat.le_trans (jC (L := lR k fs (GL T n k)) (k := (0, hm, 0)) (j := κ) (r := k)) (by have := Bq.out κ; omega)) (by have := AL.out; omega))
   have Bc : Hid (¬ x.kind = 3) := hide Ay
   have Bm : (x.kind != 3) = true := by simpa using Ay
   clear HI
   go_wp2_with (go_at_call 76; refine CJ.out.mono ?_; rintro _ w5 ⟨rfl, V5, AH, AI⟩; have Bb := hide AH; have Bp := hide (HB.out.trans AI); clear AH AI)
   go_roundw
   case rel => exact ⟨k + 1, c + bl.length, V5, by omega, by go_num, by have := (As.out.2.2 k).2; rw [AB.out] at this; omega, hide (by rw [← Bf.out]; unfold mZ; dsimp only; rw [if_pos AT.out, if_neg Bc.out]; exact Bb.out), Bp⟩
   case measure => simp [intOf]; omega
  have AT := hide hk1
  have Bs : (x.kind == 1) = false := by simpa using hk1
  by_cases Ay : x.kind = 3
  ·have Bm : (x.kind != 3) = false := by simpa using Ay
   have BO := hide Ay
   go_wp2_with fail
   go_roundw
   case rel => exact ⟨k + 1, c, V1, by omega, by go_num, by omega, hide (by rw [← Bf.out]; unfold mZ; dsimp only; rw [if_neg AT.out, if_pos BO.out]; exact HI.out), HB⟩
   case measure => simp [intOf]; omega
  skip
  have CJ := hide (pZ HI.out (TR.keep HB.out.block AU.out) HB.out.size BI.out BH.out Al BB AL.out BC.out (fun y hy => (As.out.2.1 k y (by rw [AB.out]; exact hy))) (by have := (As.out.2.2 k).2; rw [AB.out] at this; exact this) (fun κ => Nat.le_trans (Bq.out κ) (by omega)) (by have := AL.out; omega))
  have Bc : Hid (¬ x.kind = 3) := hide Ay
  have Bm : (x.kind != 3) = true := by simpa using Ay
  clear HI
  go_wp2_with (go_at_call 76; refine CJ.out.mono ?_; rintro _ w5 ⟨rfl, V5, AH, AI⟩; have Bb := hide AH; have Bp := hide (HB.out.trans AI); clear AH AI)
  go_roundw
  case rel => exact ⟨k + 1, c + bl.length, V5, by omega, by go_num, by have := (As.out.2.2 k).2; rw [AB.out] at this; omega, hide (by rw [← Bf.out]; unfold mZ; dsimp only; rw [if_neg AT.out, if_neg Bc.out]; exact Bb.out), Bp⟩
  case measure => simp [intOf]; omega
 have BS : k = T.rules.length := by omega
 subst BS
 go_wp2_with fail
 go_ret
 have hs := BV.out
 rw [hs, ← Bw.out] at HI
 exact ⟨_, _, _, _, _, V, c, rfl, HI.out, BT.out.trans (HB.out.mono (by rw [hs]; rw [← Bw.out]; omega))⟩
end Go.Proofs.YtmlhcncagdfjfaaGreat.De
