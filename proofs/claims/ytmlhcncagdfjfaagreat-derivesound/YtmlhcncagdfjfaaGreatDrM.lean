import Derived.Test.YtmlhcncagdfjfaaGreatDrI
import Derived.Test.YtmlhcncagdfjfaaGreatDr2
import Derived.Carry
set_option maxRecDepth 100000
set_option maxHeartbeats 12800000
namespace Go.Proofs.YtmlhcncagdfjfaaGreat.De
open Go.RowKit Fa Rg Go.WideMaps Go.WideElems Go.MapKept
def ga (_ : List PanicEntry) (_ : World) : Prop := False
def be (L : aN → List Int) (k : aN) (r : Nat) : aN → List Int := fu L k (L k ++ [(r : Int)])
def iZ (r hm : Nat) (bs : List Int) (L : aN → List Int) : aN → List Int := bs.foldl (fun L s => be L (3, s.toNat, hm) r) L
theorem li {L : aN → List Int} {k j : aN} {r : Nat} : (be L k r j).length ≤ (L j).length + 1 := by
 unfold be
 by_cases e : j = k
 · subst e; rw [updK_at]; simp
 · rw [dA e]; omega
theorem wI {r hm : Nat} {bs : List Int} {s : Int} {L : aN → List Int} : iZ r hm (bs ++ [s]) L = be (iZ r hm bs L) (3, s.toNat, hm) r := by unfold iZ; rw [List.foldl_append]; rfl
theorem rn {r hm : Nat} {k : aN} : ∀ {bs : List Int} {L : aN → List Int}, (iZ r hm bs L k).length ≤ (L k).length + bs.length
 | [], L => by simp [iZ]
 | s :: bs, L => by
  have h1 := rn (r := r) (hm := hm) (k := k) (bs := bs) (L := be L (3, s.toNat, hm) r)
  have h2 := li (L := L) (k := (3, s.toNat, hm)) (j := k) (r := r)
  show (iZ r hm bs (be L (3, s.toNat, hm) r) k).length ≤ _
  simp only [List.length_cons]
  omega
section
variable {w : World} {base c r hm q n g0 g1 g2 mb : Nat} {fa ra ba : Option Addr} {fc rc bc : Nat} {T : Th} {L : aN → List Int} {V : aN → Value} {x : RuleM}
theorem rm (h : Ixs base ⟨q, n, fa, fc, ra, rc, ba, bc, g0, g1, g2, mb⟩ T L V c w) (hT : TA base w T fa fc ra rc ba bc) (hb : base ≤ w.heap.size) (hr : T.rules[r]? = some x) (hh : x.head = (hm : Int)) (hm_ : hm < n) (hn : n ≤ 4096) (hrl : T.rules.length ≤ 4096)
    {bl : List Int} (hbl : T.beats[r]? = some bl) (hrow : ∀ y ∈ bl, 0 ≤ y ∧ y < (T.rules.length : Int)) (hlb : bl.length ≤ 4096) (hL : ∀ k, (L k).length ≤ 100000) (hc : c + 4096 < 1000000000) :
    Calls Tryz.prog 76 #[aa q, .int .i64 r] w fun e w' => e = .returned (.tuple #[]) ∧ ∃ V', Ixs base ⟨q, n, fa, fc, ra, rc, ba, bc, g0, g1, g2, mb⟩ T (iZ r hm bl (be L (1, hm, 0) r)) V' (c + bl.length) w' ∧ Below base w w' := by
 have b2 := h.bx.get (i := 2) (v := .slice ra T.rules.length rc) rfl
 have b5 := h.bx.get (i := 5) (v := aE g1 n) rfl
 obtain ⟨gr, go, bd, bp, rfl, Bn, -, x1, -⟩ := dG hT.rules hr
 rw [hh] at x1
 have BM : r < T.rules.length := (List.getElem?_eq_some_iff.1 hr).1
 obtain ⟨gb, ob, a2, c2, rfl, Bh, y0, -, -, AI⟩ := ci hT.beats hbl
 have BE : r < T.beats.length := (List.getElem?_eq_some_iff.1 hbl).1
 have HI := hide h
 have HB : Hid (Below base w w) := hide (Below.refl _ _)
 have Ar := hide hb
 have AU := hide hL
 have HC := hide hc
 have HY := hide y0
 have Bq := hide AI
 have Bi := hide hrow
 clear h hT hb hL hr hh Bn hc hbl y0 AI hrow
 go_enter Tryz.func76, Tryz.ntmps76
 go_upto_region 1 with fail
 clear x1 b2 b5
 have Ak := (Below.refl w.heap.size w).drew
 have HId := hide (HI.out.go Ak)
 have HBd := hide (HB.out.trans (Ak.mono (Nat.le_trans Ar.out HB.out.size)))
 obtain ⟨wd, Ao⟩ : ∃ wd, w.drew = wd := ⟨_, rfl⟩
 rw [Ao] at HId HBd
 obtain ⟨l0, Ae, Af, Aj, Ah, w2, w3, V3, AF, AQ, AC, Ap, Av, Ax, Bf, AR, AM⟩ := HId.out.app (Nat.le_trans Ar.out HBd.out.size) (d := 1) (by omega) (show hm < n from hm_) r (Nat.le_trans (AU.out _) (by omega))
 replace AC : wd.cell? ⟨g1, hm, none⟩ = some (.slice Ae l0.length Af) := AC
 replace Ax : w2.setCell ⟨g1, hm, none⟩ (.slice (some ⟨Aj, 0, none⟩) (l0.length + 1) Ah) = w3 := Ax
 have As := hide Ap
 have AZ := hide Ax
 have Be := hide AR
 have AN := hide (HBd.out.trans AM)
 have kb : ∀ {g t : Nat} {xs : List Value} {j : Nat} {v : Value}, Fx g t xs wd → t ≠ 3 → xs[j]? = some v → ∀ X, X = wd ∨ X = wd.alloc (.cells #[.int .i64 r] 3) ∨ X = w2 → X.cell? ⟨g, j, none⟩ = some v := fun hf ht hj X hX => by
  rcases hX with rfl | rfl | rfl
  · exact hf.get hj
  · exact ar (hf.get hj) (ac _ _)
  · exact (Av _ _ _ hf ht).get hj
 have LH := hide (kb (j := 5) (v := aE g1 n) HId.out.bx (by decide) rfl)
 have AA : Fx g1 26 (ft V 1 n) wd := HId.out.rw 1 (by omega)
 have LR := hide (kb (v := .slice Ae l0.length Af) AA (by decide) ((ig hm_).trans (congrArg some AQ)))
 have q1 : w2.cell? ⟨g1, hm, none⟩ = some (.slice Ae l0.length Af) := LR.out w2 (.inr (.inr rfl))
 have q2 : w2.frozen? ⟨g1, hm, none⟩ = false := (Av _ _ _ AA (by decide)).frz hm
 have Ab : Hid (gi ([some (17, aa q), some (18, aa q), some (19, .pointer (some ⟨q, 5, none⟩)), some (20, aE g1 n), some (21, .int .i64 hm), some (22, aa q), some (23, aa q), some (24, .pointer (some ⟨q, 5, none⟩)), some (25, aE g1 n), some (26, .int .i64 hm), some (27, .pointer (some ⟨g1, hm, none⟩)), some (28, .slice Ae l0.length Af), some (29, .int .i64 r), some (30, .slice (some ⟨wd.heap.size, 0, none⟩) 1 1), some (31, .slice (some ⟨Aj, 0, none⟩) (l0.length + 1) Ah), some (32, .pointer (some ⟨g1, hm, none⟩)), none].map fun p : Option (Nat × Value) => p.map Prod.fst) [(0, aa q), (1, .int .i64 r), (4, .int .i64 hm)] = true) := hide rfl
 have Bm : Hid (gY .any (Array.mk []) = gY .any (Array.mk [])) := hide rfl
 clear AA HI HB AR AM Ap Ax Av Bf AC AF AQ Ak kb
 refine bZ ga (Jt [some (17, aa q), some (18, aa q), some (19, .pointer (some ⟨q, 5, none⟩)), some (20, aE g1 n), some (21, .int .i64 hm), some (22, aa q), some (23, aa q), some (24, .pointer (some ⟨q, 5, none⟩)), some (25, aE g1 n), some (26, .int .i64 hm), some (27, .pointer (some ⟨g1, hm, none⟩)), some (28, .slice Ae l0.length Af), some (29, .int .i64 r), some (30, .slice (some ⟨wd.heap.size, 0, none⟩) 1 1), some (31, .slice (some ⟨Aj, 0, none⟩) (l0.length + 1) Ah), some (32, .pointer (some ⟨g1, hm, none⟩)), none] [(0, aa q), (1, .int .i64 r), (4, .int .i64 hm)] (gh 13 14 16 wd (wd.alloc (.cells #[.int .i64 r] 3)) w2 w3)) (by kernel_rfl) (by kernel_rfl) ?_ (cC ⟨?_, ?_, ?_, ?_, ?_, ?_, ?_, ?_, ?_, ?_, ?_, ?_, ?_, ?_, ?_, ?_, ?_, trivial⟩) ?_ ?_
 · exact ⟨fun p hp => by simp at hp; rcases hp with rfl | rfl | rfl <;> rfl, fun i d v _ hL => (by cases hL), Ao⟩
 · intro ρ X L hc hf hL hd Aa hJ
   have k0 : ρ (.tmp 0) = aa q := hJ.base (0, aa q) (by simp)
   refine ae (v := aa q) (w' := X) ?_ (hJ.put Ab.out rfl (by rw [au (by decide) (by decide) (by decide)]; exact hJ.wd))
   clear hd Aa hJ hL
   go_simp
 · intro ρ X L hc hf hL hd Aa hJ
   have BB : ρ (.tmp 17) = aa q := hJ.vals 0 17 (aa q) rfl (hd ⟨0, .data⟩ (by simp) rfl)
   refine ae (v := aa q) (w' := X) ?_ (hJ.put Ab.out rfl (by rw [au (by decide) (by decide) (by decide)]; exact hJ.wd))
   clear hd Aa hJ hL
   go_simp
 · intro ρ X L hc hf hL hd Aa hJ
   have BS : ρ (.tmp 18) = aa q := hJ.vals 1 18 (aa q) rfl (hd ⟨1, .data⟩ (by simp) rfl)
   refine ae (v := .pointer (some ⟨q, 5, none⟩)) (w' := X) ?_ (hJ.put Ab.out rfl (by rw [au (by decide) (by decide) (by decide)]; exact hJ.wd))
   clear hd Aa hJ hL
   go_simp
 · intro ρ X L hc hf hL hd Aa hJ
   have BF : ρ (.tmp 19) = .pointer (some ⟨q, 5, none⟩) := hJ.vals 2 19 (.pointer (some ⟨q, 5, none⟩)) rfl (hd ⟨2, .data⟩ (by simp) rfl)
   have Ad : L 16 = false := am (by kernel_rfl) Aa (k := 3) (by simp) hL
   have hx := LH.out X (bA hJ.wd Ad)
   clear Ad
   refine ae (v := aE g1 n) (w' := X) ?_ (hJ.put Ab.out rfl (by rw [au (by decide) (by decide) (by decide)]; exact hJ.wd))
   clear hd Aa hJ hL
   go_simp
 · intro ρ X L hc hf hL hd Aa hJ
   have k4 : ρ (.tmp 4) = .int .i64 hm := hJ.base (4, .int .i64 hm) (by simp)
   refine ae (v := .int .i64 hm) (w' := X) ?_ (hJ.put Ab.out rfl (by rw [au (by decide) (by decide) (by decide)]; exact hJ.wd))
   clear hd Aa hJ hL
   go_simp
 · intro ρ X L hc hf hL hd Aa hJ
   have k0 : ρ (.tmp 0) = aa q := hJ.base (0, aa q) (by simp)
   refine ae (v := aa q) (w' := X) ?_ (hJ.put Ab.out rfl (by rw [au (by decide) (by decide) (by decide)]; exact hJ.wd))
   clear hd Aa hJ hL
   go_simp
 · intro ρ X L hc hf hL hd Aa hJ
   have Bx : ρ (.tmp 22) = aa q := hJ.vals 5 22 (aa q) rfl (hd ⟨5, .data⟩ (by simp) rfl)
   refine ae (v := aa q) (w' := X) ?_ (hJ.put Ab.out rfl (by rw [au (by decide) (by decide) (by decide)]; exact hJ.wd))
   clear hd Aa hJ hL
   go_simp
 · intro ρ X L hc hf hL hd Aa hJ
   have BT : ρ (.tmp 23) = aa q := hJ.vals 6 23 (aa q) rfl (hd ⟨6, .data⟩ (by simp) rfl)
   refine ae (v := .pointer (some ⟨q, 5, none⟩)) (w' := X) ?_ (hJ.put Ab.out rfl (by rw [au (by decide) (by decide) (by decide)]; exact hJ.wd))
   clear hd Aa hJ hL
   go_simp
 · intro ρ X L hc hf hL hd Aa hJ
   have Bz : ρ (.tmp 24) = .pointer (some ⟨q, 5, none⟩) := hJ.vals 7 24 (.pointer (some ⟨q, 5, none⟩)) rfl (hd ⟨7, .data⟩ (by simp) rfl)
   have Ad : L 16 = false := am (by kernel_rfl) Aa (k := 8) (by simp) hL
   have hx := LH.out X (bA hJ.wd Ad)
   clear Ad
   refine ae (v := aE g1 n) (w' := X) ?_ (hJ.put Ab.out rfl (by rw [au (by decide) (by decide) (by decide)]; exact hJ.wd))
   clear hd Aa hJ hL
   go_simp
 · intro ρ X L hc hf hL hd Aa hJ
   have k4 : ρ (.tmp 4) = .int .i64 hm := hJ.base (4, .int .i64 hm) (by simp)
   refine ae (v := .int .i64 hm) (w' := X) ?_ (hJ.put Ab.out rfl (by rw [au (by decide) (by decide) (by decide)]; exact hJ.wd))
   clear hd Aa hJ hL
   go_simp
 · intro ρ X L hc hf hL hd Aa hJ
   have BG : ρ (.tmp 25) = aE g1 n := hJ.vals 8 25 (aE g1 n) rfl (hd ⟨8, .data⟩ (by simp) rfl)
   have BC : ρ (.tmp 26) = .int .i64 hm := hJ.vals 9 26 (.int .i64 hm) rfl (hd ⟨9, .data⟩ (by simp) rfl)
   refine ae (v := .pointer (some ⟨g1, hm, none⟩)) (w' := X) ?_ (hJ.put Ab.out rfl (by rw [au (by decide) (by decide) (by decide)]; exact hJ.wd))
   clear hd Aa hJ hL
   go_simp
 · intro ρ X L hc hf hL hd Aa hJ
   have Bv : ρ (.tmp 27) = .pointer (some ⟨g1, hm, none⟩) := hJ.vals 10 27 (.pointer (some ⟨g1, hm, none⟩)) rfl (hd ⟨10, .data⟩ (by simp) rfl)
   have Ad : L 16 = false := am (by kernel_rfl) Aa (k := 11) (by simp) hL
   have hx := LR.out X (bA hJ.wd Ad)
   clear Ad
   refine ae (v := .slice Ae l0.length Af) (w' := X) ?_ (hJ.put Ab.out rfl (by rw [au (by decide) (by decide) (by decide)]; exact hJ.wd))
   clear hd Aa hJ hL
   go_simp
 · intro ρ X L hc hf hL hd Aa hJ
   have k1 : ρ (.tmp 1) = .int .i64 r := hJ.base (1, .int .i64 r) (by simp)
   refine ae (v := .int .i64 r) (w' := X) ?_ (hJ.put Ab.out rfl (by rw [au (by decide) (by decide) (by decide)]; exact hJ.wd))
   clear hd Aa hJ hL
   go_simp
 · intro ρ X L hc hf hL hd Aa hJ
   have BJ : ρ (.tmp 29) = .int .i64 r := hJ.vals 12 29 (.int .i64 r) rfl (hd ⟨12, .data⟩ (by simp) rfl)
   have Ag : L 14 = false := by cases e : L 14 with | false => rfl | true => (have := Aa 14 _ rfl e ⟨13, .data⟩ (by simp) rfl; rw [show (⟨13, .data⟩ : Edge).on = 13 from rfl] at this; rw [hL] at this; cases this)
   have Ad : L 16 = false := am (by kernel_rfl) Aa (k := 13) (by simp) hL
   have hX := hJ.wd.trans (jV hL Ag Ad)
   refine ae (v := .slice (some ⟨wd.heap.size, 0, none⟩) 1 1) (w' := wd.alloc (.cells #[.int .i64 r] 3)) ?_ (hJ.put Ab.out rfl ((eD aL (by rw [an (by decide)]; exact Ag) (by rw [an (by decide)]; exact Ad)).symm))
   subst hX
   clear hd Aa hJ hL Ag Ad
   go_simp
 · intro ρ X L hc hf hL hd Aa hJ
   have Bj : ρ (.tmp 28) = .slice Ae l0.length Af := hJ.vals 11 28 (.slice Ae l0.length Af) rfl (hd ⟨11, .data⟩ (by simp) rfl)
   have Bp : ρ (.tmp 30) = .slice (some ⟨wd.heap.size, 0, none⟩) 1 1 := hJ.vals 13 30 (.slice (some ⟨wd.heap.size, 0, none⟩) 1 1) rfl (hd ⟨13, .data⟩ (by simp) rfl)
   have AG : L 13 = true := hd ⟨13, .data⟩ (by simp) rfl
   have Ad : L 16 = false := am (by kernel_rfl) Aa (k := 14) (by simp) hL
   have hX := hJ.wd.trans (eD AG hL Ad)
   refine eU _ _ 26 rfl Bj Bp (u := .slice (some ⟨Aj, 0, none⟩) (l0.length + 1) Ah) (w' := w2) (by rw [hX]; exact As.out) (hJ.put Ab.out rfl ((eE aL (by rw [an (by decide)]; exact Ad)).symm))
 · intro ρ X L hc hf hL hd Aa hJ
   have BP : ρ (.tmp 20) = aE g1 n := hJ.vals 3 20 (aE g1 n) rfl (hd ⟨3, .data⟩ (by simp) rfl)
   have BH : ρ (.tmp 21) = .int .i64 hm := hJ.vals 4 21 (.int .i64 hm) rfl (hd ⟨4, .data⟩ (by simp) rfl)
   refine ae (v := .pointer (some ⟨g1, hm, none⟩)) (w' := X) ?_ (hJ.put Ab.out rfl (by rw [au (by decide) (by decide) (by decide)]; exact hJ.wd))
   clear hd Aa hJ hL
   go_simp
 · intro ρ X L hc hf hL hd Aa hJ
   have By : ρ (.tmp 32) = .pointer (some ⟨g1, hm, none⟩) := hJ.vals 15 32 (.pointer (some ⟨g1, hm, none⟩)) rfl (hd ⟨15, .data⟩ (by simp) rfl)
   have BL : ρ (.tmp 31) = .slice (some ⟨Aj, 0, none⟩) (l0.length + 1) Ah := hJ.vals 14 31 (.slice (some ⟨Aj, 0, none⟩) (l0.length + 1) Ah) rfl (hd ⟨14, .data⟩ (by simp) rfl)
   have Ag : L 14 = true := hd ⟨14, .data⟩ (by simp) rfl
   have hX := hJ.wd.trans (eE Ag hL)
   refine bV (w' := w3) ?_ (hJ.last rfl ((eB aL).symm))
   subst hX
   clear hd Aa hJ hL Ag
   rw [← AZ.out]
   go_simp
 · intro c a' w' _ hE
   exact hE.elim
 · rintro ⟨Ac, df⟩ w' Al At ⟨Lq, Aq, hJ⟩ Am
   simp only at At Al
   subst At
   have AB : w3 = w' := (hJ.wd.trans (eB (Aq 16 (by decide)))).symm
   subst AB
   have An := dD 17 32 (by kernel_rfl) Al Am
   simp only [zr, Nat.reduceLT, Nat.reduceAdd, true_or, or_true, or_self, if_true, if_false] at An
   rw [An]
   clear An hJ Aq Am Al Ab Bm As AZ LH LR q1 q2 Ao HBd HId
   generalize Ac.getD 17 undef = x17
   generalize Ac.getD 18 undef = x18
   generalize Ac.getD 19 undef = x19
   generalize Ac.getD 20 undef = x20
   generalize Ac.getD 21 undef = x21
   generalize Ac.getD 22 undef = x22
   generalize Ac.getD 23 undef = x23
   generalize Ac.getD 24 undef = x24
   generalize Ac.getD 25 undef = x25
   generalize Ac.getD 26 undef = x26
   generalize Ac.getD 27 undef = x27
   generalize Ac.getD 28 undef = x28
   generalize Ac.getD 29 undef = x29
   generalize Ac.getD 30 undef = x30
   generalize Ac.getD 31 undef = x31
   generalize Ac.getD 32 undef = x32
   have HIs := hide Be.out
   have HBs := hide AN.out
   clear Be AN
   have b3 := HIs.out.bx.get (i := 3) (v := .slice (some ⟨gb, ob, none⟩) T.beats.length bc) rfl
   have y0 : w3.cell? ⟨gb, ob + r, none⟩ = some (.slice a2 bl.length c2) := (World.cell?_of_block (HBs.out.block gb Bh)).trans HY.out
   have AJ : Hid (∀ k, (be L (1, hm, 0) r k).length ≤ 100001) := hide fun k => Nat.le_trans li (Nat.succ_le_succ (AU.out k))
   have HIs : Hid (Ixs base ⟨q, n, fa, fc, some ⟨gr, go, none⟩, rc, some ⟨gb, ob, none⟩, bc, g0, g1, g2, mb⟩ T (be L (1, hm, 0) r) V3 c w3) := HIs
   obtain ⟨L1, Ay⟩ : ∃ L1, be L (1, hm, 0) r = L1 := ⟨_, rfl⟩
   rw [Ay] at AJ HIs
   have Bs := hide Ay
   clear Ay
   go_upto_region 3 with fail
   clear b3 y0
   go_loopw [42] (fun xv wr => ∃ (j : Nat) (V' : aN → Value), j ≤ bl.length ∧ xv = .int .i64 j ∧ Hid (Ixs base ⟨q, n, fa, fc, some ⟨gr, go, none⟩, rc, some ⟨gb, ob, none⟩, bc, g0, g1, g2, mb⟩ T (iZ r hm (bl.take j) L1) V' (c + j) wr) ∧ Hid (Below base w wr)) (fun x _ => bl.length - (intOf x).toNat)
   case atStart => exact ⟨0, V3, by omega, rfl, HIs, HBs⟩
   case round =>
    clear HIs HBs
    obtain ⟨j, V', hj, rfl, HI, HB⟩ := hrel
    by_cases hlt : j < bl.length
    · obtain ⟨s, hs⟩ := ap hlt
      have BK := Bi.out s (List.mem_of_getElem? hs)
      obtain ⟨sn, rfl⟩ : ∃ sn : Nat, s = (sn : Int) := ⟨s.toNat, by omega⟩
      obtain ⟨g5, o5, rfl, Bw, y5⟩ := ku (Bq.out.keep HB.out.block) hs
      have Az := ac wr (.cells #[.int .i64 sn, .int .i64 hm] 85)
      have HIq := hide (HI.out.go Az)
      have HBq := hide (HB.out.trans (Az.mono (Nat.le_trans Ar.out HB.out.size)))
      have HQ : Hid (Fx wr.heap.size 85 [.int .i64 sn, .int .i64 hm] (wr.alloc (.cells #[.int .i64 sn, .int .i64 hm] 85))) := hide (heap_alloc_new wr _)
      clear HI HB Az
      go_upto_region 6 with fail
      clear y5
      generalize wr.alloc (.cells #[.int .i64 sn, .int .i64 hm] 85) = wq at *
      obtain ⟨p, hp⟩ : ∃ p, wr.heap.size = p := ⟨_, rfl⟩
      rw [hp] at HQ ⊢
      clear hp
      have Ak := (Below.refl wq.heap.size wq).drew
      have HId := hide (HIq.out.go Ak)
      have HBd := hide (HBq.out.trans (Ak.mono (Nat.le_trans Ar.out HBq.out.size)))
      have HQd := hide (HQ.out.keep (Ak.block _ HQ.out.lt))
      obtain ⟨wd, Ao⟩ : ∃ wd, wq.drew = wd := ⟨_, rfl⟩
      rw [Ao] at HId HBd HQd
      obtain ⟨l0, Ae, Af, st, Aj, Ah, wm, AD, w3, w4, V4, AF, AP, AH, Au, AX, Ap, Ba, Bb, AY⟩ := HId.out.appE (Nat.le_trans Ar.out HBd.out.size) (s := sn) (q := hm) (by omega) (by omega) (by have := HC.out; omega) r (by have := rn (r := r) (hm := hm) (k := (3, sn, hm)) (bs := bl.take j) (L := L1); have := AJ.out (3, sn, hm); rw [List.length_take] at *; omega)
      obtain ⟨wb, Aw⟩ : ∃ wb, wd.alloc (.cells #[.int .i64 r] 3) = wb := ⟨_, rfl⟩
      rw [Aw] at AH
      obtain ⟨zz, AE⟩ : ∃ zz, wd.heap.size = zz := ⟨_, rfl⟩
      rw [AE] at Au Ap
      have As := hide Ap
      have AT := hide AP
      have AS := hide AH
      have Bd : Hid ((Instr.entryStore 116 (.map (some mb)) (.int .i64 st) (.slice (some ⟨Aj, 0, none⟩) (l0.length + 1) Ah)).run Tryz.prog w3 = .ok () w4) := hide Ba
      have AK := hide AX
      have AO := hide Aw
      have Bc := hide AE
      have AW := hide Au
      have Bt := hide Bb
      have Bk := hide (HBd.out.trans AY)
      have kb : ∀ {g t : Nat} {xs : List Value} {j : Nat} {v : Value}, Fx g t xs wd → xs[j]? = some v → ∀ X, X = wd ∨ X = wb → X.cell? ⟨g, j, none⟩ = some v := fun hf hj X hX => by
       rcases hX with rfl | rfl
       · exact hf.get hj
       · rw [← Aw]; exact ar (hf.get hj) (ac _ _)
      have LQ := hide (kb (j := 7) (v := .map (some mb)) HId.out.bx rfl)
      have AL := hide (kb (j := 0) (v := .int .i64 sn) HQd.out rfl)
      have AV := hide (kb (j := 1) (v := .int .i64 hm) HQd.out rfl)
      have Ab : Hid (gi ([some (49, aa q), some (50, aa q), some (51, .pointer (some ⟨q, 7, none⟩)), some (52, .map (some mb)), some (53, pk sn hm), some (55, .int .i64 r), some (56, .slice (some ⟨zz, 0, none⟩) 1 1), some (57, .tuple #[.slice Ae l0.length Af, goInt st]), some (54, .slice Ae l0.length Af), some (58, .slice (some ⟨Aj, 0, none⟩) (l0.length + 1) Ah), some (59, goInt st), none].map fun p : Option (Nat × Value) => p.map Prod.fst) [(0, aa q), (1, .int .i64 r), (7, aa p)] = true) := hide rfl
      clear HIq HBq HQ HQd HId HBd Bb AY Ap AP AH Ba AX Aw AE Au AF Ak kb
      refine bZ ga (Jt [some (49, aa q), some (50, aa q), some (51, .pointer (some ⟨q, 7, none⟩)), some (52, .map (some mb)), some (53, pk sn hm), some (55, .int .i64 r), some (56, .slice (some ⟨zz, 0, none⟩) 1 1), some (57, .tuple #[.slice Ae l0.length Af, goInt st]), some (54, .slice Ae l0.length Af), some (58, .slice (some ⟨Aj, 0, none⟩) (l0.length + 1) Ah), some (59, goInt st), none] [(0, aa q), (1, .int .i64 r), (7, aa p)] (i6 6 7 9 11 wd wb wm AD w3 w4)) (by kernel_rfl) (by kernel_rfl) ?_ (cC ⟨?_, ?_, ?_, ?_, ?_, ?_, ?_, ?_, ?_, ?_, ?_, ?_, trivial⟩) ?_ ?_
      · exact ⟨fun p hp => by simp at hp; rcases hp with rfl | rfl | rfl <;> rfl, fun i d v _ hL => (by cases hL), Ao⟩
      · intro ρ X L hc hf hL hd Aa hJ
        have k0 : ρ (.tmp 0) = aa q := hJ.base (0, aa q) (by simp)
        refine ae (v := aa q) (w' := X) ?_ (hJ.put Ab.out rfl (by rw [gE (by decide) (by decide) (by decide) (by decide)]; exact hJ.wd))
        clear hd Aa hJ hL
        go_simp
      · intro ρ X L hc hf hL hd Aa hJ
        have BA : ρ (.tmp 49) = aa q := hJ.vals 0 49 (aa q) rfl (hd ⟨0, .data⟩ (by simp) rfl)
        refine ae (v := aa q) (w' := X) ?_ (hJ.put Ab.out rfl (by rw [gE (by decide) (by decide) (by decide) (by decide)]; exact hJ.wd))
        clear hd Aa hJ hL
        go_simp
      · intro ρ X L hc hf hL hd Aa hJ
        have BD : ρ (.tmp 50) = aa q := hJ.vals 1 50 (aa q) rfl (hd ⟨1, .data⟩ (by simp) rfl)
        refine ae (v := .pointer (some ⟨q, 7, none⟩)) (w' := X) ?_ (hJ.put Ab.out rfl (by rw [gE (by decide) (by decide) (by decide) (by decide)]; exact hJ.wd))
        clear hd Aa hJ hL
        go_simp
      · intro ρ X L hc hf hL hd Aa hJ
        have BN : ρ (.tmp 51) = .pointer (some ⟨q, 7, none⟩) := hJ.vals 2 51 (.pointer (some ⟨q, 7, none⟩)) rfl (hd ⟨2, .data⟩ (by simp) rfl)
        have Ai : L 7 = false := by cases e : L 7 with | false => rfl | true => (have := Aa 7 _ rfl e ⟨3, .data⟩ (by simp) rfl; rw [show (⟨3, .data⟩ : Edge).on = 3 from rfl] at this; rw [hL] at this; cases this)
        have hX : X = wd ∨ X = wb := by rw [hJ.wd]; cases e : L 6 with | false => exact .inl (qI Ai e) | true => exact .inr (qH Ai e)
        have hx := LQ.out X hX
        clear hX Ai
        refine ae (v := .map (some mb)) (w' := X) ?_ (hJ.put Ab.out rfl (by rw [gE (by decide) (by decide) (by decide) (by decide)]; exact hJ.wd))
        clear hd Aa hJ hL
        go_simp
      · intro ρ X L hc hf hL hd Aa hJ
        have k7 : ρ (.tmp 7) = aa p := hJ.base (7, aa p) (by simp)
        have Ai : L 7 = false := by cases e : L 7 with | false => rfl | true => (have := Aa 7 _ rfl e ⟨4, .data⟩ (by simp) rfl; rw [show (⟨4, .data⟩ : Edge).on = 4 from rfl] at this; rw [hL] at this; cases this)
        have hX : X = wd ∨ X = wb := by rw [hJ.wd]; cases e : L 6 with | false => exact .inl (qI Ai e) | true => exact .inr (qH Ai e)
        have hx := AL.out X hX
        have hy := AV.out X hX
        clear hX Ai
        refine ae (v := pk sn hm) (w' := X) ?_ (hJ.put Ab.out rfl (by rw [gE (by decide) (by decide) (by decide) (by decide)]; exact hJ.wd))
        clear hd Aa hJ hL
        go_simp
      · intro ρ X L hc hf hL hd Aa hJ
        have k1 : ρ (.tmp 1) = .int .i64 r := hJ.base (1, .int .i64 r) (by simp)
        refine ae (v := .int .i64 r) (w' := X) ?_ (hJ.put Ab.out rfl (by rw [gE (by decide) (by decide) (by decide) (by decide)]; exact hJ.wd))
        clear hd Aa hJ hL
        go_simp
      · intro ρ X L hc hf hL hd Aa hJ
        have BI : ρ (.tmp 55) = .int .i64 r := hJ.vals 5 55 (.int .i64 r) rfl (hd ⟨5, .data⟩ (by simp) rfl)
        have Ag : L 9 = false := by cases e : L 9 with | false => rfl | true => (have := Aa 9 _ rfl e ⟨6, .data⟩ (by simp) rfl; rw [show (⟨6, .data⟩ : Edge).on = 6 from rfl] at this; rw [hL] at this; cases this)
        have Ad : L 11 = false := am (by kernel_rfl) Aa (k := 6) (by simp) hL
        cases e : L 7 with
        | true =>
         have hX := hJ.wd.trans (yR e hL Ag Ad)
         refine ae (v := .slice (some ⟨zz, 0, none⟩) 1 1) (w' := AD) ?_ (hJ.put Ab.out rfl ((qV (by rw [an (by decide)]; exact e) aL (by rw [an (by decide)]; exact Ag) (by rw [an (by decide)]; exact Ad)).symm))
         subst hX
         clear hd Aa hJ hL Ag Ad
         rw [← AK.out, ← AW.out]
         go_simp
        | false =>
         have hX := hJ.wd.trans (qI e hL)
         refine ae (v := .slice (some ⟨zz, 0, none⟩) 1 1) (w' := wb) ?_ (hJ.put Ab.out rfl ((qH (by rw [an (by decide)]; exact e) aL).symm))
         subst hX
         clear hd Aa hJ hL Ag Ad
         rw [← AO.out, ← Bc.out]
         go_simp
      · intro ρ X L hc hf hL hd Aa hJ
        have Bl : ρ (.tmp 52) = .map (some mb) := hJ.vals 3 52 (.map (some mb)) rfl (hd ⟨3, .data⟩ (by simp) rfl)
        have BR : ρ (.tmp 53) = pk sn hm := hJ.vals 4 53 (pk sn hm) rfl (hd ⟨4, .data⟩ (by simp) rfl)
        have Ag : L 9 = false := by cases e : L 9 with | false => rfl | true => (have h8 := Aa 9 _ rfl e ⟨8, .data⟩ (by simp) rfl; have := Aa 8 _ rfl h8 ⟨7, .data⟩ (by simp) rfl; rw [show (⟨7, .data⟩ : Edge).on = 7 from rfl] at this; rw [hL] at this; cases this)
        have Ad : L 11 = false := am (by kernel_rfl) Aa (k := 7) (by simp) hL
        cases e : L 6 with
        | true =>
         have hX := hJ.wd.trans (qH hL e)
         have hE := AS.out
         refine ae (v := .tuple #[.slice Ae l0.length Af, goInt st]) (w' := AD) ?_ (hJ.put Ab.out rfl ((qV aL (by rw [an (by decide)]; exact e) (by rw [an (by decide)]; exact Ag) (by rw [an (by decide)]; exact Ad)).symm))
         subst hX
         clear hd Aa hJ hL Ag Ad
         go_simp
        | false =>
         have hX := hJ.wd.trans (qI hL e)
         have hE := AT.out
         refine ae (v := .tuple #[.slice Ae l0.length Af, goInt st]) (w' := wm) ?_ (hJ.put Ab.out rfl ((yR aL (by rw [an (by decide)]; exact e) (by rw [an (by decide)]; exact Ag) (by rw [an (by decide)]; exact Ad)).symm))
         subst hX
         clear hd Aa hJ hL Ag Ad
         go_simp
      · intro ρ X L hc hf hL hd Aa hJ
        have Bg : ρ (.tmp 57) = .tuple #[.slice Ae l0.length Af, goInt st] := hJ.vals 7 57 (.tuple #[.slice Ae l0.length Af, goInt st]) rfl (hd ⟨7, .data⟩ (by simp) rfl)
        refine ae (v := .slice Ae l0.length Af) (w' := X) ?_ (hJ.put Ab.out rfl (by rw [gE (by decide) (by decide) (by decide) (by decide)]; exact hJ.wd))
        clear hd Aa hJ hL
        go_simp
      · intro ρ X L hc hf hL hd Aa hJ
        have Br : ρ (.tmp 54) = .slice Ae l0.length Af := hJ.vals 8 54 (.slice Ae l0.length Af) rfl (hd ⟨8, .data⟩ (by simp) rfl)
        have Bu : ρ (.tmp 56) = .slice (some ⟨zz, 0, none⟩) 1 1 := hJ.vals 6 56 (.slice (some ⟨zz, 0, none⟩) 1 1) rfl (hd ⟨6, .data⟩ (by simp) rfl)
        have AG : L 6 = true := hd ⟨6, .data⟩ (by simp) rfl
        have Ai : L 7 = true := Aa 8 _ rfl (hd ⟨8, .data⟩ (by simp) rfl) ⟨7, .data⟩ (by simp) rfl
        have Ad : L 11 = false := am (by kernel_rfl) Aa (k := 9) (by simp) hL
        have hX := hJ.wd.trans (qV Ai AG hL Ad)
        refine eU _ _ 26 rfl Br Bu (u := .slice (some ⟨Aj, 0, none⟩) (l0.length + 1) Ah) (w' := w3) (by rw [hX]; exact As.out) (hJ.put Ab.out rfl ((yM (by rw [an (by decide)]; exact Ai) aL (by rw [an (by decide)]; exact Ad)).symm))
      · intro ρ X L hc hf hL hd Aa hJ
        have Bg : ρ (.tmp 57) = .tuple #[.slice Ae l0.length Af, goInt st] := hJ.vals 7 57 (.tuple #[.slice Ae l0.length Af, goInt st]) rfl (hd ⟨7, .data⟩ (by simp) rfl)
        refine ae (v := goInt st) (w' := X) ?_ (hJ.put Ab.out rfl (by rw [gE (by decide) (by decide) (by decide) (by decide)]; exact hJ.wd))
        clear hd Aa hJ hL
        go_simp
      · intro ρ X L hc hf hL hd Aa hJ
        have Bl : ρ (.tmp 52) = .map (some mb) := hJ.vals 3 52 (.map (some mb)) rfl (hd ⟨3, .data⟩ (by simp) rfl)
        have BQ : ρ (.tmp 59) = goInt st := hJ.vals 10 59 (goInt st) rfl (hd ⟨10, .data⟩ (by simp) rfl)
        have BO : ρ (.tmp 58) = .slice (some ⟨Aj, 0, none⟩) (l0.length + 1) Ah := hJ.vals 9 58 (.slice (some ⟨Aj, 0, none⟩) (l0.length + 1) Ah) rfl (hd ⟨9, .data⟩ (by simp) rfl)
        have Ag : L 9 = true := hd ⟨9, .data⟩ (by simp) rfl
        have Ai : L 7 = true := Aa 8 _ rfl (Aa 9 _ rfl Ag ⟨8, .data⟩ (by simp) rfl) ⟨7, .data⟩ (by simp) rfl
        have hX := hJ.wd.trans (yM Ai Ag hL)
        have hE := Bd.out
        refine bV (w' := w4) ?_ (hJ.last rfl ((zc (by rw [an (by decide)]; exact Ai) aL).symm))
        subst hX
        clear hd Aa hJ hL Ag Ai
        go_simp
      · intro c a' w' _ hE
        exact hE.elim
      · rintro ⟨Ac, df⟩ w' Al At ⟨Lq, Aq, hJ⟩ Am
        simp only at At Al
        subst At
        have AB : w4 = w' := (hJ.wd.trans (zc (Aq 7 (by decide)) (Aq 11 (by decide)))).symm
        subst AB
        have An := dD 49 59 (by kernel_rfl) Al Am
        simp only [zr, Nat.reduceLT, Nat.reduceAdd, true_or, or_true, or_self, if_true, if_false] at An
        rw [An]
        clear An hJ Aq Am Al Ab As AT AS Bd AK AO Bc AW LQ AL AV Ao
        generalize Ac.getD 49 undef = x49
        generalize Ac.getD 50 undef = x50
        generalize Ac.getD 51 undef = x51
        generalize Ac.getD 52 undef = x52
        generalize Ac.getD 53 undef = x53
        generalize Ac.getD 54 undef = x54
        generalize Ac.getD 55 undef = x55
        generalize Ac.getD 56 undef = x56
        generalize Ac.getD 57 undef = x57
        generalize Ac.getD 58 undef = x58
        generalize Ac.getD 59 undef = x59
        go_wp2_with fail
        go_roundw
        case rel => exact ⟨j + 1, V4, by omega, by go_num, hide (by rw [bW hs, wI, Int.toNat_natCast]; exact Bt.out), Bk⟩
        case measure => simp [intOf]; omega
    · have Bo : j = bl.length := by omega
      have HI : Hid (Ixs base ⟨q, n, fa, fc, some ⟨gr, go, none⟩, rc, some ⟨gb, ob, none⟩, bc, g0, g1, g2, mb⟩ T (iZ r hm bl L1) V' (c + bl.length) wr) := hide (by have := HI.out; rw [Bo, List.take_length] at this; exact this)
      go_wp2_with fail
      go_end0
      rw [Bs.out]
      exact ⟨rfl, V', HI.out, HB.out⟩
end
end Go.Proofs.YtmlhcncagdfjfaaGreat.De
namespace Go.Proofs.YtmlhcncagdfjfaaGreat.De
open Go.RowKit Fa
def iE (r : Nat) (ks : List aN) (L : aN → List Int) : aN → List Int := ks.foldl (fun L k => be L k r) L
theorem il {r : Nat} {k : aN} : ∀ {ks : List aN} {L : aN → List Int}, ks.Nodup → iE r ks L k = if k ∈ ks then L k ++ [(r : Int)] else L k
 | [], L, _ => by simp [iE]
 | a :: ks, L, h => by
  have hn := List.nodup_cons.1 h
  show iE r ks (be L a r) k = _
  rw [il hn.2]
  by_cases e : k = a
  · subst e
    rw [if_neg hn.1, if_pos (List.mem_cons_self ..)]
    unfold be
    rw [updK_at]
  · have : be L a r k = L k := dA e
    rw [this]
    by_cases e2 : k ∈ ks
    · rw [if_pos e2, if_pos (List.mem_cons_of_mem _ e2)]
    · rw [if_neg e2, if_neg (by simp [e, e2])]
theorem qq {r hm : Nat} : ∀ {bs : List Int} {L : aN → List Int}, iZ r hm bs L = iE r (bs.map fun s => (3, s.toNat, hm)) L
 | [], L => rfl
 | s :: bs, L => by
  show iZ r hm bs (be L (3, s.toNat, hm) r) = _
  rw [qq]; rfl
def ni (r : Nat) (fs : List Int) (L : aN → List Int) : aN → List Int := fs.foldl (fun L f => be L (2, f.toNat, 0) r) L
theorem xw {r : Nat} {fs : List Int} {f : Int} {L : aN → List Int} : ni r (fs ++ [f]) L = be (ni r fs L) (2, f.toNat, 0) r := by unfold ni; rw [List.foldl_append]; rfl
theorem lV {r : Nat} : ∀ {fs : List Int} {L : aN → List Int}, ni r fs L = iE r (fs.map fun f => (2, f.toNat, 0)) L
 | [], L => rfl
 | s :: bs, L => by
  show ni r bs (be L (2, s.toNat, 0) r) = _
  rw [lV]; rfl
theorem mI {r : Nat} {k : aN} : ∀ {ks : List aN} {L : aN → List Int}, (iE r ks L k).length ≤ (L k).length + ks.length
 | [], L => by simp [iE]
 | a :: ks, L => by
  have h1 := mI (r := r) (k := k) (ks := ks) (L := be L a r)
  have h2 := li (L := L) (k := a) (j := k) (r := r)
  show (iE r ks (be L a r) k).length ≤ _
  simp only [List.length_cons]
  omega
def GL (T : Th) (n k : Nat) : aN → List Int := fun κ =>
 if κ.1 = 0 then (if κ.2.2 = 0 ∧ κ.2.1 < n then bG T kS k κ.2.1 else []) else if κ.1 = 1 then (if κ.2.2 = 0 ∧ κ.2.1 < n then bG T kT k κ.2.1 else [])
 else if κ.1 = 2 then (if κ.2.2 = 0 ∧ κ.2.1 < n then gU T k κ.2.1 else []) else if κ.1 = 3 then (if κ.2.2 < n then fU T k κ.2.2 κ.2.1 else []) else []
theorem tz {L : aN → List Int} {a : aN} {r : Nat} : be L a r a = L a ++ [(r : Int)] := updK_at
theorem jE {L : aN → List Int} {a k : aN} {r : Nat} (h : k ≠ a) : be L a r k = L k := dA h
theorem qW {T : Th} {n k : Nat} (κ : aN) : (GL T n k κ).length ≤ k := by
 unfold GL
 have f : ∀ p z, (bG T p k z).length ≤ k := fun p z => bJ
 split
 · split
   · exact f _ _
   · simp
 · split
   · split
     · exact f _ _
     · simp
   · split
     · split
       · exact jp
       · simp
     · split
       · split
         · unfold fU
           exact Nat.le_trans (List.length_filter_le _ _) (f _ _)
         · simp
       · simp
theorem B8 {T : Th} {n : Nat} : GL T n 0 = fun _ => [] := by
 funext κ
 have := qW (T := T) (n := n) (k := 0) κ
 exact List.eq_nil_of_length_eq_zero (by omega)
theorem qa {g : Nat → aN} (hg : ∀ a b, g a = g b → a = b) {l : List Int} (hn : l.Nodup) (h0 : ∀ x ∈ l, 0 ≤ x) : (l.map fun s => g s.toNat).Nodup := by
 rw [List.nodup_iff_pairwise_ne] at hn ⊢
 rw [List.pairwise_map]
 refine hn.imp_of_mem fun ha hb hne e => hne ?_
 have := hg _ _ e
 have h1 := h0 _ ha
 have h2 := h0 _ hb
 omega
theorem tL {g : Nat → aN} (hg : ∀ a b, g a = g b → a = b) {l : List Int} (h0 : ∀ x ∈ l, 0 ≤ x) (i : Nat) : g i ∈ l.map (fun s => g s.toNat) ↔ (i : Int) ∈ l := by
 rw [List.mem_map]
 constructor
 · rintro ⟨s, hs, e⟩
   have := hg _ _ e
   have h1 := h0 _ hs
   have : s = (i : Int) := by omega
   rw [← this]; exact hs
 · intro h
   exact ⟨i, h, by simp⟩
def oy (k hm : Nat) (x : RuleM) (fs bl : List Int) (L : aN → List Int) : aN → List Int :=
 let L1 := ni k fs L
 let L2 := if x.kind = 1 then be L1 (0, hm, 0) k else L1
 if x.kind = 3 then L2 else iZ k hm bl (be L2 (1, hm, 0) k)
theorem zU {T : Th} {n k hm : Nat} {x : RuleM} (hr : T.rules[k]? = some x) (hh : x.head = (hm : Int)) (hm_ : hm < n) (hf0 : ∀ y ∈ row T.foes hm, 0 ≤ y ∧ y < (n : Int)) (hfn : (row T.foes hm).Nodup) (hb0 : ∀ y ∈ row T.beats k, 0 ≤ y) (hbn : (row T.beats k).Nodup) :
    oy k hm x (row T.foes hm) (row T.beats k) (GL T n k) = GL T n (k + 1) := by
 have ka : (((row T.foes hm).map fun f => ((2, f.toNat, 0) : aN))).Nodup := qa (g := fun i => (2, i, 0)) (fun a b e => by simpa using e) hfn fun y hy => (hf0 y hy).1
 have kb : (((row T.beats k).map fun s => ((3, s.toNat, hm) : aN))).Nodup := qa (g := fun i => (3, i, hm)) (fun a b e => by simpa using e) hbn hb0
 have mf : ∀ p z, cq T p z k = (p x && decide (x.head = z)) := fun p z => by unfold cq; rw [hr]
 have ma : ∀ z, nN T z k = decide (z ∈ row T.foes hm) := fun z => by unfold nN; rw [hr, ← hh]
 funext ⟨d, i, j⟩
 unfold oy
 simp only [qq, lV]
 generalize hA : ((row T.foes hm).map fun f => ((2, f.toNat, 0) : aN)) = ks at ka
 generalize hC : ((row T.beats k).map fun s => ((3, s.toNat, hm) : aN)) = cs at kb
 have nA : ∀ d' i' j', d' ≠ 2 → (d', i', j') ∉ ks := fun d' i' j' hd hm => by rw [← hA, List.mem_map] at hm; obtain ⟨y, -, e⟩ := hm; simp only [Prod.mk.injEq] at e; exact hd e.1.symm
 have nC : ∀ d' i' j', d' ≠ 3 → (d', i', j') ∉ cs := fun d' i' j' hd hm => by rw [← hC, List.mem_map] at hm; obtain ⟨y, -, e⟩ := hm; simp only [Prod.mk.injEq] at e; exact hd e.1.symm
 have Ad : ∀ L2 : aN → List Int, d ≠ 1 → d ≠ 3 → (if x.kind = 3 then L2 else iE k cs (be L2 (1, hm, 0) k)) (d, i, j) = L2 (d, i, j) := fun L2 h1 h3 => by
  split
  · rfl
  · rw [il kb, if_neg (nC _ _ _ h3), jE (by simp; omega)]
 have Ac : ∀ L1 : aN → List Int, d ≠ 0 → (if x.kind = 1 then be L1 (0, hm, 0) k else L1) (d, i, j) = L1 (d, i, j) := fun L1 h0 => by
  split
  · exact jE (by simp; omega)
  · rfl
 have Aa : ∀ L0 : aN → List Int, d ≠ 2 → iE k ks L0 (d, i, j) = L0 (d, i, j) := fun L0 h2 => by rw [il ka, if_neg (nA _ _ _ h2)]
 have Ae : ∀ {i : Nat}, x.head = (i : Int) ↔ i = hm := fun {i} => by rw [hh]; omega
 by_cases h0 : d = 0
 · subst h0
   rw [Ad _ (by decide) (by decide)]
   have g : ∀ k', GL T n k' (0, i, j) = if j = 0 ∧ i < n then bG T kS k' i else [] := fun k' => by simp [GL]
   rw [g, dr, mf]
   by_cases hk : x.kind = 1
   · rw [if_pos hk]
     by_cases e : i = hm ∧ j = 0
     · obtain ⟨rfl, rfl⟩ := e
       rw [tz, Aa _ (by decide), g, if_pos ⟨rfl, hm_⟩, if_pos ⟨rfl, hm_⟩, if_pos (by simp [kS, hk, hh])]
     · rw [jE (by simp; omega), Aa _ (by decide), g]
       by_cases e2 : j = 0 ∧ i < n
       · rw [if_pos e2, if_pos e2, if_neg (by simp [Ae]; intro _ e3; exact e ⟨e3, e2.1⟩)]
       · rw [if_neg e2, if_neg e2]
   · rw [if_neg hk, Aa _ (by decide), g, show kS x = false by simp [kS, hk]]
     simp
 by_cases h2 : d = 2
 · subst h2
   rw [Ad _ (by decide) (by decide), Ac _ (by decide), il ka]
   have g : ∀ k', GL T n k' (2, i, j) = if j = 0 ∧ i < n then gU T k' i else [] := fun k' => by simp [GL]
   rw [g, g, yA, ma]
   by_cases ej : j = 0
   · subst ej
     have Ab : ((2, i, 0) : aN) ∈ ks ↔ (i : Int) ∈ row T.foes hm := by rw [← hA]; exact tL (g := fun i => (2, i, 0)) (fun a b e => by simpa using e) (fun y hy => (hf0 y hy).1) i
     by_cases e : (i : Int) ∈ row T.foes hm
     · have := (hf0 _ e).2
       rw [if_pos (Ab.2 e), if_pos ⟨rfl, by omega⟩, if_pos ⟨rfl, by omega⟩, if_pos (by simpa using e)]
     · rw [if_neg fun h => e (Ab.1 h)]
       simp [e]
   · rw [if_neg (show ¬ (j = 0 ∧ i < n) from fun h => ej h.1), if_neg (show ¬ (j = 0 ∧ i < n) from fun h => ej h.1), if_neg]
     rw [← hA, List.mem_map]
     rintro ⟨y, -, e⟩
     simp only [Prod.mk.injEq] at e
     exact ej e.2.2.symm
 by_cases h1 : d = 1
 · subst h1
   have g : ∀ k', GL T n k' (1, i, j) = if j = 0 ∧ i < n then bG T kT k' i else [] := fun k' => by simp [GL]
   rw [g, dr, mf]
   by_cases hk : x.kind = 3
   · rw [if_pos hk, Ac _ (by decide), Aa _ (by decide), g, show kT x = false by simp [kT, hk]]
     simp
   · rw [if_neg hk, il kb, if_neg (nC _ _ _ (by decide))]
     by_cases e : i = hm ∧ j = 0
     · obtain ⟨rfl, rfl⟩ := e
       rw [tz, Ac _ (by decide), Aa _ (by decide), g, if_pos ⟨rfl, hm_⟩, if_pos ⟨rfl, hm_⟩, if_pos (by simp [kT, hk, hh])]
     · rw [jE (by simp; omega), Ac _ (by decide), Aa _ (by decide), g]
       by_cases e2 : j = 0 ∧ i < n
       · rw [if_pos e2, if_pos e2, if_neg (by simp [Ae]; intro _ e3; exact e ⟨e3, e2.1⟩)]
       · rw [if_neg e2, if_neg e2]
 by_cases h3 : d = 3
 · subst h3
   have g : ∀ k', GL T n k' (3, i, j) = if j < n then fU T k' j i else [] := fun k' => by simp [GL]
   rw [g, vO, mf]
   by_cases hk : x.kind = 3
   · rw [if_pos hk, Ac _ (by decide), Aa _ (by decide), g, show kT x = false by simp [kT, hk]]
     simp
   · rw [if_neg hk, il kb, jE (by simp), Ac _ (by decide), Aa _ (by decide), g]
     by_cases ej : j = hm
     · subst ej
       have Ab : ((3, i, j) : aN) ∈ cs ↔ (i : Int) ∈ row T.beats k := by rw [← hC]; exact tL (g := fun i => (3, i, j)) (fun a b e => by simpa using e) hb0 i
       rw [if_pos hm_, if_pos hm_]
       by_cases e : (i : Int) ∈ row T.beats k
       · rw [if_pos (Ab.2 e), if_pos (by simp [kT, hk, hh, beatB, e])]
       · rw [if_neg fun h => e (Ab.1 h), if_neg (by simp [beatB, e])]
     · rw [if_neg, if_neg (show ¬ ((kT x && decide (x.head = (j : Int)) && beatB T k i) = true) by simp [Ae, ej])]
       rw [← hC, List.mem_map]
       rintro ⟨y, -, e⟩
       simp only [Prod.mk.injEq] at e
       exact ej e.2.2.symm
 · have g : ∀ k', GL T n k' (d, i, j) = [] := fun k' => by simp [GL, h0, h1, h2, h3]
   rw [Ad _ h1 h3, Ac _ h0, Aa _ h2, g, g]
end Go.Proofs.YtmlhcncagdfjfaaGreat.De
set_option maxRecDepth 100000
set_option maxHeartbeats 12800000
namespace Go.Proofs.YtmlhcncagdfjfaaGreat.De
open Go.RowKit Fa Rg Go.WideMaps Go.WideElems Go.MapKept
def yN (T : Th) (fa ra ba : Option Addr) (fc rc bc bq n N : Nat) (i : Nat) (v : Value) (W : World) (lo hi : Nat) : Prop := match i with
 | 0 => v = .agg #[.int .i64 T.lits, .slice fa T.foes.length fc, .slice ra T.rules.length rc, .slice ba T.beats.length bc]
 | 1 | 4 | 7 => v = aa bq
 | 2 | 5 | 8 => v = .int .i64 T.lits
 | 3 | 6 | 9 => ∃ g, v = aE g n ∧ Fx g 26 (List.replicate n (.slice none 0 0)) W ∧ lo ≤ g ∧ g < hi ∧ N ≤ g
 | 10 => ∃ g, v = .map (some g) ∧ W.heap[g]? = some (.map #[] 0) ∧ N ≤ g
 | 11 => ∃ g0 g1 g2 mb, v = .agg #[.int .i64 T.lits, .slice fa T.foes.length fc, .slice ra T.rules.length rc, .slice ba T.beats.length bc, aE g0 n, aE g1 n, aE g2 n, .map (some mb)] ∧ Fx g0 26 (List.replicate n (.slice none 0 0)) W ∧ Fx g1 26 (List.replicate n (.slice none 0 0)) W ∧ Fx g2 26 (List.replicate n (.slice none 0 0)) W ∧ W.heap[mb]? = some (.map #[] 0) ∧ (N ≤ g0 ∧ N ≤ g1 ∧ N ≤ g2 ∧ N ≤ mb) ∧ g0 ≠ g1 ∧ g0 ≠ g2 ∧ g1 ≠ g2
 | 12 | 13 => ∃ q g0 g1 g2 mb, v = aa q ∧ Fx q 118 [.int .i64 T.lits, .slice fa T.foes.length fc, .slice ra T.rules.length rc, .slice ba T.beats.length bc, aE g0 n, aE g1 n, aE g2 n, .map (some mb)] W ∧ N ≤ q ∧ Fx g0 26 (List.replicate n (.slice none 0 0)) W ∧ Fx g1 26 (List.replicate n (.slice none 0 0)) W ∧ Fx g2 26 (List.replicate n (.slice none 0 0)) W ∧ W.heap[mb]? = some (.map #[] 0) ∧ (N ≤ g0 ∧ N ≤ g1 ∧ N ≤ g2 ∧ N ≤ mb) ∧ g0 ≠ g1 ∧ g0 ≠ g2 ∧ g1 ≠ g2
 | _ => True
theorem eo {T : Th} {fa ra ba : Option Addr} {fc rc bc bq n N : Nat} : ∀ i v W W' lo hi, yN T fa ra ba fc rc bc bq n N i v W lo hi → hi ≤ W.heap.size → Below W.heap.size W W' → yN T fa ra ba fc rc bc bq n N i v W' lo hi := by
 intro i v W W' lo hi h hh hb
 have k : ∀ {g t : Nat} {xs : List Value}, Fx g t xs W → Fx g t xs W' := fun hf => hf.keep (hb.block _ hf.lt)
 have km : ∀ {g : Nat} {o : Obj}, W.heap[g]? = some o → W'.heap[g]? = some o := fun hf => (hb.block _ (Array.getElem?_eq_some_iff.1 hf).1).trans hf
 unfold yN at *
 split at h
 all_goals first
  | exact h
  | (obtain ⟨g, a, b, c⟩ := h; first | exact ⟨g, a, k b, c⟩ | exact ⟨g, a, km b, c⟩)
  | (obtain ⟨g0, g1, g2, g3, a, b, c, d, e, f⟩ := h; exact ⟨g0, g1, g2, g3, a, k b, k c, k d, km e, f⟩)
  | (obtain ⟨q, g0, g1, g2, g3, a, x, y, b, c, d, e, f⟩ := h; exact ⟨q, g0, g1, g2, g3, a, k x, y, k b, k c, k d, km e, f⟩)
  | trivial
theorem vm {N q n fc rc bc g0 g1 g2 mb : Nat} {fa ra ba : Option Addr} {T : Th} {W : World} (hq : Fx q 118 [.int .i64 T.lits, .slice fa T.foes.length fc, .slice ra T.rules.length rc, .slice ba T.beats.length bc, aE g0 n, aE g1 n, aE g2 n, .map (some mb)] W) (hN : N ≤ q) (h : Fx g0 26 (List.replicate n (.slice none 0 0)) W ∧ Fx g1 26 (List.replicate n (.slice none 0 0)) W ∧ Fx g2 26 (List.replicate n (.slice none 0 0)) W ∧ W.heap[mb]? = some (.map #[] 0) ∧ (N ≤ g0 ∧ N ≤ g1 ∧ N ≤ g2 ∧ N ≤ mb) ∧ g0 ≠ g1 ∧ g0 ≠ g2 ∧ g1 ≠ g2) :
    Ixs N ⟨q, n, fa, fc, ra, rc, ba, bc, g0, g1, g2, mb⟩ T (fun _ => []) (fun _ => .slice none 0 0) 0 W := by
 obtain ⟨f0, f1, f2, hm, ⟨n0, n1, n2, n3⟩, d1, d2, d3⟩ := h
 have three : ∀ {P : Nat → Prop}, P 0 → P 1 → P 2 → ∀ c, c < 3 → P c := fun a b d c hc => by
  rcases (show c = 0 ∨ c = 1 ∨ c = 2 by omega) with rfl | rfl | rfl
  · exact a
  · exact b
  · exact d
 have rv : ∀ d, ft (fun _ => .slice none 0 0) d n = (List.replicate n (.slice none 0 0)) := fun d => by unfold ft; simp [List.map_const']
 refine ⟨hq, fun d hd => ?_, ⟨#[], 0, hm, Fz⟩, ⟨fun k => ⟨rfl, .inl ⟨rfl, rfl⟩⟩, fun j k g e => by simp [Value.ownBlock] at e⟩, ⟨hN, n3, three n0 n1 n2⟩, ?_⟩
 · rw [rv]
   exact three (P := fun d => Fx (gK ⟨q, n, fa, fc, ra, rc, ba, bc, g0, g1, g2, mb⟩ d) 26 (List.replicate n (.slice none 0 0)) W) f0 f1 f2 d hd
 · intro c d hc Ab Aa
   rcases (show c = 0 ∨ c = 1 ∨ c = 2 by omega) with rfl | rfl | rfl <;> rcases (show d = 0 ∨ d = 1 ∨ d = 2 by omega) with rfl | rfl | rfl <;> first | exact absurd rfl Aa | exact d1 | exact d2 | exact d3 | exact Ne.symm d1 | exact Ne.symm d2 | exact Ne.symm d3
theorem jt {w : World} {T : Th} {n : Nat} {fa ra ba : Option Addr} {fc rc bc : Nat} (h : TA w.heap.size w T fa fc ra rc ba bc) (hW : Wt T n) (hbl : T.beats.length = T.rules.length) (hbr : ∀ k : Nat, ∀ y ∈ row T.beats k, 0 ≤ y ∧ y < (T.rules.length : Int)) (hbn : ∀ k : Nat, (row T.beats k).Nodup ∧ (row T.beats k).length ≤ 4096) :
    Calls Tryz.prog 39 #[tv T fa fc ra rc ba bc] w fun e w' => ∃ q g0 g1 g2 mb V c, e = .returned (aa q) ∧ Ixs (w.heap.size + 1) ⟨q, n, fa, fc, ra, rc, ba, bc, g0, g1, g2, mb⟩ T (GL T n T.rules.length) V c w' ∧ Below w.heap.size w w' := by
 obtain ⟨iL, Cf, Cg, BO, BM⟩ := info_parts mT
 have BD := hW.n4
 have AS : ∀ W, (Instr.makeSlice 22 (.int .i64 T.lits) (.int .i64 T.lits)).run Tryz.prog W = .ok (aE W.heap.size n) (W.alloc (.cells (Array.replicate n (.slice none 0 0)) 26)) := fun W => by rw [hW.ln]; exact aI (P := Tryz.prog) Tryz.underlying22 Cf Cg BO rfl n (by rw [BM]; omega) (by unfold maxLen; omega) W
 have BR := @run_makeMap Tryz.prog
 have hB := ac w (.cells #[.int .i64 T.lits, .slice fa T.foes.length fc, .slice ra T.rules.length rc, .slice ba T.beats.length bc] 25)
 have BE : Fx w.heap.size 25 [.int .i64 T.lits, .slice fa T.foes.length fc, .slice ra T.rules.length rc, .slice ba T.beats.length bc] (w.alloc (.cells #[.int .i64 T.lits, .slice fa T.foes.length fc, .slice ra T.rules.length rc, .slice ba T.beats.length bc] 25)) := heap_alloc_new w _
 have AT := hide (TR.go hB h)
 have HW := hide hW
 have Ar := hide (And.intro hbl (And.intro hbr hbn))
 have Cb := hide hB
 have As := hide BE
 clear h hW hbl hbr hbn hB
 go_enter Tryz.func39, Tryz.ntmps39
 go_upto_region 1 with fail
 clear BE
 have AR : (w.alloc (.cells #[.int .i64 T.lits, .slice fa T.foes.length fc, .slice ra T.rules.length rc, .slice ba T.beats.length bc] 25)).heap.size = w.heap.size + 1 := by simp
 generalize w.alloc (.cells #[.int .i64 T.lits, .slice fa T.foes.length fc, .slice ra T.rules.length rc, .slice ba T.beats.length bc] 25) = W at *
 obtain ⟨bq, Bm⟩ : ∃ bq, w.heap.size = bq := ⟨_, rfl⟩
 have Bw := hide Bm
 rw [Bm] at As AR ⊢
 have BW := hide AR
 clear Bm AR
 have HDr := hide ((Below.refl W.heap.size W).drew)
 obtain ⟨W0, Bs⟩ : ∃ W0, W.drew = W0 := ⟨_, rfl⟩
 have HX1d := hide (As.out.keep (HDr.out.block _ As.out.lt))
 have Ae : Hid (gi [some 8, some 9, some 10, some 11, some 12, some 13, some 14, some 15, some 16, some 17, some 18, some 19, some 20, some 3] [(1, aa bq)] = true) := hide rfl
 rw [Bs] at HX1d HDr
 have Ag : Hid (∀ X, Below W0.heap.size W0 X → X.cell? ⟨bq, 0, none⟩ = some (.int .i64 T.lits) ∧ X.cell? ⟨bq, 1, none⟩ = some (.slice fa T.foes.length fc) ∧ X.cell? ⟨bq, 2, none⟩ = some (.slice ra T.rules.length rc) ∧ X.cell? ⟨bq, 3, none⟩ = some (.slice ba T.beats.length bc)) := hide fun X hX => by
  have hf := HX1d.out.keep (hX.block _ HX1d.out.lt)
  exact ⟨hf.get (i := 0) rfl, hf.get (i := 1) rfl, hf.get (i := 2) rfl, hf.get (i := 3) rfl⟩
 refine bZ ga (Jg [some 8, some 9, some 10, some 11, some 12, some 13, some 14, some 15, some 16, some 17, some 18, some 19, some 20, some 3] [(1, aa bq)] (yN T fa ra ba fc rc bc bq n W0.heap.size) W0) (by kernel_rfl) (by kernel_rfl) ?_ (cC ⟨?_, ?_, ?_, ?_, ?_, ?_, ?_, ?_, ?_, ?_, ?_, ?_, ?_, ?_, trivial⟩) ?_ ?_
 · show Jg _ _ _ W0 _ _ W.drew
   rw [Bs]
   exact Jg.start.2 fun p hp => by simp at hp; subst hp; rfl
 · intro ρ X L hc hf hL hd Aa hJ
   obtain ⟨c0, c1, c2, c3⟩ := Ag.out X hJ.low
   have k1 : ρ (.tmp 1) = aa bq := hJ.base (1, aa bq) (by simp)
   refine ae (v := .agg #[.int .i64 T.lits, .slice fa T.foes.length fc, .slice ra T.rules.length rc, .slice ba T.beats.length bc]) (w' := X) ?_ (hJ.put Ae.out eo (i := 0) (d := 8) rfl (Below.refl _ _) (rfl))
   clear hd Aa hJ hL
   go_simp
 · intro ρ X L hc hf hL hd Aa hJ
   obtain ⟨c0, c1, c2, c3⟩ := Ag.out X hJ.low
   have k1 : ρ (.tmp 1) = aa bq := hJ.base (1, aa bq) (by simp)
   refine ae (v := aa bq) (w' := X) ?_ (hJ.put Ae.out eo (i := 1) (d := 9) rfl (Below.refl _ _) (rfl))
   clear hd Aa hJ hL
   go_simp
 · intro ρ X L hc hf hL hd Aa hJ
   obtain ⟨c0, c1, c2, c3⟩ := Ag.out X hJ.low
   obtain ⟨_, _, _, e1⟩ := hJ.get (i := 1) (d := 9) rfl (hd ⟨1, .data⟩ (by simp) rfl)
   have k9 : ρ (.tmp 9) = aa bq := e1
   clear e1
   refine ae (v := .int .i64 T.lits) (w' := X) ?_ (hJ.put Ae.out eo (i := 2) (d := 10) rfl (Below.refl _ _) (rfl))
   clear hd Aa hJ hL
   go_simp
 · intro ρ X L hc hf hL hd Aa hJ
   obtain ⟨c0, c1, c2, c3⟩ := Ag.out X hJ.low
   obtain ⟨_, _, _, e1⟩ := hJ.get (i := 2) (d := 10) rfl (hd ⟨2, .data⟩ (by simp) rfl)
   have Cl : ρ (.tmp 10) = .int .i64 T.lits := e1
   have BF := AS X
   clear e1
   refine ae (v := aE X.heap.size n) (w' := X.alloc (.cells (Array.replicate n (.slice none 0 0)) 26)) ?_ (hJ.put Ae.out eo (i := 3) (d := 11) rfl (ac X _) (⟨X.heap.size, rfl, by unfold Fx; rw [heap_alloc_new]; simp, Nat.le_refl _, by simp, hJ.low.size⟩))
   clear hd Aa hJ hL
   go_simp
 · intro ρ X L hc hf hL hd Aa hJ
   obtain ⟨c0, c1, c2, c3⟩ := Ag.out X hJ.low
   have k1 : ρ (.tmp 1) = aa bq := hJ.base (1, aa bq) (by simp)
   refine ae (v := aa bq) (w' := X) ?_ (hJ.put Ae.out eo (i := 4) (d := 12) rfl (Below.refl _ _) (rfl))
   clear hd Aa hJ hL
   go_simp
 · intro ρ X L hc hf hL hd Aa hJ
   obtain ⟨c0, c1, c2, c3⟩ := Ag.out X hJ.low
   obtain ⟨_, _, _, e1⟩ := hJ.get (i := 4) (d := 12) rfl (hd ⟨4, .data⟩ (by simp) rfl)
   have CT : ρ (.tmp 12) = aa bq := e1
   clear e1
   refine ae (v := .int .i64 T.lits) (w' := X) ?_ (hJ.put Ae.out eo (i := 5) (d := 13) rfl (Below.refl _ _) (rfl))
   clear hd Aa hJ hL
   go_simp
 · intro ρ X L hc hf hL hd Aa hJ
   obtain ⟨c0, c1, c2, c3⟩ := Ag.out X hJ.low
   obtain ⟨_, _, _, e1⟩ := hJ.get (i := 5) (d := 13) rfl (hd ⟨5, .data⟩ (by simp) rfl)
   have CD : ρ (.tmp 13) = .int .i64 T.lits := e1
   have BF := AS X
   clear e1
   refine ae (v := aE X.heap.size n) (w' := X.alloc (.cells (Array.replicate n (.slice none 0 0)) 26)) ?_ (hJ.put Ae.out eo (i := 6) (d := 14) rfl (ac X _) (⟨X.heap.size, rfl, by unfold Fx; rw [heap_alloc_new]; simp, Nat.le_refl _, by simp, hJ.low.size⟩))
   clear hd Aa hJ hL
   go_simp
 · intro ρ X L hc hf hL hd Aa hJ
   obtain ⟨c0, c1, c2, c3⟩ := Ag.out X hJ.low
   have k1 : ρ (.tmp 1) = aa bq := hJ.base (1, aa bq) (by simp)
   refine ae (v := aa bq) (w' := X) ?_ (hJ.put Ae.out eo (i := 7) (d := 15) rfl (Below.refl _ _) (rfl))
   clear hd Aa hJ hL
   go_simp
 · intro ρ X L hc hf hL hd Aa hJ
   obtain ⟨c0, c1, c2, c3⟩ := Ag.out X hJ.low
   obtain ⟨_, _, _, e1⟩ := hJ.get (i := 7) (d := 15) rfl (hd ⟨7, .data⟩ (by simp) rfl)
   have Da : ρ (.tmp 15) = aa bq := e1
   clear e1
   refine ae (v := .int .i64 T.lits) (w' := X) ?_ (hJ.put Ae.out eo (i := 8) (d := 16) rfl (Below.refl _ _) (rfl))
   clear hd Aa hJ hL
   go_simp
 · intro ρ X L hc hf hL hd Aa hJ
   obtain ⟨c0, c1, c2, c3⟩ := Ag.out X hJ.low
   obtain ⟨_, _, _, e1⟩ := hJ.get (i := 8) (d := 16) rfl (hd ⟨8, .data⟩ (by simp) rfl)
   have CB : ρ (.tmp 16) = .int .i64 T.lits := e1
   have BF := AS X
   clear e1
   refine ae (v := aE X.heap.size n) (w' := X.alloc (.cells (Array.replicate n (.slice none 0 0)) 26)) ?_ (hJ.put Ae.out eo (i := 9) (d := 17) rfl (ac X _) (⟨X.heap.size, rfl, by unfold Fx; rw [heap_alloc_new]; simp, Nat.le_refl _, by simp, hJ.low.size⟩))
   clear hd Aa hJ hL
   go_simp
 · intro ρ X L hc hf hL hd Aa hJ
   obtain ⟨c0, c1, c2, c3⟩ := Ag.out X hJ.low
   refine ae (v := .map (some X.heap.size)) (w' := X.alloc (.map #[] 0)) ?_ (hJ.put Ae.out eo (i := 10) (d := 18) rfl (ac X _) (⟨X.heap.size, rfl, heap_alloc_new X _, hJ.low.size⟩))
   clear hd Aa hJ hL
   go_simp
 · intro ρ X L hc hf hL hd Aa hJ
   obtain ⟨c0, c1, c2, c3⟩ := Ag.out X hJ.low
   obtain ⟨lo, hi, AA, AC⟩ := hJ.at_
   have l0 : L 0 = true := hd ⟨0, .data⟩ (by simp) rfl
   have l3 : L 3 = true := hd ⟨3, .data⟩ (by simp) rfl
   have l6 : L 6 = true := hd ⟨6, .data⟩ (by simp) rfl
   have l9 : L 9 = true := hd ⟨9, .data⟩ (by simp) rfl
   have BU : L 10 = true := hd ⟨10, .data⟩ (by simp) rfl
   obtain ⟨-, -, -, e0⟩ := AA 0 8 rfl l0
   obtain ⟨-, -, -, g0, e3, f3, a3, b3, n3⟩ := AA 3 11 rfl l3
   obtain ⟨-, -, -, g1, e6, f6, a6, b6, n6⟩ := AA 6 14 rfl l6
   obtain ⟨-, -, -, g2, e9, f9, a9, b9, n9⟩ := AA 9 17 rfl l9
   obtain ⟨-, -, -, mb, By, BH, BZ⟩ := AA 10 18 rfl BU
   have d1 := AC 3 6 11 14 rfl rfl (by decide) l3 l6
   have d2 := AC 3 9 11 17 rfl rfl (by decide) l3 l9
   have d3 := AC 6 9 14 17 rfl rfl (by decide) l6 l9
   have k8 : ρ (.tmp 8) = .agg #[.int .i64 T.lits, .slice fa T.foes.length fc, .slice ra T.rules.length rc, .slice ba T.beats.length bc] := e0
   have CI : ρ (.tmp 11) = aE g0 n := e3
   have CX : ρ (.tmp 14) = aE g1 n := e6
   have Cr : ρ (.tmp 17) = aE g2 n := e9
   have CY : ρ (.tmp 18) = .map (some mb) := By
   refine ae (v := .agg #[.int .i64 T.lits, .slice fa T.foes.length fc, .slice ra T.rules.length rc, .slice ba T.beats.length bc, aE g0 n, aE g1 n, aE g2 n, .map (some mb)]) (w' := X) ?_ (hJ.put Ae.out eo (i := 11) (d := 19) rfl (Below.refl _ _) (⟨g0, g1, g2, mb, rfl, f3, f6, f9, BH, ⟨n3, n6, n9, BZ⟩, by omega, by omega, by omega⟩))
   clear hd Aa hJ hL AA AC d1 d2 d3 e0 e3 e6 e9 By f3 f6 f9 BH
   go_simp
 · intro ρ X L hc hf hL hd Aa hJ
   obtain ⟨c0, c1, c2, c3⟩ := Ag.out X hJ.low
   obtain ⟨_, _, Ch, g0, g1, g2, mb, BQ, AD⟩ := hJ.get (i := 11) (d := 19) rfl (hd ⟨11, .data⟩ (by simp) rfl)
   have Cz : ρ (.tmp 19) = .agg #[.int .i64 T.lits, .slice fa T.foes.length fc, .slice ra T.rules.length rc, .slice ba T.beats.length bc, aE g0 n, aE g1 n, aE g2 n, .map (some mb)] := BQ
   obtain ⟨f0, f1, f2, fm, AU⟩ := AD
   have hbn := ac X (.cells #[.int .i64 T.lits, .slice fa T.foes.length fc, .slice ra T.rules.length rc, .slice ba T.beats.length bc, aE g0 n, aE g1 n, aE g2 n, .map (some mb)] 118)
   have f0 := f0.keep (hbn.block _ f0.lt)
   have f1 := f1.keep (hbn.block _ f1.lt)
   have f2 := f2.keep (hbn.block _ f2.lt)
   have fm := (hbn.block _ (Array.getElem?_eq_some_iff.1 fm).1).trans fm
   clear hbn
   refine ae (v := aa X.heap.size) (w' := X.alloc (.cells #[.int .i64 T.lits, .slice fa T.foes.length fc, .slice ra T.rules.length rc, .slice ba T.beats.length bc, aE g0 n, aE g1 n, aE g2 n, .map (some mb)] 118)) ?_ (hJ.put Ae.out eo (i := 12) (d := 20) rfl (ac X _) (⟨X.heap.size, g0, g1, g2, mb, rfl, heap_alloc_new X _, hJ.low.size, f0, f1, f2, fm, AU⟩))
   clear hd Aa hJ hL f0 f1 f2 fm AU
   go_simp
 · intro ρ X L hc hf hL hd Aa hJ
   obtain ⟨c0, c1, c2, c3⟩ := Ag.out X hJ.low
   obtain ⟨_, _, Ch, q, g0, g1, g2, mb, Cd, AZ⟩ := hJ.get (i := 12) (d := 20) rfl (hd ⟨12, .data⟩ (by simp) rfl)
   have CP : ρ (.tmp 20) = aa q := Cd
   refine ae (v := aa q) (w' := X) ?_ (hJ.put Ae.out eo (i := 13) (d := 3) rfl (Below.refl _ _) (⟨q, g0, g1, g2, mb, rfl, AZ⟩))
   clear hd Aa hJ hL
   go_simp
 · intro c a' w' _ hE
   exact hE.elim
 · rintro ⟨Ab, df⟩ w' Al Av ⟨Lq, Au, hJ⟩ An
   simp only at Av Al
   subst Av
   obtain ⟨_, _, _, q, g0, g1, g2, mb, e3, AZ, Bz, AD⟩ := hJ.get (i := 13) (d := 3) rfl (Au 13 (by decide))
   have Bi := vm AZ Bz AD
   have BC := hJ.low
   have e3 : Ab.getD 3 undef = aa q := e3
   have Ao := eq 8 20 3 (by kernel_rfl) Al An
   simp only [zs, Nat.reduceLT, Nat.reduceAdd, true_or, or_true, or_self, false_and, ne_eq, Nat.reduceEqDiff, not_false_eq_true, not_true_eq_false, and_self, and_false, if_true, if_false, e3] at Ao
   rw [Ao]
   clear Ao hJ Au An Al e3 AS BR Ag Ae AZ Bz AD
   generalize Ab.getD 8 undef = x8
   generalize Ab.getD 9 undef = x9
   generalize Ab.getD 10 undef = x10
   generalize Ab.getD 11 undef = x11
   generalize Ab.getD 12 undef = x12
   generalize Ab.getD 13 undef = x13
   generalize Ab.getD 14 undef = x14
   generalize Ab.getD 15 undef = x15
   generalize Ab.getD 16 undef = x16
   generalize Ab.getD 17 undef = x17
   generalize Ab.getD 18 undef = x18
   generalize Ab.getD 19 undef = x19
   generalize Ab.getD 20 undef = x20
   have Br : W0.heap.size = W.heap.size := by rw [← Bs]; rfl
   rw [Br] at Bi
   have AW := hide Bi
   have Bc : Hid (Below W.heap.size W w') := hide (HDr.out.trans (BC.mono HDr.out.size))
   clear Bi BC Br HDr HX1d
   have b2 := (As.out.keep (Bc.out.block _ As.out.lt)).get (i := 2) (v := .slice ra T.rules.length rc) rfl
   go_upto_region 3 with fail
   clear b2
   have AW : Hid (Ixs W.heap.size ⟨q, n, fa, fc, ra, rc, ba, bc, g0, g1, g2, mb⟩ T (GL T n 0) (fun _ => .slice none 0 0) 0 w') := hide (by rw [B8]; exact AW.out)
   have AN := hide HW.out.rl
   go_loopw [24] (fun xv wr => ∃ (k c : Nat) (V : aN → Value), k ≤ T.rules.length ∧ xv = .int .i64 k ∧ c ≤ k * 4096 ∧ Hid (Ixs W.heap.size ⟨q, n, fa, fc, ra, rc, ba, bc, g0, g1, g2, mb⟩ T (GL T n k) V c wr) ∧ Hid (Below W.heap.size W wr)) (fun x _ => T.rules.length - (intOf x).toNat)
   case atStart => exact ⟨0, 0, _, by omega, rfl, by omega, AW, Bc⟩
   case round =>
    clear AW Bc
    obtain ⟨k, c, V, hk, rfl, CS, HI, HB⟩ := hrel
    by_cases hlt : k < T.rules.length
    · obtain ⟨x, hr⟩ := ap hlt
      have Bb := List.mem_of_getElem? hr
      obtain ⟨hm, hh⟩ : ∃ hm : Nat, x.head = (hm : Int) := ⟨x.head.toNat, by have := (HW.out.hd x Bb).1; omega⟩
      have Am : hm < n := by have := (HW.out.hd x Bb).2; omega
      obtain ⟨fs, Bo⟩ := ap (l := T.foes) (i := hm) (by rw [HW.out.fl]; exact Am)
      have AE : row T.foes (hm : Int) = fs := bI (by rw [Int.toNat_natCast]; exact Bo)
      obtain ⟨bl, hbl⟩ := ap (l := T.beats) (i := k) (by rw [Ar.out.1]; exact hlt)
      have Bj : row T.beats (k : Int) = bl := bI (by rw [Int.toNat_natCast]; exact hbl)
      have Ac := zU (n := n) hr hh Am (fun y hy => HW.out.fo hm Am y hy) (by have := (HW.out.fp hm Am).1; exact this.imp fun h => by omega) (fun y hy => (Ar.out.2.1 k y hy).1) (Ar.out.2.2 k).1
      rw [AE, Bj] at Ac
      have Ci : fs.length ≤ 64 := by have := (HW.out.fp hm Am).2; rw [AE] at this; exact this
      obtain ⟨gr, go, bd, bp, rfl, Ca, x0, x1, x2, -⟩ := dG (TR.keep HB.out.block AT.out).rules hr
      rw [hh] at x1
      obtain ⟨gf, of, af, cf, rfl, BK, AI, -, -, BB⟩ := ci AT.out.foes Bo
      have AI := (World.cell?_of_block (HB.out.block gf BK)).trans AI
      have b2 := (As.out.keep (HB.out.block _ As.out.lt)).get (i := 2) (v := .slice (some ⟨gr, go, none⟩) T.rules.length rc) rfl
      have b1 := (As.out.keep (HB.out.block _ As.out.lt)).get (i := 1) (v := .slice (some ⟨gf, of, none⟩) T.foes.length fc) rfl
      have Cj : hm < T.foes.length := by rw [HW.out.fl]; exact Am
      have AH := ac wr (.cells #[.int .i64 x.kind, .int .i64 hm, .slice bd x.body.length bp] 114)
      have HIq := hide (HI.out.go AH)
      have HBq := hide (HB.out.trans (AH.mono HB.out.size))
      have HQ : Hid (Fx wr.heap.size 114 [.int .i64 x.kind, .int .i64 hm, .slice bd x.body.length bp] (wr.alloc (.cells #[.int .i64 x.kind, .int .i64 hm, .slice bd x.body.length bp] 114))) := hide (heap_alloc_new wr _)
      have b1 := ar b1 AH
      have AI := ar AI AH
      have Bx := hide BB
      have BJ := hide hr
      have Bv := hide hh
      have BX := hide AE
      have AB := hide Bj
      have BG := hide hbl
      have Bf := hide Ac
      have CF : k < 4096 := Nat.lt_of_lt_of_le hlt AN.out
      clear hr hh AE AH HI HB Bb BB Bo Bj hbl Ac Ca BK
      go_upto_region 6 with fail
      clear x0 x1 x2 b1 b2 AI
      generalize wr.alloc (.cells #[.int .i64 x.kind, .int .i64 hm, .slice bd x.body.length bp] 114) = wq at *
      obtain ⟨qr, Bu⟩ : ∃ qr, wr.heap.size = qr := ⟨_, rfl⟩
      rw [Bu] at HQ ⊢
      clear Bu
      go_loopw [36] (fun xv wr => ∃ (j : Nat) (V : aN → Value), j ≤ fs.length ∧ xv = .int .i64 j ∧ Hid (Ixs W.heap.size ⟨q, n, some ⟨gf, of, none⟩, fc, some ⟨gr, go, none⟩, rc, ba, bc, g0, g1, g2, mb⟩ T (ni k (fs.take j) (GL T n k)) V c wr) ∧ Hid (Fx qr 114 [.int .i64 x.kind, .int .i64 hm, .slice bd x.body.length bp] wr) ∧ Hid (Below W.heap.size W wr)) (fun x _ => fs.length - (intOf x).toNat)
      case atStart => exact ⟨0, V, by omega, rfl, HIq, HQ, HBq⟩
      case round =>
       clear HIq HQ HBq
       obtain ⟨j, V1, hj, rfl, HI, HQ, HB⟩ := hrel
       by_cases hlj : j < fs.length
       · obtain ⟨f, hf⟩ := ap hlj
         have BV := HW.out.fo hm Am f (by rw [BX.out]; exact List.mem_of_getElem? hf)
         obtain ⟨fo, rfl⟩ : ∃ fo : Nat, f = (fo : Int) := ⟨f.toNat, by omega⟩
         have BI : fo < n := by omega
         obtain ⟨g5, o5, rfl, BN, y5⟩ := ku (Bx.out.keep HB.out.block) hf
         clear BV BN
         go_upto_region 8 with fail
         clear y5
         have At := (Below.refl wr.heap.size wr).drew
         have HId := hide (HI.out.go At)
         have HBd := hide (HB.out.trans (At.mono HB.out.size))
         have HQd := hide (HQ.out.keep (At.block _ HQ.out.lt))
         obtain ⟨wd, Az⟩ : ∃ wd, wr.drew = wd := ⟨_, rfl⟩
         rw [Az] at HId HBd HQd
         obtain ⟨l0, Ah, Ai, Aj, Af, w2, w3, V3, Bp, AK, Bl, AF, Ap, Aq, Aw, AM, AG⟩ := HId.out.app HBd.out.size (d := 2) (by omega) (show fo < n from BI) k (by rw [lV]; refine Nat.le_trans mI ?_; have := qW (T := T) (n := n) (k := k) (2, fo, 0); rw [List.length_map, List.length_take]; omega)
         replace Aq : w2.setCell ⟨g2, fo, none⟩ (.slice (some ⟨Aj, 0, none⟩) (l0.length + 1) Af) = w3 := Aq
         have Ax : Fx g2 26 (ft _ 2 n) wd := HId.out.rw 2 (by omega)
         have AO := (ig BI).trans (congrArg some AK)
         have AP := hide AF
         have AQ := hide Aq
         have Ba := hide AM
         have AV := hide (HBd.out.trans AG)
         have AX := hide (Aw _ _ _ HQd.out (by decide) (by decide))
         have kb : ∀ {g t : Nat} {xs : List Value} {j : Nat} {v : Value}, Fx g t xs wd → t ≠ 3 → xs[j]? = some v → ∀ X, X = wd ∨ X = wd.alloc (.cells #[.int .i64 k] 3) ∨ X = w2 → X.cell? ⟨g, j, none⟩ = some v := fun hf ht hj X hX => by
          rcases hX with rfl | rfl | rfl
          · exact hf.get hj
          · exact ar (hf.get hj) (ac _ _)
          · exact (Ap _ _ _ hf ht).get hj
         have LH := hide (kb (j := 6) (v := aE g2 n) HId.out.bx (by decide) rfl)
         have LR := hide (kb (v := .slice Ah l0.length Ai) Ax (by decide) AO)
         have q1 : w2.cell? ⟨g2, fo, none⟩ = some (.slice Ah l0.length Ai) := LR.out w2 (.inr (.inr rfl))
         have q2 : w2.frozen? ⟨g2, fo, none⟩ = false := (Ap _ _ _ Ax (by decide)).frz fo
         have Ad : Hid (gi ([some (40, aa q), some (41, aa q), some (42, .pointer (some ⟨q, 6, none⟩)), some (43, aE g2 n), some (44, .int .i64 fo), some (45, aa q), some (46, aa q), some (47, .pointer (some ⟨q, 6, none⟩)), some (48, aE g2 n), some (49, .int .i64 fo), some (50, .pointer (some ⟨g2, fo, none⟩)), some (51, .slice Ah l0.length Ai), some (52, .int .i64 k), some (53, .slice (some ⟨wd.heap.size, 0, none⟩) 1 1), some (54, .slice (some ⟨Aj, 0, none⟩) (l0.length + 1) Af), some (55, .pointer (some ⟨g2, fo, none⟩)), none].map fun p : Option (Nat × Value) => p.map Prod.fst) [(3, aa q), (4, .int .i64 k), (7, .int .i64 fo)] = true) := hide rfl
         clear Ax AO HI HB HQ AM AG AF Aq Ap Aw Bl Bp AK At kb HQd
         refine bZ ga (Jt [some (40, aa q), some (41, aa q), some (42, .pointer (some ⟨q, 6, none⟩)), some (43, aE g2 n), some (44, .int .i64 fo), some (45, aa q), some (46, aa q), some (47, .pointer (some ⟨q, 6, none⟩)), some (48, aE g2 n), some (49, .int .i64 fo), some (50, .pointer (some ⟨g2, fo, none⟩)), some (51, .slice Ah l0.length Ai), some (52, .int .i64 k), some (53, .slice (some ⟨wd.heap.size, 0, none⟩) 1 1), some (54, .slice (some ⟨Aj, 0, none⟩) (l0.length + 1) Af), some (55, .pointer (some ⟨g2, fo, none⟩)), none] [(3, aa q), (4, .int .i64 k), (7, .int .i64 fo)] (gh 13 14 16 wd (wd.alloc (.cells #[.int .i64 k] 3)) w2 w3)) (by kernel_rfl) (by kernel_rfl) ?_ (cC ⟨?_, ?_, ?_, ?_, ?_, ?_, ?_, ?_, ?_, ?_, ?_, ?_, ?_, ?_, ?_, ?_, ?_, trivial⟩) ?_ ?_
         · exact ⟨fun p hp => by simp at hp; rcases hp with rfl | rfl | rfl <;> rfl, fun i d v _ hL => (by cases hL), Az⟩
         · intro ρ X L hc hf hL hd Aa hJ
           have k3 : ρ (.tmp 3) = aa q := hJ.base (3, aa q) (by simp)
           refine ae (v := aa q) (w' := X) ?_ (hJ.put Ad.out rfl (by rw [au (by decide) (by decide) (by decide)]; exact hJ.wd))
           clear hd Aa hJ hL
           go_simp
         · intro ρ X L hc hf hL hd Aa hJ
           have Cw : ρ (.tmp 40) = aa q := hJ.vals 0 40 (aa q) rfl (hd ⟨0, .data⟩ (by simp) rfl)
           refine ae (v := aa q) (w' := X) ?_ (hJ.put Ad.out rfl (by rw [au (by decide) (by decide) (by decide)]; exact hJ.wd))
           clear hd Aa hJ hL
           go_simp
         · intro ρ X L hc hf hL hd Aa hJ
           have Cs : ρ (.tmp 41) = aa q := hJ.vals 1 41 (aa q) rfl (hd ⟨1, .data⟩ (by simp) rfl)
           refine ae (v := .pointer (some ⟨q, 6, none⟩)) (w' := X) ?_ (hJ.put Ad.out rfl (by rw [au (by decide) (by decide) (by decide)]; exact hJ.wd))
           clear hd Aa hJ hL
           go_simp
         · intro ρ X L hc hf hL hd Aa hJ
           have CA : ρ (.tmp 42) = .pointer (some ⟨q, 6, none⟩) := hJ.vals 2 42 (.pointer (some ⟨q, 6, none⟩)) rfl (hd ⟨2, .data⟩ (by simp) rfl)
           have Ac : L 16 = false := am (by kernel_rfl) Aa (k := 3) (by simp) hL
           have hx := LH.out X (bA hJ.wd Ac)
           clear Ac
           refine ae (v := aE g2 n) (w' := X) ?_ (hJ.put Ad.out rfl (by rw [au (by decide) (by decide) (by decide)]; exact hJ.wd))
           clear hd Aa hJ hL
           go_simp
         · intro ρ X L hc hf hL hd Aa hJ
           have k7 : ρ (.tmp 7) = .int .i64 fo := hJ.base (7, .int .i64 fo) (by simp)
           refine ae (v := .int .i64 fo) (w' := X) ?_ (hJ.put Ad.out rfl (by rw [au (by decide) (by decide) (by decide)]; exact hJ.wd))
           clear hd Aa hJ hL
           go_simp
         · intro ρ X L hc hf hL hd Aa hJ
           have k3 : ρ (.tmp 3) = aa q := hJ.base (3, aa q) (by simp)
           refine ae (v := aa q) (w' := X) ?_ (hJ.put Ad.out rfl (by rw [au (by decide) (by decide) (by decide)]; exact hJ.wd))
           clear hd Aa hJ hL
           go_simp
         · intro ρ X L hc hf hL hd Aa hJ
           have CL : ρ (.tmp 45) = aa q := hJ.vals 5 45 (aa q) rfl (hd ⟨5, .data⟩ (by simp) rfl)
           refine ae (v := aa q) (w' := X) ?_ (hJ.put Ad.out rfl (by rw [au (by decide) (by decide) (by decide)]; exact hJ.wd))
           clear hd Aa hJ hL
           go_simp
         · intro ρ X L hc hf hL hd Aa hJ
           have CQ : ρ (.tmp 46) = aa q := hJ.vals 6 46 (aa q) rfl (hd ⟨6, .data⟩ (by simp) rfl)
           refine ae (v := .pointer (some ⟨q, 6, none⟩)) (w' := X) ?_ (hJ.put Ad.out rfl (by rw [au (by decide) (by decide) (by decide)]; exact hJ.wd))
           clear hd Aa hJ hL
           go_simp
         · intro ρ X L hc hf hL hd Aa hJ
           have Ct : ρ (.tmp 47) = .pointer (some ⟨q, 6, none⟩) := hJ.vals 7 47 (.pointer (some ⟨q, 6, none⟩)) rfl (hd ⟨7, .data⟩ (by simp) rfl)
           have Ac : L 16 = false := am (by kernel_rfl) Aa (k := 8) (by simp) hL
           have hx := LH.out X (bA hJ.wd Ac)
           clear Ac
           refine ae (v := aE g2 n) (w' := X) ?_ (hJ.put Ad.out rfl (by rw [au (by decide) (by decide) (by decide)]; exact hJ.wd))
           clear hd Aa hJ hL
           go_simp
         · intro ρ X L hc hf hL hd Aa hJ
           have k7 : ρ (.tmp 7) = .int .i64 fo := hJ.base (7, .int .i64 fo) (by simp)
           refine ae (v := .int .i64 fo) (w' := X) ?_ (hJ.put Ad.out rfl (by rw [au (by decide) (by decide) (by decide)]; exact hJ.wd))
           clear hd Aa hJ hL
           go_simp
         · intro ρ X L hc hf hL hd Aa hJ
           have CN : ρ (.tmp 48) = aE g2 n := hJ.vals 8 48 (aE g2 n) rfl (hd ⟨8, .data⟩ (by simp) rfl)
           have Cq : ρ (.tmp 49) = .int .i64 fo := hJ.vals 9 49 (.int .i64 fo) rfl (hd ⟨9, .data⟩ (by simp) rfl)
           refine ae (v := .pointer (some ⟨g2, fo, none⟩)) (w' := X) ?_ (hJ.put Ad.out rfl (by rw [au (by decide) (by decide) (by decide)]; exact hJ.wd))
           clear hd Aa hJ hL
           go_simp
         · intro ρ X L hc hf hL hd Aa hJ
           have Cx : ρ (.tmp 50) = .pointer (some ⟨g2, fo, none⟩) := hJ.vals 10 50 (.pointer (some ⟨g2, fo, none⟩)) rfl (hd ⟨10, .data⟩ (by simp) rfl)
           have Ac : L 16 = false := am (by kernel_rfl) Aa (k := 11) (by simp) hL
           have hx := LR.out X (bA hJ.wd Ac)
           clear Ac
           refine ae (v := .slice Ah l0.length Ai) (w' := X) ?_ (hJ.put Ad.out rfl (by rw [au (by decide) (by decide) (by decide)]; exact hJ.wd))
           clear hd Aa hJ hL
           go_simp
         · intro ρ X L hc hf hL hd Aa hJ
           have k4 : ρ (.tmp 4) = .int .i64 k := hJ.base (4, .int .i64 k) (by simp)
           refine ae (v := .int .i64 k) (w' := X) ?_ (hJ.put Ad.out rfl (by rw [au (by decide) (by decide) (by decide)]; exact hJ.wd))
           clear hd Aa hJ hL
           go_simp
         · intro ρ X L hc hf hL hd Aa hJ
           have Cy : ρ (.tmp 52) = .int .i64 k := hJ.vals 12 52 (.int .i64 k) rfl (hd ⟨12, .data⟩ (by simp) rfl)
           have Ak : L 14 = false := by cases e : L 14 with | false => rfl | true => (have := Aa 14 _ rfl e ⟨13, .data⟩ (by simp) rfl; rw [show (⟨13, .data⟩ : Edge).on = 13 from rfl] at this; rw [hL] at this; cases this)
           have Ac : L 16 = false := am (by kernel_rfl) Aa (k := 13) (by simp) hL
           have hX := hJ.wd.trans (jV hL Ak Ac)
           refine ae (v := .slice (some ⟨wd.heap.size, 0, none⟩) 1 1) (w' := wd.alloc (.cells #[.int .i64 k] 3)) ?_ (hJ.put Ad.out rfl ((eD aL (by rw [an (by decide)]; exact Ak) (by rw [an (by decide)]; exact Ac)).symm))
           subst hX
           clear hd Aa hJ hL Ak Ac
           go_simp
         · intro ρ X L hc hf hL hd Aa hJ
           have BY : ρ (.tmp 51) = .slice Ah l0.length Ai := hJ.vals 11 51 (.slice Ah l0.length Ai) rfl (hd ⟨11, .data⟩ (by simp) rfl)
           have Ce : ρ (.tmp 53) = .slice (some ⟨wd.heap.size, 0, none⟩) 1 1 := hJ.vals 13 53 (.slice (some ⟨wd.heap.size, 0, none⟩) 1 1) rfl (hd ⟨13, .data⟩ (by simp) rfl)
           have Bq : L 13 = true := hd ⟨13, .data⟩ (by simp) rfl
           have Ac : L 16 = false := am (by kernel_rfl) Aa (k := 14) (by simp) hL
           have hX := hJ.wd.trans (eD Bq hL Ac)
           refine eU _ _ 26 rfl BY Ce (u := .slice (some ⟨Aj, 0, none⟩) (l0.length + 1) Af) (w' := w2) (by rw [hX]; exact AP.out) (hJ.put Ad.out rfl ((eE aL (by rw [an (by decide)]; exact Ac)).symm))
         · intro ρ X L hc hf hL hd Aa hJ
           have CU : ρ (.tmp 43) = aE g2 n := hJ.vals 3 43 (aE g2 n) rfl (hd ⟨3, .data⟩ (by simp) rfl)
           have CV : ρ (.tmp 44) = .int .i64 fo := hJ.vals 4 44 (.int .i64 fo) rfl (hd ⟨4, .data⟩ (by simp) rfl)
           refine ae (v := .pointer (some ⟨g2, fo, none⟩)) (w' := X) ?_ (hJ.put Ad.out rfl (by rw [au (by decide) (by decide) (by decide)]; exact hJ.wd))
           clear hd Aa hJ hL
           go_simp
         · intro ρ X L hc hf hL hd Aa hJ
           have CE : ρ (.tmp 55) = .pointer (some ⟨g2, fo, none⟩) := hJ.vals 15 55 (.pointer (some ⟨g2, fo, none⟩)) rfl (hd ⟨15, .data⟩ (by simp) rfl)
           have CW : ρ (.tmp 54) = .slice (some ⟨Aj, 0, none⟩) (l0.length + 1) Af := hJ.vals 14 54 (.slice (some ⟨Aj, 0, none⟩) (l0.length + 1) Af) rfl (hd ⟨14, .data⟩ (by simp) rfl)
           have Ak : L 14 = true := hd ⟨14, .data⟩ (by simp) rfl
           have hX := hJ.wd.trans (eE Ak hL)
           refine bV (w' := w3) ?_ (hJ.last rfl ((eB aL).symm))
           subst hX
           clear hd Aa hJ hL Ak
           rw [← AQ.out]
           go_simp
         · intro c a' w' _ hE
           exact hE.elim
         · rintro ⟨Ab, df⟩ w' Al Av ⟨Lq, Au, hJ⟩ An
           simp only at Av Al
           subst Av
           have Bk : w3 = w' := (hJ.wd.trans (eB (Au 16 (by decide)))).symm
           subst Bk
           have Ao := dD 40 55 (by kernel_rfl) Al An
           simp only [zr, Nat.reduceLT, Nat.reduceAdd, true_or, or_true, or_self, if_true, if_false] at Ao
           rw [Ao]
           clear Ao hJ Au An Al Ad AP AQ LH LR q1 q2 Az HBd HId
           generalize Ab.getD 40 undef = x40
           generalize Ab.getD 41 undef = x41
           generalize Ab.getD 42 undef = x42
           generalize Ab.getD 43 undef = x43
           generalize Ab.getD 44 undef = x44
           generalize Ab.getD 45 undef = x45
           generalize Ab.getD 46 undef = x46
           generalize Ab.getD 47 undef = x47
           generalize Ab.getD 48 undef = x48
           generalize Ab.getD 49 undef = x49
           generalize Ab.getD 50 undef = x50
           generalize Ab.getD 51 undef = x51
           generalize Ab.getD 52 undef = x52
           generalize Ab.getD 53 undef = x53
           generalize Ab.getD 54 undef = x54
           generalize Ab.getD 55 undef = x55
           go_wp2_with fail
           go_roundw
           case rel => exact ⟨j + 1, V3, by omega, by go_num, hide (by rw [bW hf, xw, Int.toNat_natCast]; exact Ba.out), AX, AV⟩
           case measure => simp [intOf]; omega
       · have Cc : j = fs.length := by omega
         have HI : Hid (Ixs W.heap.size ⟨q, n, some ⟨gf, of, none⟩, fc, some ⟨gr, go, none⟩, rc, ba, bc, g0, g1, g2, mb⟩ T (ni k fs (GL T n k)) V1 c wr) := hide (by have := HI.out; rw [Cc, List.take_length] at this; exact this)
         have Bn : Hid (∀ κ, (ni k fs (GL T n k) κ).length ≤ 50000) := hide fun κ => by
          rw [lV]; refine Nat.le_trans mI ?_; have := qW (T := T) (n := n) (k := k) κ; rw [List.length_map]; omega
         have BA := HQ.out.get (i := 0) (v := .int .i64 x.kind) rfl
         clear Bx
         by_cases hk1 : x.kind = 1
         · have Ay : ¬ x.kind = 3 := by omega
           have AY := hide hk1
           have Be : (x.kind == 1) = true := by simpa using hk1
           go_upto_region 11 with fail
           clear BA Be
           have At := (Below.refl wr.heap.size wr).drew
           have HId := hide (HI.out.go At)
           have HBd := hide (HB.out.trans (At.mono HB.out.size))
           have HQd := hide (HQ.out.keep (At.block _ HQ.out.lt))
           obtain ⟨wd, Az⟩ : ∃ wd, wr.drew = wd := ⟨_, rfl⟩
           rw [Az] at HId HBd HQd
           obtain ⟨l0, Ah, Ai, Aj, Af, w2, w3, V3, Bp, AK, Bl, AF, Ap, Aq, Aw, AM, AG⟩ := HId.out.app HBd.out.size (d := 0) (by omega) (show hm < n from Am) k (Nat.le_trans (Bn.out _) (by omega))
           replace Aq : w2.setCell ⟨g0, hm, none⟩ (.slice (some ⟨Aj, 0, none⟩) (l0.length + 1) Af) = w3 := Aq
           have Ax : Fx g0 26 (ft _ 0 n) wd := HId.out.rw 0 (by omega)
           have AO := (ig Am).trans (congrArg some AK)
           have AP := hide AF
           have AQ := hide Aq
           have Ba := hide AM
           have AV := hide (HBd.out.trans AG)
           have AX := hide (Aw _ _ _ HQd.out (by decide) (by decide))
           have kb : ∀ {g t : Nat} {xs : List Value} {j : Nat} {v : Value}, Fx g t xs wd → t ≠ 3 → xs[j]? = some v → ∀ X, X = wd ∨ X = wd.alloc (.cells #[.int .i64 k] 3) ∨ X = w2 → X.cell? ⟨g, j, none⟩ = some v := fun hf ht hj X hX => by
            rcases hX with rfl | rfl | rfl
            · exact hf.get hj
            · exact ar (hf.get hj) (ac _ _)
            · exact (Ap _ _ _ hf ht).get hj
           have LH := hide (kb (j := 4) (v := aE g0 n) HId.out.bx (by decide) rfl)
           have LQ := hide (kb (j := 1) (v := .int .i64 hm) HQd.out (by decide) rfl)
           have LR := hide (kb (v := .slice Ah l0.length Ai) Ax (by decide) AO)
           have q1 : w2.cell? ⟨g0, hm, none⟩ = some (.slice Ah l0.length Ai) := LR.out w2 (.inr (.inr rfl))
           have q2 : w2.frozen? ⟨g0, hm, none⟩ = false := (Ap _ _ _ Ax (by decide)).frz hm
           have Ad : Hid (gi ([some (60, aa q), some (61, aa q), some (62, .pointer (some ⟨q, 4, none⟩)), some (63, aE g0 n), some (64, .pointer (some ⟨qr, 1, none⟩)), some (65, .int .i64 hm), some (66, aa q), some (67, aa q), some (68, .pointer (some ⟨q, 4, none⟩)), some (69, aE g0 n), some (70, .pointer (some ⟨qr, 1, none⟩)), some (71, .int .i64 hm), some (72, .pointer (some ⟨g0, hm, none⟩)), some (73, .slice Ah l0.length Ai), some (74, .int .i64 k), some (75, .slice (some ⟨wd.heap.size, 0, none⟩) 1 1), some (76, .slice (some ⟨Aj, 0, none⟩) (l0.length + 1) Af), some (77, .pointer (some ⟨g0, hm, none⟩)), none].map fun p : Option (Nat × Value) => p.map Prod.fst) [(3, aa q), (4, .int .i64 k), (5, aa qr)] = true) := hide rfl
           clear Ax AO HI HB HQ AM AG AF Aq Ap Aw Bl Bp AK At kb HQd
           refine bZ ga (Jt [some (60, aa q), some (61, aa q), some (62, .pointer (some ⟨q, 4, none⟩)), some (63, aE g0 n), some (64, .pointer (some ⟨qr, 1, none⟩)), some (65, .int .i64 hm), some (66, aa q), some (67, aa q), some (68, .pointer (some ⟨q, 4, none⟩)), some (69, aE g0 n), some (70, .pointer (some ⟨qr, 1, none⟩)), some (71, .int .i64 hm), some (72, .pointer (some ⟨g0, hm, none⟩)), some (73, .slice Ah l0.length Ai), some (74, .int .i64 k), some (75, .slice (some ⟨wd.heap.size, 0, none⟩) 1 1), some (76, .slice (some ⟨Aj, 0, none⟩) (l0.length + 1) Af), some (77, .pointer (some ⟨g0, hm, none⟩)), none] [(3, aa q), (4, .int .i64 k), (5, aa qr)] (gh 15 16 18 wd (wd.alloc (.cells #[.int .i64 k] 3)) w2 w3)) (by kernel_rfl) (by kernel_rfl) ?_ (cC ⟨?_, ?_, ?_, ?_, ?_, ?_, ?_, ?_, ?_, ?_, ?_, ?_, ?_, ?_, ?_, ?_, ?_, ?_, ?_, trivial⟩) ?_ ?_
           · exact ⟨fun p hp => by simp at hp; rcases hp with rfl | rfl | rfl <;> rfl, fun i d v _ hL => (by cases hL), Az⟩
           · intro ρ X L hc hf hL hd Aa hJ
             have k3 : ρ (.tmp 3) = aa q := hJ.base (3, aa q) (by simp)
             refine ae (v := aa q) (w' := X) ?_ (hJ.put Ad.out rfl (by rw [au (by decide) (by decide) (by decide)]; exact hJ.wd))
             clear hd Aa hJ hL
             go_simp
           · intro ρ X L hc hf hL hd Aa hJ
             have CO : ρ (.tmp 60) = aa q := hJ.vals 0 60 (aa q) rfl (hd ⟨0, .data⟩ (by simp) rfl)
             refine ae (v := aa q) (w' := X) ?_ (hJ.put Ad.out rfl (by rw [au (by decide) (by decide) (by decide)]; exact hJ.wd))
             clear hd Aa hJ hL
             go_simp
           · intro ρ X L hc hf hL hd Aa hJ
             have Cp : ρ (.tmp 61) = aa q := hJ.vals 1 61 (aa q) rfl (hd ⟨1, .data⟩ (by simp) rfl)
             refine ae (v := .pointer (some ⟨q, 4, none⟩)) (w' := X) ?_ (hJ.put Ad.out rfl (by rw [au (by decide) (by decide) (by decide)]; exact hJ.wd))
             clear hd Aa hJ hL
             go_simp
           · intro ρ X L hc hf hL hd Aa hJ
             have Co : ρ (.tmp 62) = .pointer (some ⟨q, 4, none⟩) := hJ.vals 2 62 (.pointer (some ⟨q, 4, none⟩)) rfl (hd ⟨2, .data⟩ (by simp) rfl)
             have Ac : L 18 = false := am (by kernel_rfl) Aa (k := 3) (by simp) hL
             have hx := LH.out X (bA hJ.wd Ac)
             clear Ac
             refine ae (v := aE g0 n) (w' := X) ?_ (hJ.put Ad.out rfl (by rw [au (by decide) (by decide) (by decide)]; exact hJ.wd))
             clear hd Aa hJ hL
             go_simp
           · intro ρ X L hc hf hL hd Aa hJ
             have k5 : ρ (.tmp 5) = aa qr := hJ.base (5, aa qr) (by simp)
             refine ae (v := .pointer (some ⟨qr, 1, none⟩)) (w' := X) ?_ (hJ.put Ad.out rfl (by rw [au (by decide) (by decide) (by decide)]; exact hJ.wd))
             clear hd Aa hJ hL
             go_simp
           · intro ρ X L hc hf hL hd Aa hJ
             have Db : ρ (.tmp 64) = .pointer (some ⟨qr, 1, none⟩) := hJ.vals 4 64 (.pointer (some ⟨qr, 1, none⟩)) rfl (hd ⟨4, .data⟩ (by simp) rfl)
             have Ac : L 18 = false := am (by kernel_rfl) Aa (k := 5) (by simp) hL
             have hx := LQ.out X (bA hJ.wd Ac)
             clear Ac
             refine ae (v := .int .i64 hm) (w' := X) ?_ (hJ.put Ad.out rfl (by rw [au (by decide) (by decide) (by decide)]; exact hJ.wd))
             clear hd Aa hJ hL
             go_simp
           · intro ρ X L hc hf hL hd Aa hJ
             have k3 : ρ (.tmp 3) = aa q := hJ.base (3, aa q) (by simp)
             refine ae (v := aa q) (w' := X) ?_ (hJ.put Ad.out rfl (by rw [au (by decide) (by decide) (by decide)]; exact hJ.wd))
             clear hd Aa hJ hL
             go_simp
           · intro ρ X L hc hf hL hd Aa hJ
             have CZ : ρ (.tmp 66) = aa q := hJ.vals 6 66 (aa q) rfl (hd ⟨6, .data⟩ (by simp) rfl)
             refine ae (v := aa q) (w' := X) ?_ (hJ.put Ad.out rfl (by rw [au (by decide) (by decide) (by decide)]; exact hJ.wd))
             clear hd Aa hJ hL
             go_simp
           · intro ρ X L hc hf hL hd Aa hJ
             have Cm : ρ (.tmp 67) = aa q := hJ.vals 7 67 (aa q) rfl (hd ⟨7, .data⟩ (by simp) rfl)
             refine ae (v := .pointer (some ⟨q, 4, none⟩)) (w' := X) ?_ (hJ.put Ad.out rfl (by rw [au (by decide) (by decide) (by decide)]; exact hJ.wd))
             clear hd Aa hJ hL
             go_simp
           · intro ρ X L hc hf hL hd Aa hJ
             have CG : ρ (.tmp 68) = .pointer (some ⟨q, 4, none⟩) := hJ.vals 8 68 (.pointer (some ⟨q, 4, none⟩)) rfl (hd ⟨8, .data⟩ (by simp) rfl)
             have Ac : L 18 = false := am (by kernel_rfl) Aa (k := 9) (by simp) hL
             have hx := LH.out X (bA hJ.wd Ac)
             clear Ac
             refine ae (v := aE g0 n) (w' := X) ?_ (hJ.put Ad.out rfl (by rw [au (by decide) (by decide) (by decide)]; exact hJ.wd))
             clear hd Aa hJ hL
             go_simp
           · intro ρ X L hc hf hL hd Aa hJ
             have k5 : ρ (.tmp 5) = aa qr := hJ.base (5, aa qr) (by simp)
             refine ae (v := .pointer (some ⟨qr, 1, none⟩)) (w' := X) ?_ (hJ.put Ad.out rfl (by rw [au (by decide) (by decide) (by decide)]; exact hJ.wd))
             clear hd Aa hJ hL
             go_simp
           · intro ρ X L hc hf hL hd Aa hJ
             have CC : ρ (.tmp 70) = .pointer (some ⟨qr, 1, none⟩) := hJ.vals 10 70 (.pointer (some ⟨qr, 1, none⟩)) rfl (hd ⟨10, .data⟩ (by simp) rfl)
             have Ac : L 18 = false := am (by kernel_rfl) Aa (k := 11) (by simp) hL
             have hx := LQ.out X (bA hJ.wd Ac)
             clear Ac
             refine ae (v := .int .i64 hm) (w' := X) ?_ (hJ.put Ad.out rfl (by rw [au (by decide) (by decide) (by decide)]; exact hJ.wd))
             clear hd Aa hJ hL
             go_simp
           · intro ρ X L hc hf hL hd Aa hJ
             have CK : ρ (.tmp 69) = aE g0 n := hJ.vals 9 69 (aE g0 n) rfl (hd ⟨9, .data⟩ (by simp) rfl)
             have CM : ρ (.tmp 71) = .int .i64 hm := hJ.vals 11 71 (.int .i64 hm) rfl (hd ⟨11, .data⟩ (by simp) rfl)
             refine ae (v := .pointer (some ⟨g0, hm, none⟩)) (w' := X) ?_ (hJ.put Ad.out rfl (by rw [au (by decide) (by decide) (by decide)]; exact hJ.wd))
             clear hd Aa hJ hL
             go_simp
           · intro ρ X L hc hf hL hd Aa hJ
             have Cu : ρ (.tmp 72) = .pointer (some ⟨g0, hm, none⟩) := hJ.vals 12 72 (.pointer (some ⟨g0, hm, none⟩)) rfl (hd ⟨12, .data⟩ (by simp) rfl)
             have Ac : L 18 = false := am (by kernel_rfl) Aa (k := 13) (by simp) hL
             have hx := LR.out X (bA hJ.wd Ac)
             clear Ac
             refine ae (v := .slice Ah l0.length Ai) (w' := X) ?_ (hJ.put Ad.out rfl (by rw [au (by decide) (by decide) (by decide)]; exact hJ.wd))
             clear hd Aa hJ hL
             go_simp
           · intro ρ X L hc hf hL hd Aa hJ
             have k4 : ρ (.tmp 4) = .int .i64 k := hJ.base (4, .int .i64 k) (by simp)
             refine ae (v := .int .i64 k) (w' := X) ?_ (hJ.put Ad.out rfl (by rw [au (by decide) (by decide) (by decide)]; exact hJ.wd))
             clear hd Aa hJ hL
             go_simp
           · intro ρ X L hc hf hL hd Aa hJ
             have Cv : ρ (.tmp 74) = .int .i64 k := hJ.vals 14 74 (.int .i64 k) rfl (hd ⟨14, .data⟩ (by simp) rfl)
             have Ak : L 16 = false := by cases e : L 16 with | false => rfl | true => (have := Aa 16 _ rfl e ⟨15, .data⟩ (by simp) rfl; rw [show (⟨15, .data⟩ : Edge).on = 15 from rfl] at this; rw [hL] at this; cases this)
             have Ac : L 18 = false := am (by kernel_rfl) Aa (k := 15) (by simp) hL
             have hX := hJ.wd.trans (jV hL Ak Ac)
             refine ae (v := .slice (some ⟨wd.heap.size, 0, none⟩) 1 1) (w' := wd.alloc (.cells #[.int .i64 k] 3)) ?_ (hJ.put Ad.out rfl ((eD aL (by rw [an (by decide)]; exact Ak) (by rw [an (by decide)]; exact Ac)).symm))
             subst hX
             clear hd Aa hJ hL Ak Ac
             go_simp
           · intro ρ X L hc hf hL hd Aa hJ
             have BL : ρ (.tmp 73) = .slice Ah l0.length Ai := hJ.vals 13 73 (.slice Ah l0.length Ai) rfl (hd ⟨13, .data⟩ (by simp) rfl)
             have BT : ρ (.tmp 75) = .slice (some ⟨wd.heap.size, 0, none⟩) 1 1 := hJ.vals 15 75 (.slice (some ⟨wd.heap.size, 0, none⟩) 1 1) rfl (hd ⟨15, .data⟩ (by simp) rfl)
             have Bq : L 15 = true := hd ⟨15, .data⟩ (by simp) rfl
             have Ac : L 18 = false := am (by kernel_rfl) Aa (k := 16) (by simp) hL
             have hX := hJ.wd.trans (eD Bq hL Ac)
             refine eU _ _ 26 rfl BL BT (u := .slice (some ⟨Aj, 0, none⟩) (l0.length + 1) Af) (w' := w2) (by rw [hX]; exact AP.out) (hJ.put Ad.out rfl ((eE aL (by rw [an (by decide)]; exact Ac)).symm))
           · intro ρ X L hc hf hL hd Aa hJ
             have Ck : ρ (.tmp 63) = aE g0 n := hJ.vals 3 63 (aE g0 n) rfl (hd ⟨3, .data⟩ (by simp) rfl)
             have Cn : ρ (.tmp 65) = .int .i64 hm := hJ.vals 5 65 (.int .i64 hm) rfl (hd ⟨5, .data⟩ (by simp) rfl)
             refine ae (v := .pointer (some ⟨g0, hm, none⟩)) (w' := X) ?_ (hJ.put Ad.out rfl (by rw [au (by decide) (by decide) (by decide)]; exact hJ.wd))
             clear hd Aa hJ hL
             go_simp
           · intro ρ X L hc hf hL hd Aa hJ
             have CH : ρ (.tmp 77) = .pointer (some ⟨g0, hm, none⟩) := hJ.vals 17 77 (.pointer (some ⟨g0, hm, none⟩)) rfl (hd ⟨17, .data⟩ (by simp) rfl)
             have CR : ρ (.tmp 76) = .slice (some ⟨Aj, 0, none⟩) (l0.length + 1) Af := hJ.vals 16 76 (.slice (some ⟨Aj, 0, none⟩) (l0.length + 1) Af) rfl (hd ⟨16, .data⟩ (by simp) rfl)
             have Ak : L 16 = true := hd ⟨16, .data⟩ (by simp) rfl
             have hX := hJ.wd.trans (eE Ak hL)
             refine bV (w' := w3) ?_ (hJ.last rfl ((eB aL).symm))
             subst hX
             clear hd Aa hJ hL Ak
             rw [← AQ.out]
             go_simp
           · intro c a' w' _ hE
             exact hE.elim
           · rintro ⟨Ab, df⟩ w' Al Av ⟨Lq, Au, hJ⟩ An
             simp only at Av Al
             subst Av
             have Bk : w3 = w' := (hJ.wd.trans (eB (Au 18 (by decide)))).symm
             subst Bk
             have Ao := dD 60 77 (by kernel_rfl) Al An
             simp only [zr, Nat.reduceLT, Nat.reduceAdd, true_or, or_true, or_self, if_true, if_false] at Ao
             rw [Ao]
             clear Ao hJ Au An Al Ad AP AQ LH LR q1 q2 Az HBd HId LQ
             generalize Ab.getD 60 undef = x60
             generalize Ab.getD 61 undef = x61
             generalize Ab.getD 62 undef = x62
             generalize Ab.getD 63 undef = x63
             generalize Ab.getD 64 undef = x64
             generalize Ab.getD 65 undef = x65
             generalize Ab.getD 66 undef = x66
             generalize Ab.getD 67 undef = x67
             generalize Ab.getD 68 undef = x68
             generalize Ab.getD 69 undef = x69
             generalize Ab.getD 70 undef = x70
             generalize Ab.getD 71 undef = x71
             generalize Ab.getD 72 undef = x72
             generalize Ab.getD 73 undef = x73
             generalize Ab.getD 74 undef = x74
             generalize Ab.getD 75 undef = x75
             generalize Ab.getD 76 undef = x76
             generalize Ab.getD 77 undef = x77
             have HI := hide Ba.out
             have HB := hide AV.out
             have BA := AX.out.get (i := 0) (v := .int .i64 x.kind) rfl
             clear Ba AV AX
             have CJ := hide (rm HI.out (TR.keep HB.out.block AT.out) HB.out.size BJ.out Bv.out Am BD AN.out BG.out (fun y hy => (Ar.out.2.1 k y (by rw [AB.out]; exact hy))) (by have := (Ar.out.2.2 k).2; rw [AB.out] at this; exact this) (fun κ => Nat.le_trans (li (L := ni k fs (GL T n k)) (k := (0, hm, 0)) (j := κ) (r := k)) (by have := Bn.out κ; omega)) (by have := AN.out; omega))
             have Bt : Hid (¬ x.kind = 3) := hide Ay
             have Bh : (x.kind != 3) = true := by simpa using Ay
             clear HI
             go_wp2_with (go_at_call 76; refine CJ.out.mono ?_; rintro _ w5 ⟨rfl, V5, AL, AJ⟩; have Bg := hide AL; have Bd := hide (HB.out.trans AJ); clear AL AJ)
             go_roundw
             case rel => exact ⟨k + 1, c + bl.length, V5, by omega, by go_num, by have := (Ar.out.2.2 k).2; rw [AB.out] at this; omega, hide (by rw [← Bf.out]; unfold oy; dsimp only; rw [if_pos AY.out, if_neg Bt.out]; exact Bg.out), Bd⟩
             case measure => simp [intOf]; omega
         · have AY := hide hk1
           have Be : (x.kind == 1) = false := by simpa using hk1
           by_cases Ay : x.kind = 3
           · have Bh : (x.kind != 3) = false := by simpa using Ay
             have BP := hide Ay
             go_wp2_with fail
             go_roundw
             case rel => exact ⟨k + 1, c, V1, by omega, by go_num, by omega, hide (by rw [← Bf.out]; unfold oy; dsimp only; rw [if_neg AY.out, if_pos BP.out]; exact HI.out), HB⟩
             case measure => simp [intOf]; omega
           · skip
             have CJ := hide (rm HI.out (TR.keep HB.out.block AT.out) HB.out.size BJ.out Bv.out Am BD AN.out BG.out (fun y hy => (Ar.out.2.1 k y (by rw [AB.out]; exact hy))) (by have := (Ar.out.2.2 k).2; rw [AB.out] at this; exact this) (fun κ => Nat.le_trans (Bn.out κ) (by omega)) (by have := AN.out; omega))
             have Bt : Hid (¬ x.kind = 3) := hide Ay
             have Bh : (x.kind != 3) = true := by simpa using Ay
             clear HI
             go_wp2_with (go_at_call 76; refine CJ.out.mono ?_; rintro _ w5 ⟨rfl, V5, AL, AJ⟩; have Bg := hide AL; have Bd := hide (HB.out.trans AJ); clear AL AJ)
             go_roundw
             case rel => exact ⟨k + 1, c + bl.length, V5, by omega, by go_num, by have := (Ar.out.2.2 k).2; rw [AB.out] at this; omega, hide (by rw [← Bf.out]; unfold oy; dsimp only; rw [if_neg AY.out, if_neg Bt.out]; exact Bg.out), Bd⟩
             case measure => simp [intOf]; omega
    · have BS : k = T.rules.length := by omega
      subst BS
      go_wp2_with fail
      go_ret
      have hs := BW.out
      rw [hs, ← Bw.out] at HI
      exact ⟨_, _, _, _, _, V, c, rfl, HI.out, Cb.out.trans (HB.out.mono (by rw [hs]; rw [← Bw.out]; omega))⟩
end Go.Proofs.YtmlhcncagdfjfaaGreat.De
