import Derived.Test.YtmlhcncagdfjfaaGreatSok
import Derived.Test.YtmlhcncagdfjfaaGreatFlf
import Derived.Test.YtmlhcncagdfjfaaGreatFsC
namespace Go.Proofs.YtmlhcncagdfjfaaGreat.Fa
def A1 (m : List Int) (q : Nat) : List (Int × Int) := (tags.filter fun t => hs m q t).map fun t => ((q : Int), t)
def wO (m : List Int) : Nat → List (Int × Int)
 | 0 => []
 | k + 1 => wO m k ++ A1 m k
structure B9 (T : Th) (F : List Int) (n : Nat) (l : List (Int × Int)) : Prop where
 step : ∀ (i : Nat) x, l[i]? = some x → ∃ q : Nat, x.1 = (q : Int) ∧ q < n ∧ aw x.2 ∧ hb (mi (l.take i) q) x.2 = false ∧ cH T F (vW n (mi (l.take i))) x.2 q = true ∧ mi (l.take (i + 1)) = aA (mi (l.take i)) q (dt (mi (l.take i) q) x.2)
section
variable {T : Th} {F : List Int} {n : Nat} {e : Es}
end
end Go.Proofs.YtmlhcncagdfjfaaGreat.Fa
namespace Go.Proofs.YtmlhcncagdfjfaaGreat.Fa
open Go.RowKit
section
variable {w : World} {T : Th} {F : List Int} {fa ra ba ea : Option Addr} {fc rc bc ec : Nat}
end
set_option maxRecDepth 100000
set_option maxHeartbeats 3200000
def Prow (w : World) (a : Option Addr) (l : List (Int × Int)) : Prop := ∀ (i : Nat) x, l[i]? = some x → ∃ g : Nat, a = some ⟨g, 0, none⟩ ∧ w.cell? ⟨g, i * 2, none⟩ = some (.int .i64 x.1) ∧ w.cell? ⟨g, i * 2 + 1, none⟩ = some (.int .i64 x.2)
theorem Prow.go {w w' : World} {a : Option Addr} {l : List (Int × Int)} (h : Prow w a l) (hb : Below w.heap.size w w') : Prow w' a l := by
 intro i x hx
 obtain ⟨g, e, h1, h2⟩ := h i x hx
 have hk := hb.block g (World.block_lt_of_cell? w _ h1)
 exact ⟨g, e, (World.cell?_of_block hk).trans h1, (World.cell?_of_block hk).trans h2⟩
theorem xy {w : World} {b : Nat} {a : Option Addr} {c : Nat} {l : List (Int × Int)} (h : w.ownsRow b 85 2 (.slice a l.length c) l.length (prs l)) : Prow w a l := by
 intro i x hx
 have hi := (List.getElem?_eq_some_iff.1 hx).1
 rcases h.2 with ⟨h1, h2⟩ | ⟨g, cap, Aa, h1, -, -, -⟩
 ·omega
 cases h1
 have hc := h.cells (g := g) rfl
 have p := nV hx
 have q0 := hc _ _ p.1
 have q1 := hc _ _ p.2
 refine ⟨g, rfl, ?_, ?_⟩
 ·rw [← q0]; congr 1; simp [Addr.add]
 rw [← q1]; congr 1; simp [Addr.add]
theorem uS {w : World} {b e k n c : Nat} {a : Option Addr} {xs : List Value} (h : w.ownsRow b e k (.slice a n c) n xs) : n ≤ c := by
 rcases h.2 with ⟨h1, h2⟩ | ⟨g, cap, Aa, h1, -, -, h3, -⟩
 ·omega
 cases h1; exact h3
def OQ (T : Th) (F : List Int) (n : Nat) (Q : List (Int × Int) → Prop) : Prop := jp T F n ∧ ∃ Inv : Es → Prop, Inv (oR T F n) ∧ (∀ e, Inv e → Tok n e → e.tk < e.td.length → Inv (gV T F e)) ∧ ∀ e, Inv e → Tok n e → e.tk = e.td.length → Q e.td
theorem zJ {w : World} {T : Th} {F : List Int} {fa ra ba ea : Option Addr} {fc rc bc ec : Nat} (h : TA w.heap.size w T fa fc ra rc ba bc) (hF : Ints w.heap.size w F (.slice ea F.length ec)) {n : Nat} (hp : Pf T F n) {Q : List (Int × Int) → Prop} (hq : OQ T F n Q) :
    Calls Tryz.prog 131 #[tv T fa fc ra rc ba bc, .slice ea F.length ec] w fun o w' => ∃ K td ta tc, o = .returned (aa K) ∧ w'.cell? ⟨K, 19, none⟩ = some (.slice ta (List.length td) tc) ∧ Q td ∧ Prow w' ta td ∧ List.length td ≤ tc ∧ Below w.heap.size w w' := by
 obtain ⟨Ac, Inv, h1, h2, h3⟩ := hq
 refine (xx (Inv := Inv) h hF hp Ac h1 h2).mono ?_
 rintro o w' ⟨A, S, N, e, rfl, hN, ⟨Ab, he⟩, hi, Ad, hb⟩
 have Aa : ∃ ta tc, Ab = .slice ta e.td.length tc := bf he.td
 obtain ⟨ta, tc, rfl⟩ := Aa
 exact ⟨A.K, e.td, ta, tc, rfl, he.bx.get (i := 19) rfl, h3 e hi he.tok Ad, xy he.td, uS he.td, hb⟩
def EY (T : Th) (F : List Int) (n : Nat) (td : List (Int × Int)) : Prop := ∃ m k, pA T F m k ∧ List.length td = ct m n ∧ B9 T F n td ∧ td.Nodup ∧ ∀ x, x ∈ td ↔ x ∈ wO m n
section
variable {w : World} {T : Th} {F : List Int} {fa ra ba ea : Option Addr} {fc rc bc ec : Nat}
theorem ya {Q : List (Int × Int) → Prop} (hq : OQ T F T.lits.toNat Q) (h : TA w.heap.size w T fa fc ra rc ba bc) (hF : Ints w.heap.size w F (.slice ea F.length ec)) (h0 : aX T F = 0) :
    Calls Tryz.prog 93 #[tv T fa fc ra rc ba bc, .slice ea F.length ec] w fun e w' => ∃ td ta tc, e = .returned (.tuple #[.slice ta (List.length td) tc, .int .i64 0]) ∧ Q td ∧ Prow w' ta td ∧ List.length td ≤ tc ∧ Below w.heap.size w w' := by
 have hB := ae w (.cells #[.int .i64 T.lits, .slice fa T.foes.length fc, .slice ra T.rules.length rc, .slice ba T.beats.length bc] 25)
 have hX := heap_alloc_new w (.cells #[.int .i64 T.lits, .slice fa T.foes.length fc, .slice ra T.rules.length rc, .slice ba T.beats.length bc] 25)
 have CF := hide (kC (TR.go hB h) (Ints.go hB hF))
 rw [h0] at CF
 have HP := hide (nt h0)
 have Ad := hide (TR.go hB h)
 have HF := hide (Ints.go hB hF)
 have HB := hide hB
 have HX := hide hX
 have Ah := hide hq
 clear h hB hF h0 hq
 go_enter Tryz.func93, Tryz.ntmps93
 go_upto_region 1 with fail
 generalize w.alloc (.cells #[.int .i64 T.lits, .slice fa T.foes.length fc, .slice ra T.rules.length rc, .slice ba T.beats.length bc] 25) = W at *
 obtain ⟨-, c0, c1, c2, c3⟩ := Bt.of hX
 clear hX
 go_upto_region 4 with (go_at_call 130; refine CF.out.mono ?_; rintro _ w1 ⟨rfl, Ai⟩; have Aa := hide Ai; clear Ai)
 have Aj := hide ((Aa.out.block _ (aD HX.out)).trans HX.out)
 have CS := hide (zJ (TR.go Aa.out Ad.out) (Ints.go Aa.out HF.out) HP.out Ah.out)
 have Ae := hide (HB.out.trans (Aa.out.mono HB.out.size))
 clear c0 c1 c2 c3 CF HX Ad HF HB Aa Ah
 obtain ⟨-, c0, c1, c2, c3⟩ := Bt.of Aj.out
 go_wp2_with (go_at_call 131; refine CS.out.mono ?_; rintro _ w2 ⟨K, td, ta, tc, rfl, Am, Af, Ab, Ac, Ag⟩; have HS := hide Af; have HO := hide Ab; have Al := hide Ac; have Ak := hide (Ae.out.trans (Ag.mono Ae.out.size)); clear Af Ab Ac Ag)
 go_ret2
 exact ⟨td, ta, tc, rfl, HS.out, HO.out, Al.out, Ak.out⟩
end
end Go.Proofs.YtmlhcncagdfjfaaGreat.Fa
