import Derived.Test.YtmlhcncagdfjfaaGreatSok
import Derived.Test.YtmlhcncagdfjfaaGreatFlf
import Derived.Test.YtmlhcncagdfjfaaGreatFsC
namespace Go.Proofs.YtmlhcncagdfjfaaGreat.Fa
theorem ip {α : Type} [DecidableEq α] : ∀ {l L : List α}, l.Nodup → (∀ x ∈ l, x ∈ L) → l.length ≤ L.length
 | [], _, _, _ => Nat.zero_le _
 | x :: l, L, hn, h => by
  obtain ⟨h1, h2⟩ := List.nodup_cons.1 hn
  have hx := h x List.mem_cons_self
  have := ip (L := L.erase x) h2 fun y hy => (List.mem_erase_of_ne (fun e : y = x => h1 (e ▸ hy))).2 (h y (List.mem_cons_of_mem _ hy))
  rw [List.length_erase_of_mem hx] at this
  have := List.length_pos_of_mem hx
  simp only [List.length_cons]
  omega
def lH (m : List Int) (q : Nat) : List (Int × Int) := (tags.filter fun t => hs m q t).map fun t => ((q : Int), t)
def dV (m : List Int) : Nat → List (Int × Int)
 | 0 => []
 | k + 1 => dV m k ++ lH m k
theorem xf {m : List Int} {q : Nat} : (lH m q).length = dx m q := by
 unfold lH dx tags fi
 cases h1 : hs m q 1 <;> cases h2 : hs m q 2 <;> cases h3 : hs m q 3 <;> cases h4 : hs m q 4 <;> simp [List.filter, h1, h2, h3, h4]
theorem qD {m : List Int} : ∀ {k : Nat}, (dV m k).length = bL m k
 | 0 => rfl
 | k + 1 => by unfold dV bL; rw [List.length_append, qD, xf]
theorem si {m : List Int} {q : Nat} {x : Int × Int} : x ∈ lH m q ↔ x.1 = (q : Int) ∧ aq x.2 ∧ hs m q x.2 = true := by
 unfold lH
 rw [List.mem_map]
 constructor
 · rintro ⟨t, ht, rfl⟩
   obtain ⟨h1, h2⟩ := List.mem_filter.1 ht
   refine ⟨rfl, ?_, h2⟩
   simp [tags] at h1
   exact h1
 · rintro ⟨h1, h2, h3⟩
   exact ⟨x.2, List.mem_filter.2 ⟨jZ h2, h3⟩, Prod.ext h1.symm rfl⟩
theorem fG {m : List Int} {x : Int × Int} : ∀ {k : Nat}, x ∈ dV m k ↔ ∃ q : Nat, q < k ∧ x.1 = (q : Int) ∧ aq x.2 ∧ hs m q x.2 = true
 | 0 => by
  constructor
  · intro h; cases h
  · rintro ⟨q, h, -⟩; omega
 | k + 1 => by
  unfold dV
  rw [List.mem_append, fG, si]
  constructor
  · rintro (⟨q, h1, h2⟩ | h2)
    · exact ⟨q, by omega, h2⟩
    · exact ⟨k, by omega, h2⟩
  · rintro ⟨q, h1, h2⟩
    by_cases e : q = k
    · subst e; exact .inr h2
    · exact .inl ⟨q, by omega, h2⟩
theorem zW {m : List Int} {q : Nat} : (lH m q).Nodup := by
 unfold lH tags
 cases h1 : hs m q 1 <;> cases h2 : hs m q 2 <;> cases h3 : hs m q 3 <;> cases h4 : hs m q 4 <;> simp [List.filter, h1, h2, h3, h4]
theorem nM {m : List Int} : ∀ {k : Nat}, (dV m k).Nodup
 | 0 => List.nodup_nil
 | k + 1 => by
  unfold dV
  rw [List.nodup_append]
  refine ⟨nM, zW, fun x hx y hy e => ?_⟩
  subst e
  obtain ⟨q, h1, h2, -⟩ := fG.1 hx
  have := (si.1 hy).1
  omega
theorem xd {T : Th} {F m : List Int} {n k : Nat} {e : Es} (hp : Pf T F n) (hs_ : fU T F m k) (h : nV T F n m e) (htk : e.tk = e.td.length) (htok : Tok n e) : e.td.length = bL m n := by
 have he := (tE hp hs_ h htk htok).1
 rw [← qD]
 apply Nat.le_antisymm
 · refine ip htok.nd fun x hx => ?_
   obtain ⟨x0, x1, xt, xh⟩ := htok.inn x hx
   obtain ⟨q, hq⟩ := Int.eq_ofNat_of_zero_le x0
   exact fG.2 ⟨q, by omega, hq, xt, by rw [← hq, ← he x.1 x.2 x0 x1 xt]; exact xh⟩
 · refine ip nM fun x hx => ?_
   obtain ⟨q, h1, h2, h3, h4⟩ := fG.1 hx
   have := h.td x.1 x.2 h3 (by rw [he x.1 x.2 (by omega) (by omega) h3, h2]; exact h4)
   exact this
structure Tld (T : Th) (F : List Int) (n : Nat) (l : List (Int × Int)) : Prop where
 step : ∀ (i : Nat) x, l[i]? = some x → ∃ q : Nat, x.1 = (q : Int) ∧ q < n ∧ aq x.2 ∧ hb (dX (l.take i) q) x.2 = false ∧ bf T F (ke n (dX (l.take i))) x.2 q = true ∧ dX (l.take (i + 1)) = ar (dX (l.take i)) q (cC (dX (l.take i) q) x.2)
section
variable {T : Th} {F : List Int} {n : Nat} {e : Es}
theorem Tld.of (h : qC T F n e) (htok : Tok n e) : Tld T F n e.td := by
 refine ⟨fun i x hx => ?_⟩
 obtain ⟨x0, x1, xt, -⟩ := htok.inn x (List.mem_of_getElem? hx)
 obtain ⟨q, hq⟩ := Int.eq_ofNat_of_zero_le x0
 have Ac : e.td.take (i + 1) = e.td.take i ++ [x] := by rw [List.take_add_one, hx]; rfl
 refine ⟨q, hq, by omega, xt, ?_, by rw [← hq]; exact h.ok i x hx, by rw [Ac, pT, hq]⟩
 cases hz : hb (dX (e.td.take i) q) x.2 with
 | false => rfl
 | true =>
  exfalso
  have hm := wy xt (fun y hy => (htok.inn y (List.mem_of_mem_take hy)).2.2.1) hz
  have Aa := htok.nd
  rw [← List.take_append_drop i e.td] at Aa
  have hi := (List.getElem?_eq_some_iff.1 hx).1
  have hd : x ∈ e.td.drop i := by
   refine List.mem_of_getElem? (i := 0) ?_
   rw [List.getElem?_drop]
   exact hx
  have Ab : ((q : Int), x.2) = x := Prod.ext hq.symm rfl
  rw [Ab] at hm
  exact (List.nodup_append.1 Aa).2.2 x hm x hd rfl
end
end Go.Proofs.YtmlhcncagdfjfaaGreat.Fa
namespace Go.Proofs.YtmlhcncagdfjfaaGreat.Fa
open Go.RowKit
section
variable {w : World} {T : Th} {F : List Int} {fa ra ba ea : Option Addr} {fc rc bc ec : Nat}
end
set_option maxRecDepth 100000
set_option maxHeartbeats 3200000
def Prow (w : World) (a : Option Addr) (l : List (Int × Int)) : Prop := ∀ (i : Nat) x, l[i]? = some x → ∃ g : Nat, a = some ⟨g, 0, none⟩ ∧ w.cell? ⟨g, i * 2, none⟩ = some (.int .i64 x.1) ∧ w.cell? ⟨g, i * 2 + 1, none⟩ = some (.int .i64 x.2)
theorem Prow.go {w w' : World} {a : Option Addr} {l : List (Int × Int)} (h : Prow w a l) (hb : Below w.heap.size w w') : Prow w' a l := by
 intro i x hx
 obtain ⟨g, e, h1, h2⟩ := h i x hx
 have hk := hb.block g (World.block_lt_of_cell? w _ h1)
 exact ⟨g, e, (World.cell?_of_block hk).trans h1, (World.cell?_of_block hk).trans h2⟩
theorem zJ {w : World} {b : Nat} {a : Option Addr} {c : Nat} {l : List (Int × Int)} (h : w.ownsRow b 85 2 (.slice a l.length c) l.length (prs l)) : Prow w a l := by
 intro i x hx
 have hi := (List.getElem?_eq_some_iff.1 hx).1
 rcases h.2 with ⟨h1, h2⟩ | ⟨g, cap, Aa, h1, -, -, -⟩
 · omega
 · cases h1
   have hc := h.cells (g := g) rfl
   have p := pb hx
   have q0 := hc _ _ p.1
   have q1 := hc _ _ p.2
   refine ⟨g, rfl, ?_, ?_⟩
   · rw [← q0]; congr 1; simp [Addr.add]
   · rw [← q1]; congr 1; simp [Addr.add]
theorem xi {w : World} {b e k n c : Nat} {a : Option Addr} {xs : List Value} (h : w.ownsRow b e k (.slice a n c) n xs) : n ≤ c := by
 rcases h.2 with ⟨h1, h2⟩ | ⟨g, cap, Aa, h1, -, -, h3, -⟩
 · omega
 · cases h1; exact h3
theorem yq {T : Th} {F m : List Int} {n k : Nat} {e : Es} (hp : Pf T F n) (hs_ : fU T F m k) (h : nV T F n m e) (htk : e.tk = e.td.length) (htok : Tok n e) (x : Int × Int) : x ∈ e.td ↔ x ∈ dV m n := by
 have he := (tE hp hs_ h htk htok).1
 constructor
 · intro hx
   obtain ⟨x0, x1, xt, xh⟩ := htok.inn x hx
   obtain ⟨q, hq⟩ := Int.eq_ofNat_of_zero_le x0
   exact fG.2 ⟨q, by omega, hq, xt, by rw [← hq, ← he x.1 x.2 x0 x1 xt]; exact xh⟩
 · intro hx
   obtain ⟨q, h1, h2, h3, h4⟩ := fG.1 hx
   exact h.td x.1 x.2 h3 (by rw [he x.1 x.2 (by omega) (by omega) h3, h2]; exact h4)
section
variable {w : World} {T : Th} {F : List Int} {fa ra ba ea : Option Addr} {fc rc bc ec : Nat}
theorem wK (h : TA w.heap.size w T fa fc ra rc ba bc) (hF : Ints w.heap.size w F (.slice ea F.length ec)) {n : Nat} (hp : Pf T F n) :
    Calls Tryz.prog 131 #[tv T fa fc ra rc ba bc, .slice ea F.length ec] w fun o w' => ∃ K td ta tc m k, o = .returned (aa K) ∧ w'.cell? ⟨K, 19, none⟩ = some (.slice ta (List.length td) tc) ∧ (fU T F m k ∧ List.length td = bL m n ∧ Tld T F n td ∧ td.Nodup ∧ ∀ x, x ∈ td ↔ x ∈ dV m n) ∧ Prow w' ta td ∧ List.length td ≤ tc ∧ Below w.heap.size w w' := by
 obtain ⟨m, k, hs⟩ := uo hp
 refine (zG (Inv := fun e => nV T F n m e) h hF hp (lD hp) (uP hp hs) fun e hi ht hl => yi hp hs hi ht hl).mono ?_
 rintro o w' ⟨A, S, N, e, rfl, hN, ⟨Ac, he⟩, hi, Aa, hb⟩
 have Ab : ∃ ta tc, Ac = .slice ta e.td.length tc := bG he.td
 obtain ⟨ta, tc, rfl⟩ := Ab
 obtain ⟨G, iv, -, -⟩ := hi.iv
 exact ⟨A.K, e.td, ta, tc, m, k, rfl, he.bx.get (i := 19) rfl, ⟨hs, xd hp hs hi Aa he.tok, Tld.of iv.o he.tok, he.tok.nd, yq hp hs hi Aa he.tok⟩, zJ he.td, xi he.td, hb⟩
theorem xx (h : TA w.heap.size w T fa fc ra rc ba bc) (hF : Ints w.heap.size w F (.slice ea F.length ec)) (h0 : bB T F = 0) :
    Calls Tryz.prog 93 #[tv T fa fc ra rc ba bc, .slice ea F.length ec] w fun e w' => ∃ td ta tc m k, e = .returned (.tuple #[.slice ta (List.length td) tc, .int .i64 0]) ∧ (fU T F m k ∧ List.length td = bL m T.lits.toNat ∧ Tld T F T.lits.toNat td ∧ td.Nodup ∧ ∀ x, x ∈ td ↔ x ∈ dV m T.lits.toNat) ∧ Prow w' ta td ∧ List.length td ≤ tc ∧ Below w.heap.size w w' := by
 have hB := ae w (.cells #[.int .i64 T.lits, .slice fa T.foes.length fc, .slice ra T.rules.length rc, .slice ba T.beats.length bc] 25)
 have hX := heap_alloc_new w (.cells #[.int .i64 T.lits, .slice fa T.foes.length fc, .slice ra T.rules.length rc, .slice ba T.beats.length bc] 25)
 have CF := hide (mK (TR.go hB h) (Ints.go hB hF))
 rw [h0] at CF
 have HP := hide (oI h0)
 have Ag := hide (TR.go hB h)
 have HF := hide (Ints.go hB hF)
 have HB := hide hB
 have HX := hide hX
 clear h hB hF h0
 go_enter Tryz.func93, Tryz.ntmps93
 go_upto_region 1 with fail
 generalize w.alloc (.cells #[.int .i64 T.lits, .slice fa T.foes.length fc, .slice ra T.rules.length rc, .slice ba T.beats.length bc] 25) = W at *
 obtain ⟨-, c0, c1, c2, c3⟩ := Bt.of hX
 clear hX
 go_upto_region 4 with (go_at_call 130; refine CF.out.mono ?_; rintro _ w1 ⟨rfl, Ad⟩; have Aa := hide Ad; clear Ad)
 have Ai := hide ((Aa.out.block _ (aL HX.out)).trans HX.out)
 have CS := hide (wK (TR.go Aa.out Ag.out) (Ints.go Aa.out HF.out) HP.out)
 have Ah := hide (HB.out.trans (Aa.out.mono HB.out.size))
 clear c0 c1 c2 c3 CF HX Ag HF HB Aa
 obtain ⟨-, c0, c1, c2, c3⟩ := Bt.of Ai.out
 go_wp2_with (go_at_call 131; refine CS.out.mono ?_; rintro _ w2 ⟨K, td, ta, tc, m, k, rfl, Al, Af, Ab, Ac, Ae⟩; have HS := hide Af; have HO := hide Ab; have Aj := hide Ac; have Ak := hide (Ah.out.trans (Ae.mono Ah.out.size)); clear Af Ab Ac Ae)
 go_ret2
 exact ⟨td, ta, tc, m, k, rfl, HS.out, HO.out, Aj.out, Ak.out⟩
end
end Go.Proofs.YtmlhcncagdfjfaaGreat.Fa
