import Derived.Test.YtmlhcncagdfjfaaGreatDrM
import Derived.Test.YtmlhcncagdfjfaaGreatDrP
import Derived.Test.YtmlhcncagdfjfaaGreatFs2
import Derived.Test.YtmlhcncagdfjfaaGreatLyp
namespace Go.Proofs.YtmlhcncagdfjfaaGreat.De
open Go.RowKit Fa
theorem Ixs.ll {base c : Nat} {K : cC} {T : Th} {L : aC → List Int} {V : aC → Value} {w : World} (h : Ixs base K T L V c w) {d : Nat} (hd : d < 3) {R : Int → List Int} (hR : ∀ z : Nat, z < K.n → L (d, z, 0) = R z) {S : Nat → Prop} (hS : ∀ k, base ≤ k → k < w.heap.size → S k) : LL S R K.n (gK K d) w := by
 refine ⟨hS _ (h.lo.2.2 d hd) (h.rw d hd).lt, eq V d K.n, h.rw d hd, by unfold eq; simp, fun i hi => ?_⟩
 have ho := h.pl.own (d, i, 0)
 obtain ⟨a, k, e⟩ := h.pl.at (d, i, 0)
 rw [e] at ho
 rw [hR i hi] at ho e
 refine ⟨a, k, (gl hi).trans (congrArg some e), dW ho, fun g o e2 _ => ?_⟩
 have Aa := ho.lt g (by rw [e2]; rfl)
 exact hS g Aa.1 Aa.2
theorem Ixs.xr {base c N0 : Nat} {K : cC} {T : Th} {V : aC → Value} {w : World} (h : Ixs base K T (GL T K.n T.rules.length) V c w) (hta : TA N0 w T K.fa K.fc K.ra K.rc K.ba K.bc) (hn0 : N0 ≤ w.heap.size) (hn4 : K.n ≤ 4096) : Xr (fun g => base ≤ g ∧ g < w.heap.size) N0 K T w := by
 obtain ⟨es, clock, hm, hM⟩ := h.mp
 have g : ∀ {d z : Nat}, z < K.n → GL T K.n T.rules.length (d, z, 0) = if d = 0 then ag T kS z else if d = 1 then ag T kT z else if d = 2 then aG T z else GL T K.n T.rules.length (d, z, 0) := fun {d z} hz => by
  unfold GL
  by_cases h0 : d = 0
  ·simp [h0, hz, ag]
  by_cases h1 : d = 1
  ·simp [h1, hz, ag]
  by_cases h2 : d = 2
  ·simp [h2, hz, aG]
  simp [h0, h1, h2]
 refine ⟨⟨h.lo.1, h.bx.lt⟩, h.bx, hta, h.ll (d := 0) (by omega) (fun z hz => by rw [g hz]; rfl) fun _ a b => ⟨a, b⟩, h.ll (d := 1) (by omega) (fun z hz => by rw [g hz]; rfl) fun _ a b => ⟨a, b⟩, h.ll (d := 2) (by omega) (fun z hz => by rw [g hz]; rfl) fun _ a b => ⟨a, b⟩, ⟨h.lo.2.1, (Array.getElem?_eq_some_iff.1 hm).1⟩, fun s z hs hz => ?_, fun _ hg => hg.2, hn0⟩
 have e : GL T K.n T.rules.length (3, s, z) = aQ T z s := by simp [GL, hz, aQ]
 have ho := h.pl.own (3, s, z)
 obtain ⟨a, k, e2⟩ := h.pl.at (3, s, z)
 rw [e2] at ho
 rw [e] at ho e2
 refine ⟨a, k, fun w' hw' => ?_, dW ho, fun g o e3 _ => ?_⟩
 ·rw [← e2]; exact xk (hw'.trans hm) hM hs (by omega)
 have Aa := ho.lt g (by rw [e3]; rfl)
 exact Aa
end Go.Proofs.YtmlhcncagdfjfaaGreat.De
set_option maxRecDepth 100000
set_option maxHeartbeats 12800000
namespace Go.Proofs.YtmlhcncagdfjfaaGreat.De
open Go.RowKit Fa Rg
theorem qI {b : Int} : ∀ {l : List Int} {p : Int}, l.Pairwise (· < ·) → (∀ x ∈ l, p < x ∧ x < b) → p < b → (l.length : Int) ≤ b - p - 1
 | [], p, _, _, h => by simp; omega
 | y :: l, p, hp, hx, _ => by
  have hy := hx y (List.mem_cons_self ..)
  have h2 := List.pairwise_cons.1 hp
  have := qI (b := b) (l := l) (p := y) h2.2 (fun x hm => ⟨h2.1 x hm, (hx x (List.mem_cons_of_mem _ hm)).2⟩) (by omega)
  simp only [List.length_cons]
  omega
theorem xN {F : List (List Int)} {k : Nat} : row F (k : Int) = [] ∨ F[k]? = some (row F (k : Int)) := by
 unfold row
 rw [Int.toNat_natCast, List.getD_eq_getElem?_getD]
 cases e : F[k]? with
 | none => exact .inl rfl
 | some l => exact .inr rfl
theorem sk {T : Th} {F : List Int} {n : Nat} (hp : Pf T F n) : Wt T n ∧ T.beats.length = T.rules.length ∧ (∀ k : Nat, ∀ y ∈ row T.beats k, 0 ≤ y ∧ y < (T.rules.length : Int)) ∧ ∀ k : Nat, (row T.beats k).Nodup ∧ (row T.beats k).length ≤ 4096 := by
 have hb : ∀ k : Nat, (row T.beats k).Pairwise (· < ·) ∧ ∀ y ∈ row T.beats k, -1 < y ∧ y < (T.rules.length : Int) := fun k => by
  rcases xN (F := T.beats) (k := k) with e | e
  ·rw [e]; exact ⟨List.Pairwise.nil, fun y hy => by cases hy⟩
  have := bS (by omega) (hp.ok.beat k _ e).1
  exact ⟨this.2, this.1⟩
 refine ⟨⟨hp.ln, hp.n4, hp.ok.rl, by have := hp.ok.fl; have := hp.ln; omega, hp.body, hp.head, fun z hz x hx => hp.foe z hz x hx, fun z hz => gG hp hz⟩, hp.ok.bl, fun k y hy => by have := (hb k).2 y hy; omega, fun k => ⟨(hb k).1.imp fun h => by omega, ?_⟩⟩
 have := qI (hb k).1 (hb k).2 (by omega)
 have := hp.ok.rl
 omega
def wH (T : Th) (fa ra ba : Option Addr) (fc rc bc bq n N0 N : Nat) (i : Nat) (v : Value) (W : World) (lo hi : Nat) : Prop := match i with
 | 0 => v = .agg #[.int .i64 T.lits, .slice fa T.foes.length fc, .slice ra T.rules.length rc, .slice ba T.beats.length bc]
 | 2 | 5 => v = aa bq
 | 3 | 6 => v = .int .i64 T.lits
 | 1 => ∃ q g0 g1 g2 mb, v = aa q ∧ Xr (fun g => lo ≤ g ∧ g < hi) N0 ⟨q, n, fa, fc, ra, rc, ba, bc, g0, g1, g2, mb⟩ T W ∧ N ≤ lo
 | 4 => ∃ g, v = ay g n ∧ Fx g 4 (cq n fun _ => false) W ∧ lo ≤ g ∧ g < hi ∧ N ≤ g
 | 7 => ∃ g, v = ay g n ∧ Fx g 67 (eQ n fun _ => 0) W ∧ lo ≤ g ∧ g < hi ∧ N ≤ g
 | 8 => ∃ (S : Nat → Prop) (q g0 g1 g2 mb fm sd : Nat), v = .agg #[aa q, ay fm n, ay sd n] ∧ Xr S N0 ⟨q, n, fa, fc, ra, rc, ba, bc, g0, g1, g2, mb⟩ T W ∧ Fx fm 4 (cq n fun _ => false) W ∧ Fx sd 67 (eQ n fun _ => 0) W ∧ (¬ S sd ∧ ¬ S fm) ∧ (N ≤ fm ∧ N ≤ sd ∧ ∀ g, S g → N ≤ g)
 | 9 | 10 => ∃ (S : Nat → Prop) (q g0 g1 g2 mb fm sd pq : Nat), v = aa pq ∧ Fx pq 108 [aa q, ay fm n, ay sd n] W ∧ (¬ S pq ∧ N ≤ pq) ∧ Xr S N0 ⟨q, n, fa, fc, ra, rc, ba, bc, g0, g1, g2, mb⟩ T W ∧ Fx fm 4 (cq n fun _ => false) W ∧ Fx sd 67 (eQ n fun _ => 0) W ∧ (¬ S sd ∧ ¬ S fm) ∧ (N ≤ fm ∧ N ≤ sd ∧ ∀ g, S g → N ≤ g)
 | _ => True
theorem eR {T : Th} {fa ra ba : Option Addr} {fc rc bc bq n N0 N : Nat} : ∀ i v W W' lo hi, wH T fa ra ba fc rc bc bq n N0 N i v W lo hi → hi ≤ W.heap.size → Below W.heap.size W W' → wH T fa ra ba fc rc bc bq n N0 N i v W' lo hi := by
 intro i v W W' lo hi h hh hb
 have k : ∀ {g t : Nat} {xs : List Value}, Fx g t xs W → Fx g t xs W' := fun hf => hf.keep (hb.block _ hf.lt)
 unfold wH at *
 split at h
 all_goals first
  | exact h
  | (obtain ⟨g, a, b, c⟩ := h; exact ⟨g, a, k b, c⟩)
  | (obtain ⟨q, g0, g1, g2, mb, a, b, c⟩ := h; exact ⟨q, g0, g1, g2, mb, a, b.go hb, c⟩)
  | (obtain ⟨S, q, g0, g1, g2, mb, fm, sd, a, b, c, d, e⟩ := h; exact ⟨S, q, g0, g1, g2, mb, fm, sd, a, b.go hb, k c, k d, e⟩)
  | (obtain ⟨S, q, g0, g1, g2, mb, fm, sd, pq, a, x, y, b, c, d, e⟩ := h; exact ⟨S, q, g0, g1, g2, mb, fm, sd, pq, a, k x, y, b.go hb, k c, k d, e⟩)
  | trivial
theorem Pm.fact {K : cC} {pq fm sd : Nat} {F F2 : List Int} {f : Int → Int} {w : World} (h : Pm K pq fm sd F f w) {i : Nat} (hi : i < K.n) (h2 : ∀ z, z ∈ F2 ↔ z ∈ F ∨ z = (i : Int)) : Pm K pq fm sd F2 f (w.setCell ⟨fm, i, none⟩ (.bool true)) := by
 refine ⟨h.bx.keep (other_set (an h.bx h.ff (by decide))), ?_, h.sd.keep (other_set (an h.sd h.ff (by decide)))⟩
 have := h.ff.set i (.bool true)
 rw [mD hi] at this
 have e : aA (fun z => decide (z ∈ F)) (i : Int) true = fun z => decide (z ∈ F2) := by
  funext z
  by_cases ez : z = (i : Int)
  ·subst ez
   rw [aL]
   simp [h2]
  rw [aS ez]
  simp [h2, ez]
 rw [e] at this
 exact this
theorem kY {w : World} {T : Th} {F : List Int} {n : Nat} {fa ra ba ea : Option Addr} {fc rc bc ec : Nat} (h : TA w.heap.size w T fa fc ra rc ba bc) (hF : Ints w.heap.size w F (.slice ea F.length ec)) (hp : Pf T F n) :
    Calls Tryz.prog 32 #[tv T fa fc ra rc ba bc, .slice ea F.length ec] w fun e w' => ∃ (S : Nat → Prop) (q g0 g1 g2 mb fm sd pq : Nat), e = .returned (aa pq) ∧ Xr S w.heap.size ⟨q, n, fa, fc, ra, rc, ba, bc, g0, g1, g2, mb⟩ T w' ∧ Pm ⟨q, n, fa, fc, ra, rc, ba, bc, g0, g1, g2, mb⟩ pq fm sd F (fun _ => 0) w' ∧ (¬ S sd ∧ ¬ S fm ∧ ¬ S pq) ∧ (w.heap.size ≤ sd ∧ w.heap.size ≤ fm ∧ w.heap.size ≤ pq ∧ ∀ g, S g → w.heap.size ≤ g) ∧ Below w.heap.size w w' := by
 obtain ⟨hW, Ax, Az, Af⟩ := sk hp
 obtain ⟨iB, AL, AN, AO, AR⟩ := info_parts jt
 obtain ⟨iM, AV, AP, AK, AT⟩ := info_parts tS
 have Bg := hp.n4
 have Au : ∀ W, (Instr.makeSlice 106 (.int .i64 T.lits) (.int .i64 T.lits)).run Tryz.prog W = .ok (ay W.heap.size n) (W.alloc (.cells (Array.replicate n (.bool false)) 4)) := fun W => by rw [hp.ln]; exact aH (P := Tryz.prog) Tryz.underlying106 AL AN AO rfl n (by rw [AR]; omega) (by unfold maxLen; omega) W
 have AD : ∀ W, (Instr.makeSlice 64 (.int .i64 T.lits) (.int .i64 T.lits)).run Tryz.prog W = .ok (ay W.heap.size n) (W.alloc (.cells (Array.replicate n (.int .u8 0)) 67)) := fun W => by rw [hp.ln]; exact aH (P := Tryz.prog) Tryz.underlying64 AV AP AK rfl n (by rw [AT]; omega) (by unfold maxLen; omega) W
 obtain ⟨N0, Ag⟩ : ∃ N0, w.heap.size = N0 := ⟨_, rfl⟩
 have hB := ae w (.cells #[.int .i64 T.lits, .slice fa T.foes.length fc, .slice ra T.rules.length rc, .slice ba T.beats.length bc] 25)
 have AH : Fx w.heap.size 25 [.int .i64 T.lits, .slice fa T.foes.length fc, .slice ra T.rules.length rc, .slice ba T.beats.length bc] (w.alloc (.cells #[.int .i64 T.lits, .slice fa T.foes.length fc, .slice ra T.rules.length rc, .slice ba T.beats.length bc] 25)) := heap_alloc_new w _
 have CN : Hid (∀ X, Below w.heap.size w X → Calls Tryz.prog 39 #[tv T fa fc ra rc ba bc] X fun e w' => ∃ q g0 g1 g2 mb, e = .returned (aa q) ∧ Xr (fun g => X.heap.size ≤ g ∧ g < w'.heap.size) N0 ⟨q, n, fa, fc, ra, rc, ba, bc, g0, g1, g2, mb⟩ T w' ∧ Below X.heap.size X w') := hide fun X hX => by
  refine (iu (TR.go hX h) hW Ax Az Af).mono ?_
  rintro e w' ⟨q, g0, g1, g2, mb, V, c, rfl, hI, hb⟩
  refine ⟨q, g0, g1, g2, mb, rfl, (hI.far (base' := X.heap.size) (fun _ _ _ => rfl) (by omega)).xr (TR.keep (fun g hg => (hb.block g (by have := hX.size; omega)).trans (hX.block g (by omega))) (by rw [← Ag]; exact h)) (by have := hX.size; have := hb.size; omega) hp.n4, hb⟩
 have AQ := hide hF
 have Bk := hF.lim
 have HFi := hide hp.fact
 have HB := hide hB
 have As := hide AH
 clear h hF hp hB hW Ax Az Af
 rw [Ag] at CN
 go_enter Tryz.func32, Tryz.ntmps32
 go_upto_region 1 with fail
 clear AH
 generalize w.alloc (.cells #[.int .i64 T.lits, .slice fa T.foes.length fc, .slice ra T.rules.length rc, .slice ba T.beats.length bc] 25) = W at *
 rw [Ag] at As HB
 have HDr := hide ((Below.refl W.heap.size W).drew)
 obtain ⟨W0, AC⟩ : ∃ W0, W.drew = W0 := ⟨_, rfl⟩
 have HX1d := hide (As.out.keep (HDr.out.block _ As.out.lt))
 have Ab : Hid (fQ [some 8, some 9, some 10, some 11, some 12, some 13, some 14, some 15, some 16, some 17, some 5] [(2, aa N0)] = true) := hide rfl
 rw [AC] at HX1d HDr
 have AI : Hid (∀ X, Below W0.heap.size W0 X → Below N0 w X) := hide fun X hX => by
  have h1 := HB.out.trans (HDr.out.mono (by rw [← Ag]; exact HB.out.size))
  exact h1.trans (hX.mono (by have := h1.size; omega))
 have Ac : Hid (∀ X, Below W0.heap.size W0 X → X.cell? ⟨N0, 0, none⟩ = some (.int .i64 T.lits) ∧ X.cell? ⟨N0, 1, none⟩ = some (.slice fa T.foes.length fc) ∧ X.cell? ⟨N0, 2, none⟩ = some (.slice ra T.rules.length rc) ∧ X.cell? ⟨N0, 3, none⟩ = some (.slice ba T.beats.length bc)) := hide fun X hX => by
  have hf := HX1d.out.keep (hX.block _ HX1d.out.lt)
  exact ⟨hf.get (i := 0) rfl, hf.get (i := 1) rfl, hf.get (i := 2) rfl, hf.get (i := 3) rfl⟩
 have eT : ∀ args w', (callFunc 39 args).run Tryz.prog w' = .ok (.enter 39 args) w' := enters_go Tryz.func39 (by kernel_rfl) (by kernel_rfl)
 refine bW fY (Jg [some 8, some 9, some 10, some 11, some 12, some 13, some 14, some 15, some 16, some 17, some 5] [(2, aa N0)] (wH T fa ra ba fc rc bc N0 n N0 W0.heap.size) W0) (by kernel_rfl) (by kernel_rfl) ?_ (ci ⟨?_, ?_, ?_, ?_, ?_, ?_, ?_, ?_, ?_, ?_, ?_, trivial⟩) ?_ ?_
 ·show Jg _ _ _ W0 _ _ W.drew
  rw [AC]
  exact Jg.start.2 fun p hp => by simp at hp; subst hp; rfl
 ·intro ρ X L hc hf hL hd Aa hJ
  obtain ⟨c0, c1, c2, c3⟩ := Ac.out X hJ.low
  have k2 : ρ (.tmp 2) = aa N0 := hJ.base (2, aa N0) (by simp)
  refine ac (v := .agg #[.int .i64 T.lits, .slice fa T.foes.length fc, .slice ra T.rules.length rc, .slice ba T.beats.length bc]) (w' := X) ?_ (hJ.put Ab.out eR (i := 0) (d := 8) rfl (Below.refl _ _) (rfl))
  clear hd Aa hJ hL
  go_simp
 ·intro ρ X L hc hf hL hd Aa hJ
  obtain ⟨c0, c1, c2, c3⟩ := Ac.out X hJ.low
  have k8 : ρ (.tmp 8) = .agg #[.int .i64 T.lits, .slice fa T.foes.length fc, .slice ra T.rules.length rc, .slice ba T.beats.length bc] := by
   obtain ⟨_, _, _, e1⟩ := hJ.get (i := 0) (d := 8) rfl (hd ⟨0, .data⟩ (by simp) rfl)
   exact e1
  have hC := CN.out X (AI.out X hJ.low)
  have he := eT #[.agg #[.int .i64 T.lits, .slice fa T.foes.length fc, .slice ra T.rules.length rc, .slice ba T.beats.length bc]] X
  refine dT (f := 39) (args := #[.agg #[.int .i64 T.lits, .slice fa T.foes.length fc, .slice ra T.rules.length rc, .slice ba T.beats.length bc]]) (w' := X) ?_ hC ?_
  ·clear hd Aa hJ hL hC
   go_simp
  rintro _ Y ⟨q, g0, g1, g2, mb, rfl, hX, hb⟩
  exact ⟨_, rfl, hJ.put Ab.out eR (i := 1) (d := 9) rfl hb ⟨q, g0, g1, g2, mb, rfl, hX, hJ.low.size⟩⟩
 ·intro ρ X L hc hf hL hd Aa hJ
  obtain ⟨c0, c1, c2, c3⟩ := Ac.out X hJ.low
  have k2 : ρ (.tmp 2) = aa N0 := hJ.base (2, aa N0) (by simp)
  refine ac (v := aa N0) (w' := X) ?_ (hJ.put Ab.out eR (i := 2) (d := 10) rfl (Below.refl _ _) (rfl))
  clear hd Aa hJ hL
  go_simp
 ·intro ρ X L hc hf hL hd Aa hJ
  obtain ⟨c0, c1, c2, c3⟩ := Ac.out X hJ.low
  have Bb : ρ (.tmp 10) = aa N0 := by
   obtain ⟨_, _, _, e1⟩ := hJ.get (i := 2) (d := 10) rfl (hd ⟨2, .data⟩ (by simp) rfl)
   exact e1
  refine ac (v := .int .i64 T.lits) (w' := X) ?_ (hJ.put Ab.out eR (i := 3) (d := 11) rfl (Below.refl _ _) (rfl))
  clear hd Aa hJ hL
  go_simp
 ·intro ρ X L hc hf hL hd Aa hJ
  obtain ⟨c0, c1, c2, c3⟩ := Ac.out X hJ.low
  have Bd : ρ (.tmp 11) = .int .i64 T.lits := by
   obtain ⟨_, _, _, e1⟩ := hJ.get (i := 3) (d := 11) rfl (hd ⟨3, .data⟩ (by simp) rfl)
   exact e1
  have AW := Au X
  refine ac (v := ay X.heap.size n) (w' := X.alloc (.cells (Array.replicate n (.bool false)) 4)) ?_ (hJ.put Ab.out eR (i := 4) (d := 12) rfl (ae X _) (⟨X.heap.size, rfl, by unfold Fx cq; rw [heap_alloc_new]; simp [List.map_const'], Nat.le_refl _, by simp, hJ.low.size⟩))
  clear hd Aa hJ hL
  go_simp
 ·intro ρ X L hc hf hL hd Aa hJ
  obtain ⟨c0, c1, c2, c3⟩ := Ac.out X hJ.low
  have k2 : ρ (.tmp 2) = aa N0 := hJ.base (2, aa N0) (by simp)
  refine ac (v := aa N0) (w' := X) ?_ (hJ.put Ab.out eR (i := 5) (d := 13) rfl (Below.refl _ _) (rfl))
  clear hd Aa hJ hL
  go_simp
 ·intro ρ X L hc hf hL hd Aa hJ
  obtain ⟨c0, c1, c2, c3⟩ := Ac.out X hJ.low
  have Bj : ρ (.tmp 13) = aa N0 := by
   obtain ⟨_, _, _, e1⟩ := hJ.get (i := 5) (d := 13) rfl (hd ⟨5, .data⟩ (by simp) rfl)
   exact e1
  refine ac (v := .int .i64 T.lits) (w' := X) ?_ (hJ.put Ab.out eR (i := 6) (d := 14) rfl (Below.refl _ _) (rfl))
  clear hd Aa hJ hL
  go_simp
 ·intro ρ X L hc hf hL hd Aa hJ
  obtain ⟨c0, c1, c2, c3⟩ := Ac.out X hJ.low
  have Be : ρ (.tmp 14) = .int .i64 T.lits := by
   obtain ⟨_, _, _, e1⟩ := hJ.get (i := 6) (d := 14) rfl (hd ⟨6, .data⟩ (by simp) rfl)
   exact e1
  have AW := AD X
  refine ac (v := ay X.heap.size n) (w' := X.alloc (.cells (Array.replicate n (.int .u8 0)) 67)) ?_ (hJ.put Ab.out eR (i := 7) (d := 15) rfl (ae X _) (⟨X.heap.size, rfl, by unfold Fx eQ; rw [heap_alloc_new]; simp [List.map_const'], Nat.le_refl _, by simp, hJ.low.size⟩))
  clear hd Aa hJ hL
  go_simp
 ·intro ρ X L hc hf hL hd Aa hJ
  obtain ⟨c0, c1, c2, c3⟩ := Ac.out X hJ.low
  obtain ⟨lo, hi, An, Al⟩ := hJ.at_
  have l1 : L 1 = true := hd ⟨1, .data⟩ (by simp) rfl
  have l4 : L 4 = true := hd ⟨4, .data⟩ (by simp) rfl
  have l7 : L 7 = true := hd ⟨7, .data⟩ (by simp) rfl
  obtain ⟨-, -, -, q, g0, g1, g2, mb, e1, x1, n1⟩ := An 1 9 rfl l1
  obtain ⟨-, -, -, fm, e4, f4, a4, b4, n4⟩ := An 4 12 rfl l4
  obtain ⟨-, -, -, sd, e7, f7, a7, b7, n7⟩ := An 7 15 rfl l7
  have d1 := Al 1 4 9 12 rfl rfl (by decide) l1 l4
  have d2 := Al 1 7 9 15 rfl rfl (by decide) l1 l7
  have k9 : ρ (.tmp 9) = aa q := e1
  have Bf : ρ (.tmp 12) = ay fm n := e4
  have Bc : ρ (.tmp 15) = ay sd n := e7
  refine ac (v := .agg #[aa q, ay fm n, ay sd n]) (w' := X) ?_ (hJ.put Ab.out eR (i := 8) (d := 16) rfl (Below.refl _ _) ⟨_, q, g0, g1, g2, mb, fm, sd, rfl, x1, f4, f7, ⟨fun h => by omega, fun h => by omega⟩, n4, n7, fun g hg => by omega⟩)
  clear hd Aa hJ hL An Al d1 d2 e1 e4 e7 x1 f4 f7
  go_simp
 ·intro ρ X L hc hf hL hd Aa hJ
  obtain ⟨c0, c1, c2, c3⟩ := Ac.out X hJ.low
  obtain ⟨_, _, AU, S, q, g0, g1, g2, mb, fm, sd, AF, hx, Ai, Aj, AA, AB⟩ := hJ.get (i := 8) (d := 16) rfl (hd ⟨8, .data⟩ (by simp) rfl)
  have Bh : ρ (.tmp 16) = .agg #[aa q, ay fm n, ay sd n] := AF
  have Af := ae X (.cells #[aa q, ay fm n, ay sd n] 108)
  refine ac (v := aa X.heap.size) (w' := X.alloc (.cells #[aa q, ay fm n, ay sd n] 108)) ?_ (hJ.put Ab.out eR (i := 9) (d := 17) rfl Af ⟨S, q, g0, g1, g2, mb, fm, sd, X.heap.size, rfl, heap_alloc_new X _, ⟨fun h => by have := hx.lt _ h; omega, hJ.low.size⟩, hx.go Af, Ai.keep (Af.block _ Ai.lt), Aj.keep (Af.block _ Aj.lt), AA, AB⟩)
  clear hd Aa hJ hL hx Ai Aj AA AB AF Af
  go_simp
 ·intro ρ X L hc hf hL hd Aa hJ
  obtain ⟨c0, c1, c2, c3⟩ := Ac.out X hJ.low
  obtain ⟨_, _, AU, S, q, g0, g1, g2, mb, fm, sd, pq, Ay, Ar⟩ := hJ.get (i := 9) (d := 17) rfl (hd ⟨9, .data⟩ (by simp) rfl)
  have Bi : ρ (.tmp 17) = aa pq := Ay
  refine ac (v := aa pq) (w' := X) ?_ (hJ.put Ab.out eR (i := 10) (d := 5) rfl (Below.refl _ _) ⟨S, q, g0, g1, g2, mb, fm, sd, pq, rfl, Ar⟩)
  clear hd Aa hJ hL Ar Ay
  go_simp
 ·intro c a' w' _ hE
  exact hE.elim
 rintro ⟨Ad, df⟩ w' At Aw ⟨Lq, AJ, hJ⟩ Aq
 simp only at Aw At
 subst Aw
 obtain ⟨_, _, _, S, q, g0, g1, g2, mb, fm, sd, pq, e5, AE, ⟨n1, n2⟩, hx, Ai, Aj, ⟨n3, n4⟩, n5, n6, n7⟩ := hJ.get (i := 10) (d := 5) rfl (AJ 10 (by decide))
 have AG := AI.out _ hJ.low
 have AY : N0 ≤ W0.heap.size := by have h1 := HB.out.trans (HDr.out.mono (by rw [← Ag]; exact HB.out.size)); have := h1.size; omega
 have e5 : Ad.getD 5 undef = aa pq := e5
 have Ap := en 8 17 5 (by kernel_rfl) At Aq
 simp only [zs, Nat.reduceLT, Nat.reduceAdd, true_or, or_true, or_self, false_and, ne_eq, Nat.reduceEqDiff, not_false_eq_true, not_true_eq_false, and_self, and_false, if_true, if_false, e5] at Ap
 rw [Ap]
 have Ae : Hid (Pm ⟨q, n, fa, fc, ra, rc, ba, bc, g0, g1, g2, mb⟩ pq fm sd (F.take 0) (fun _ => 0) w') := hide ⟨AE, by simpa using Ai, Aj⟩
 have AM := hide hx
 have Am := hide (And.intro n1 (And.intro n3 n4))
 have Ah : Hid (N0 ≤ pq ∧ N0 ≤ fm ∧ N0 ≤ sd ∧ ∀ g, S g → N0 ≤ g) := hide ⟨by omega, by omega, by omega, fun g hg => by have := n7 g hg; omega⟩
 have Ao := hide AG
 clear Ap hJ AJ Aq At e5 Au AD Ac Ab AE hx Ai Aj n1 n2 n3 n4 n5 n6 n7 AG AY CN eT
 generalize Ad.getD 8 undef = x8
 generalize Ad.getD 9 undef = x9
 generalize Ad.getD 10 undef = x10
 generalize Ad.getD 11 undef = x11
 generalize Ad.getD 12 undef = x12
 generalize Ad.getD 13 undef = x13
 generalize Ad.getD 14 undef = x14
 generalize Ad.getD 15 undef = x15
 generalize Ad.getD 16 undef = x16
 generalize Ad.getD 17 undef = x17
 go_wp2_with fail
 go_loopw [20] (fun xv wr => ∃ k : Nat, k ≤ F.length ∧ xv = .int .i64 k ∧ Hid (Pm ⟨q, n, fa, fc, ra, rc, ba, bc, g0, g1, g2, mb⟩ pq fm sd (F.take k) (fun _ => 0) wr) ∧ Hid (Fr (fun g => g = fm) w' wr)) (fun x _ => F.length - (intOf x).toNat)
 case atStart => exact ⟨0, by omega, rfl, Ae, hide (Fr.refl _ _)⟩
 clear Ae
 obtain ⟨k, hk, rfl, Ae, Ak⟩ := hrel
 by_cases hlt : k < F.length
 ·obtain ⟨f, hf⟩ := am hlt
  have AS := HFi.out f (List.mem_of_getElem? hf)
  obtain ⟨i, rfl⟩ : ∃ i : Nat, f = (i : Int) := ⟨f.toNat, by omega⟩
  have Av : i < n := by omega
  have hI : Ints w.heap.size wr F (.slice ea F.length ec) := AQ.out.keep fun g hg => (Ak.out.block g (by have := Ao.out.size; omega) (by have := Ah.out.2.1; omega)).trans (Ao.out.block g (by omega))
  obtain ⟨g5, o5, rfl, -, y5⟩ := ji hI hf
  have p1 := Ae.out.bx.get (i := 1) (v := ay fm n) rfl
  have cm := Ae.out.ff.get (i := i) (dy Av)
  have fz := Ae.out.ff.frz i
  have AZ := hide (Ae.out.fact (F2 := F.take (k + 1)) Av fun z => by rw [bD hf]; simp)
  have Ba := hide (Ak.out.trans (Fr.setCell (Z := fun g => g = fm) (w := wr) ⟨fm, i, none⟩ (.bool true) rfl))
  clear hI AS Ae Ak
  go_wp2_with fail
  go_roundw
  case rel => exact ⟨k + 1, by omega, by go_num, AZ, Ba⟩
  case measure => simp [intOf]; omega
 have AX : k = F.length := by omega
 have Ae : Hid (Pm ⟨q, n, fa, fc, ra, rc, ba, bc, g0, g1, g2, mb⟩ pq fm sd F (fun _ => 0) wr) := hide (by have := Ae.out; rw [AX, List.take_length] at this; exact this)
 go_wp2_with fail
 go_ret
 exact ⟨S, q, g0, g1, g2, mb, fm, sd, pq, rfl, by rw [Ag]; exact AM.out.fr Ak.out fun k hk => by rw [hk]; exact ⟨Am.out.2.2, Ah.out.2.1⟩, Ae.out, ⟨Am.out.2.1, Am.out.2.2, Am.out.1⟩, by rw [Ag]; exact ⟨Ah.out.2.2.1, Ah.out.2.1, Ah.out.1, Ah.out.2.2.2⟩, by rw [Ag]; exact Ao.out.trans (Ak.out.below fun k hk => ⟨by have := Ao.out.size; omega, fun e => by have := Ah.out.2.1; omega⟩)⟩
end Go.Proofs.YtmlhcncagdfjfaaGreat.De
