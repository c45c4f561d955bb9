import Derived.Test.YtmlhcncagdfjfaaGreatDrI
import Derived.Test.YtmlhcncagdfjfaaGreatFs2
set_option maxRecDepth 100000
set_option maxHeartbeats 12800000
namespace Go.Proofs.YtmlhcncagdfjfaaGreat.Fa
open Go.RowKit Rg
def fY (_ : List PanicEntry) (_ : World) : Prop := False
def zi (rl tm rv : Nat) (c : Nat) : Nat := if c = 0 then rl else if c = 1 then tm else rv
abbrev cW (T : Th) (fa ra ba : Option Addr) (fc rc bc rl tm rv fm n : Nat) : List Value := [.int .i64 T.lits, .slice fa T.foes.length fc, .slice ra T.rules.length rc, .slice ba T.beats.length bc, sl rl n, sl tm n, sl rv n, sl fm n]
structure Nx (base q rl tm rv fm : Nat) (fa ra ba : Option Addr) (fc rc bc : Nat) (T : Th) (n : Nat) (f : Int → Bool) (H : Nat → List (List Int)) (vs : Nat → List Value) (w : World) : Prop where
 bx : Fx q 176 (cW T fa ra ba fc rc bc rl tm rv fm n) w
 ff : Fx fm 4 (cq n f) w
 h3 : H3 base (zi rl tm rv) n H vs w
 lo : base ≤ q ∧ base ≤ fm
section
variable {base q rl tm rv fm fc rc bc n : Nat} {fa ra ba : Option Addr} {T : Th} {f : Int → Bool} {H : Nat → List (List Int)} {vs : Nat → List Value} {w w' : World}
theorem Nx.go (h : Nx base q rl tm rv fm fa ra ba fc rc bc T n f H vs w) (hb : Below w.heap.size w w') : Nx base q rl tm rv fm fa ra ba fc rc bc T n f H vs w' := ⟨h.bx.keep (hb.block _ h.bx.lt), h.ff.keep (hb.block _ h.ff.lt), h.h3.go hb, h.lo⟩
theorem Nx.setF (h : Nx base q rl tm rv fm fa ra ba fc rc bc T n f H vs w) {i : Nat} (hi : i < n) : Nx base q rl tm rv fm fa ra ba fc rc bc T n (aA f i true) H vs (w.setCell ⟨fm, i, none⟩ (.bool true)) :=
 ⟨h.bx.keep (other_set (an h.bx h.ff (by decide))), by have := h.ff.set i (.bool true); rw [mD hi] at this; exact this, h.h3.set h.ff (by decide) (by decide), h.lo⟩
theorem Nx.add (h : Nx base q rl tm rv fm fa ra ba fc rc bc T n f H vs w) {c i : Nat} (hc : c < 3) {l : List Int} {v : Value} (hi : (H c)[i]? = some l) (hv : (vs c)[i]? = some v) {x : Int} {g4 cap4 : Nat} (hnew : w'.ownsRow base 3 1 (.slice (some ⟨g4, 0, none⟩) (l.length + 1) cap4) (l.length + 1) (aq l ++ [.int .i64 x]))
    (hold : ∀ k, k < w.heap.size → v.ownBlock ≠ some k → w'.heap[k]? = w.heap[k]?) (hg : v.ownBlock = some g4 ∨ w.heap.size ≤ g4) :
    Nx base q rl tm rv fm fa ra ba fc rc bc T n f (up H c ((H c).set i (l ++ [x]))) (up vs c ((vs c).set i (.slice (some ⟨g4, 0, none⟩) (l.length + 1) cap4))) (w'.setCell ⟨zi rl tm rv c, i, none⟩ (.slice (some ⟨g4, 0, none⟩) (l.length + 1) cap4)) := by
 have Aa := h.h3.own c i l v hc hi hv
 exact ⟨(h.bx.keep (hold _ h.bx.lt (au Aa h.bx (by decide)))).keep (other_set (an h.bx (h.h3.fx c hc) (by decide))), (h.ff.keep (hold _ h.ff.lt (au Aa h.ff (by decide)))).keep (other_set (an h.ff (h.h3.fx c hc) (by decide))), h.h3.add hc hi hv hnew hold hg, h.lo⟩
end
theorem Nx.far {base base' q rl tm rv fm fc rc bc n : Nat} {fa ra ba : Option Addr} {T : Th} {f : Int → Bool} {H : Nat → List (List Int)} {vs : Nat → List Value} {w w' : World} (h : Nx base q rl tm rv fm fa ra ba fc rc bc T n f H vs w) (hk : ∀ g, base ≤ g → g < w.heap.size → w'.heap[g]? = w.heap[g]?) (hb : base' ≤ base) : Nx base' q rl tm rv fm fa ra ba fc rc bc T n f H vs w' :=
 ⟨h.bx.keep (hk _ h.lo.1 h.bx.lt), h.ff.keep (hk _ h.lo.2 h.ff.lt), ⟨h.h3.ln, h.h3.vl, fun c hc => (h.h3.fx c hc).keep (hk _ (h.h3.lo c hc) (h.h3.fx c hc).lt), fun c hc => Nat.le_trans hb (h.h3.lo c hc), h.h3.ne, fun c i l v hc h1 h2 => aI (owns_keep (h.h3.own c i l v hc h1 h2) fun g hg => hk g ((h.h3.own c i l v hc h1 h2).lt g hg).1 ((h.h3.own c i l v hc h1 h2).lt g hg).2) hb, h.h3.apart⟩, Nat.le_trans hb h.lo.1, Nat.le_trans hb h.lo.2⟩
theorem kM {a w : World} {B b : Nat} (h : Below B a w) (hb : B ≤ b) (cs : Array Value) : Below B a (w.setRow b cs) := h.trans ⟨rfl, rfl, rfl, by simp, fun k hk => setRow_other _ _ _ _ (by omega)⟩
theorem wA {base n rl tm rv : Nat} {w : World} (h1 : Fx rl 26 (List.replicate n (.slice none 0 0)) w) (h2 : Fx tm 26 (List.replicate n (.slice none 0 0)) w) (h3 : Fx rv 26 (List.replicate n (.slice none 0 0)) w) (lo : base ≤ rl ∧ base ≤ tm ∧ base ≤ rv) (hd : rl ≠ tm ∧ rl ≠ rv ∧ tm ≠ rv) :
    H3 base (zi rl tm rv) n (fun _ => List.replicate n []) (fun _ => List.replicate n (.slice none 0 0)) w := by
 have three : ∀ {P : Nat → Prop}, P 0 → P 1 → P 2 → ∀ c, c < 3 → P c := fun a b d c hc => by
  rcases (show c = 0 ∨ c = 1 ∨ c = 2 by omega) with rfl | rfl | rfl
  ·exact a
  ·exact b
  exact d
 refine ⟨fun c _ => by simp, fun c _ => by simp, three h1 h2 h3, three lo.1 lo.2.1 lo.2.2, ?_, fun c i l v _ a b => ?_, fun c d i j v u g _ _ a b e => ?_⟩
 ·intro c d hc Ab Aa
  rcases (show c = 0 ∨ c = 1 ∨ c = 2 by omega) with rfl | rfl | rfl <;> rcases (show d = 0 ∨ d = 1 ∨ d = 2 by omega) with rfl | rfl | rfl <;> first | exact absurd rfl Aa | exact hd.1 | exact hd.2.1 | exact hd.2.2 | exact Ne.symm hd.1 | exact Ne.symm hd.2.1 | exact Ne.symm hd.2.2
 ·rw [List.getElem?_replicate] at a b
  split at a
  ·rename_i hi
   rw [if_pos hi] at b
   cases a
   cases b
   exact ⟨rfl, .inl ⟨rfl, rfl⟩⟩
  cases a
 rw [List.getElem?_replicate] at a
 split at a
 ·cases a; cases e
 cases a
def wR (T : Th) (fa ra ba : Option Addr) (fc rc bc bq n N : Nat) (i : Nat) (v : Value) (W : World) (lo hi : Nat) : Prop := match i with
 | 0 => v = .agg #[.int .i64 T.lits, .slice fa T.foes.length fc, .slice ra T.rules.length rc, .slice ba T.beats.length bc]
 | 1 | 4 | 7 | 10 => v = aa bq
 | 2 | 5 | 8 | 11 => v = .int .i64 T.lits
 | 3 | 6 | 9 => ∃ g, v = sl g n ∧ Fx g 26 (List.replicate n (.slice none 0 0)) W ∧ lo ≤ g ∧ g < hi ∧ N ≤ g
 | 12 => ∃ g, v = sl g n ∧ Fx g 4 (cq n fun _ => false) W ∧ lo ≤ g ∧ g < hi ∧ N ≤ g
 | 13 => ∃ g0 g1 g2 g3, v = .agg #[.int .i64 T.lits, .slice fa T.foes.length fc, .slice ra T.rules.length rc, .slice ba T.beats.length bc, sl g0 n, sl g1 n, sl g2 n, sl g3 n] ∧ Fx g0 26 (List.replicate n (.slice none 0 0)) W ∧ Fx g1 26 (List.replicate n (.slice none 0 0)) W ∧ Fx g2 26 (List.replicate n (.slice none 0 0)) W ∧ Fx g3 4 (cq n fun _ => false) W ∧ (N ≤ g0 ∧ N ≤ g1 ∧ N ≤ g2 ∧ N ≤ g3) ∧ g0 ≠ g1 ∧ g0 ≠ g2 ∧ g1 ≠ g2
 | 14 => ∃ g xs, v = aa g ∧ Fx g 176 xs W ∧ xs.length = 8 ∧ N ≤ g
 | _ => True
theorem dp {T : Th} {fa ra ba : Option Addr} {fc rc bc bq n N : Nat} : ∀ i v W W' lo hi, wR T fa ra ba fc rc bc bq n N i v W lo hi → hi ≤ W.heap.size → Below W.heap.size W W' → wR T fa ra ba fc rc bc bq n N i v W' lo hi := by
 intro i v W W' lo hi h hh hb
 have k : ∀ {g t : Nat} {xs : List Value}, Fx g t xs W → Fx g t xs W' := fun hf => hf.keep (hb.block _ hf.lt)
 unfold wR at *
 split at h
 all_goals first
  | exact h
  | (obtain ⟨g, a, b, c⟩ := h; exact ⟨g, a, k b, c⟩)
  | (obtain ⟨g0, g1, g2, g3, a, b, c, d, e, f⟩ := h; exact ⟨g0, g1, g2, g3, a, k b, k c, k d, k e, f⟩)
  | (obtain ⟨g, xs, a, b, c⟩ := h; exact ⟨g, xs, a, k b, c⟩)
  | trivial
def zg (T : Th) (fa ra ba : Option Addr) (fc rc bc n : Nat) (W0 : World) (σ : Nat → Value) (W : World) : Prop := ∃ q rl tm rv fm, σ 5 = aa q ∧ Nx W0.heap.size q rl tm rv fm fa ra ba fc rc bc T n (fun _ => false) (fun _ => List.replicate n []) (fun _ => List.replicate n (.slice none 0 0)) W ∧ Below W0.heap.size W0 W
theorem cZ {H : Nat → List (List Int)} {c d i z : Nat} {y : List Int} (hl : i < (H c).length) : (up H c ((H c).set i y) d).getD z [] = if d = c ∧ z = i then y else (H d).getD z [] := by
 by_cases e : d = c
 ·subst e
  rw [bZ, mE hl]
  by_cases e2 : z = i
  ·rw [if_pos e2, if_pos ⟨rfl, e2⟩]
  rw [if_neg e2, if_neg fun h => e2 h.2]
 rw [bw e, if_neg fun h => e h.1]
theorem ja {T : Th} {p : RuleM → Bool} {k hm z : Nat} {r : RuleM} (hr : T.rules[k]? = some r) (hh : r.head = (hm : Int)) : bh T p (k + 1) z = if p r = true ∧ z = hm then bh T p k z ++ [(k : Int)] else bh T p k z := by
 rw [cG]
 have : bK T p z k = (p r && decide (r.head = (z : Int))) := by unfold bK; rw [hr]
 rw [this, hh]
 cases p r
 ·simp
 by_cases e : z = hm
 ·subst e; simp
 have : ¬ ((hm : Int) = (z : Int)) := by omega
 simp [e, this]
structure G2 (T : Th) (n k : Nat) (H : Nat → List (List Int)) : Prop where
 a : ∀ z : Nat, z < n → (H 0).getD z [] = bh T kA k z
 t : ∀ z : Nat, z < n → (H 1).getD z [] = bh T kT k z
 v : ∀ z : Nat, z < n → (H 2).getD z [] = []
 ln : ∀ c, c < 3 → (H c).length = n
section
variable {T : Th} {F : List Int} {n k hm : Nat} {H : Nat → List (List Int)} {r : RuleM} {l0 l1 : List Int}
theorem nT {z : Nat} : (List.replicate n ([] : List Int)).getD z [] = [] := by
 rw [List.getD_eq_getElem?_getD, List.getElem?_replicate]
 split <;> rfl
theorem G2.start : G2 T n 0 fun _ => List.replicate n [] := ⟨fun z _ => by rw [nT]; rfl, fun z _ => by rw [nT]; rfl, fun z _ => nT, fun c _ => by simp⟩
theorem iD {c : Nat} (h : (H c)[hm]? = some l0) : (H c).getD hm [] = l0 := by rw [List.getD_eq_getElem?_getD, h]; rfl
theorem G2.step3 (h : G2 T n k H) (hr : T.rules[k]? = some r) (hh : r.head = (hm : Int)) (hm_ : hm < n) (hk : kT r = false) (h0 : (H 0)[hm]? = some l0) : G2 T n (k + 1) (up H 0 ((H 0).set hm (l0 ++ [(k : Int)]))) := by
 have hl : hm < (H 0).length := by rw [h.ln 0 (by omega)]; exact hm_
 refine ⟨fun z hz => ?_, fun z hz => ?_, fun z hz => ?_, fun c hc => ?_⟩
 ·rw [cZ hl, ja hr hh]
  by_cases e : z = hm
  ·subst e
   rw [if_pos ⟨rfl, rfl⟩, if_pos ⟨rfl, rfl⟩, ← h.a z hz, iD h0]
  rw [if_neg (fun x => e x.2), if_neg (fun x => e x.2), h.a z hz]
 ·rw [cZ hl, if_neg (by simp), ja hr hh, if_neg (by simp [hk]), h.t z hz]
 ·rw [cZ hl, if_neg (by simp), h.v z hz]
 by_cases e : c = 0
 ·subst e; rw [bZ, List.length_set]; exact h.ln 0 hc
 rw [bw e]; exact h.ln c hc
theorem G2.step12 (h : G2 T n k H) (hr : T.rules[k]? = some r) (hh : r.head = (hm : Int)) (hm_ : hm < n) (hk : kT r = true) (h0 : (H 0)[hm]? = some l0) (h1 : (up H 0 ((H 0).set hm (l0 ++ [(k : Int)])) 1)[hm]? = some l1) : G2 T n (k + 1) (up (up H 0 ((H 0).set hm (l0 ++ [(k : Int)]))) 1 ((up H 0 ((H 0).set hm (l0 ++ [(k : Int)])) 1).set hm (l1 ++ [(k : Int)]))) := by
 have hl : hm < (H 0).length := by rw [h.ln 0 (by omega)]; exact hm_
 have Aa : hm < (up H 0 ((H 0).set hm (l0 ++ [(k : Int)])) 1).length := by rw [bw (by decide), h.ln 1 (by omega)]; exact hm_
 have h1' : (H 1)[hm]? = some l1 := by rw [bw (by decide)] at h1; exact h1
 refine ⟨fun z hz => ?_, fun z hz => ?_, fun z hz => ?_, fun c hc => ?_⟩
 ·rw [cZ Aa, if_neg (by simp), cZ hl, ja hr hh]
  by_cases e : z = hm
  ·subst e
   rw [if_pos ⟨rfl, rfl⟩, if_pos ⟨rfl, rfl⟩, ← h.a z hz, iD h0]
  rw [if_neg (fun x => e x.2), if_neg (fun x => e x.2), h.a z hz]
 ·rw [cZ Aa, ja hr hh]
  by_cases e : z = hm
  ·subst e
   rw [if_pos ⟨rfl, rfl⟩, if_pos ⟨hk, rfl⟩, ← h.t z hz, iD h1']
  rw [if_neg (fun x => e x.2), if_neg (fun x => e x.2), cZ hl, if_neg (by simp), h.t z hz]
 ·rw [cZ Aa, if_neg (by simp), cZ hl, if_neg (by simp), h.v z hz]
 by_cases e : c = 1
 ·subst e; rw [bZ, List.length_set, bw (by decide)]; exact h.ln 1 hc
 rw [bw e]
 by_cases e0 : c = 0
 ·subst e0; rw [bZ, List.length_set]; exact h.ln 0 hc
 rw [bw e0]; exact h.ln c hc
def gj (T : Th) (F : List Int) (k : Nat) (z : Int) : Bool := decide (z ∈ F) || !(bh T kS k z).isEmpty
theorem vo : gj T F 0 = fun z => decide (z ∈ F) := by funext z; unfold gj bh; simp
theorem pP (hr : T.rules[k]? = some r) (hk : kS r = false) : gj T F (k + 1) = gj T F k := by
 funext z
 unfold gj
 rw [cG]
 have : bK T kS z k = false := by unfold bK; rw [hr]; simp [hk]
 rw [this]; rfl
theorem xG (hr : T.rules[k]? = some r) (hk : kS r = true) (hh : r.head = (hm : Int)) : gj T F (k + 1) = aA (gj T F k) hm true := by
 funext z
 unfold gj
 rw [cG]
 have : bK T kS z k = decide ((hm : Int) = z) := by unfold bK; rw [hr]; simp [hk, hh]
 rw [this]
 by_cases e : z = (hm : Int)
 ·subst e; rw [aL]; simp
 rw [aS e]
 have : ¬ ((hm : Int) = z) := fun x => e x.symm
 simp [this]
end
structure G3 (T : Th) (n k j : Nat) (H : Nat → List (List Int)) : Prop where
 a : ∀ z : Nat, z < n → (H 0).getD z [] = ag T kA z
 t : ∀ z : Nat, z < n → (H 1).getD z [] = ag T kT z
 v : ∀ z : Nat, z < n → (H 2).getD z [] = if z < k then ao T z else if z = k then ((row T.foes z).take j).filter (fun p => !(ag T kT p).isEmpty) else []
 ln : ∀ c, c < 3 → (H c).length = n
def zb (n : Nat) (x : Int) : Prop := 0 ≤ x ∧ x < (n : Int)
theorem xu {T : Th} {F : List Int} {n : Nat} (h : Pf T F n) {q : Nat} (hq : q < n) : (row T.foes q).Pairwise (· < ·) ∧ (row T.foes q).length ≤ 64 := gG h hq
section
variable {T : Th} {F : List Int} {n k j : Nat} {H : Nat → List (List Int)} {l l2 : List Int} {fo : Nat}
theorem G2.three (h : G2 T n T.rules.length H) : G3 T n 0 0 H := ⟨h.a, h.t, fun z hz => by rw [h.v z hz, if_neg (by omega)]; split <;> simp, h.ln⟩
theorem G3.next (h : G3 T n k j H) (hl : row T.foes (k : Int) = l) (hj : l.length ≤ j) : G3 T n (k + 1) 0 H := by
 refine ⟨h.a, h.t, fun z hz => ?_, h.ln⟩
 rw [h.v z hz]
 by_cases e : z < k
 ·rw [if_pos e, if_pos (by omega)]
 rw [if_neg e]
 by_cases e2 : z = k
 ·subst e2
  rw [if_pos rfl, if_pos (by omega), hl, List.take_of_length_le hj]
  unfold ao
  rw [hl]
 rw [if_neg e2, if_neg (by omega)]
 split <;> simp
theorem G3.skip (h : G3 T n k j H) (hl : row T.foes (k : Int) = l) (hj : l[j]? = some (fo : Int)) (hn : ag T kT fo = []) : G3 T n k (j + 1) H := by
 refine ⟨h.a, h.t, fun z hz => ?_, h.ln⟩
 rw [h.v z hz]
 by_cases e : z < k
 ·rw [if_pos e, if_pos e]
 rw [if_neg e, if_neg e]
 by_cases e2 : z = k
 ·subst e2
  rw [if_pos rfl, if_pos rfl, hl, bD hj, List.filter_append]
  simp [hn]
 rw [if_neg e2, if_neg e2]
theorem G3.add (h : G3 T n k j H) (hl : row T.foes (k : Int) = l) (hj : l[j]? = some (fo : Int)) (hn : ag T kT fo ≠ []) (hk : k < n) (h2 : (H 2)[k]? = some l2) : G3 T n k (j + 1) (up H 2 ((H 2).set k (l2 ++ [(fo : Int)]))) := by
 have Aa : k < (H 2).length := by rw [h.ln 2 (by omega)]; exact hk
 refine ⟨fun z hz => ?_, fun z hz => ?_, fun z hz => ?_, fun c hc => ?_⟩
 ·rw [cZ Aa, if_neg (by simp), h.a z hz]
 ·rw [cZ Aa, if_neg (by simp), h.t z hz]
 ·rw [cZ Aa]
  by_cases e2 : z = k
  ·subst e2
   have := h.v z hz
   rw [iD h2, if_neg (by omega), if_pos rfl] at this
   rw [if_pos ⟨rfl, rfl⟩, if_neg (by omega), if_pos rfl, this, hl, bD hj, List.filter_append]
   simp [hn]
  rw [if_neg fun x => e2 x.2, h.v z hz]
  by_cases e : z < k
  ·rw [if_pos e, if_pos e]
  rw [if_neg e, if_neg e, if_neg e2, if_neg e2]
 by_cases e : c = 2
 ·subst e; rw [bZ, List.length_set]; exact h.ln 2 hc
 rw [bw e]; exact h.ln c hc
theorem G3.len64 (h : G3 T n k j H) (hp : Pf T F n) (z : Nat) (hz : z < n) : ((H 2).getD z []).length ≤ 4096 := by
 rw [h.v z hz]
 have Aa := (gG hp hz).2
 split
 ·exact Nat.le_trans (Nat.le_trans (List.length_filter_le _ _) Aa) (by omega)
 split
 ·refine Nat.le_trans (List.length_filter_le _ _) ?_
  rw [List.length_take]
  omega
 simp
end
theorem fL {w : World} {k h : Int} {v : Value} : Calls Tryz.prog 174 #[.agg #[.int .i64 k, .int .i64 h, v]] w fun o w' => o = .returned (.bool (decide (k = 1))) ∧ Below w.heap.size w w' := by
 have hB := ae w (.cells #[.int .i64 k, .int .i64 h, v] 114)
 have c0 : (w.alloc (.cells #[.int .i64 k, .int .i64 h, v] 114)).cell? ⟨w.heap.size, 0, none⟩ = some (.int .i64 k) := cell_of_row _ _ 0 _ _ _ (heap_alloc_new w _)
 have HB := hide hB
 have HK : Hid (decide (k = 1) = (k == 1)) := hide (by by_cases e0 : k = 1 <;> simp [e0])
 clear hB
 go_enter Tryz.func174, Tryz.ntmps174
 go_wp2_with fail
 go_ret
 exact ⟨by rw [HK.out]; rfl, HB.out⟩
theorem yZ {tmps : Array Value} {b : Nat} {Y : World} {t0 t1 t2 t3 t4 t5 t6 t7 : Value} (ht : tmps.getD 4 undef = .pointer (some ⟨b, 0, none⟩)) (h : Fx b 176 [t0, t1, t2, t3, t4, t5, t6, t7] Y) : (results Tryz.f172 tmps).run Tryz.prog Y = .ok (.agg #[t0, t1, t2, t3, t4, t5, t6, t7]) Y := by
 have r0 := h.get (i := 0) rfl
 have r1 := h.get (i := 1) rfl
 have r2 := h.get (i := 2) rfl
 have r3 := h.get (i := 3) rfl
 have r4 := h.get (i := 4) rfl
 have r5 := h.get (i := 5) rfl
 have r6 := h.get (i := 6) rfl
 have r7 := h.get (i := 7) rfl
 have Aa : tmps[4]?.getD undef = .pointer (some ⟨b, 0, none⟩) := by simpa [Array.getD_eq_getD_getElem?] using ht
 clear h ht
 simp [results, Tryz.results172, go_sem, Aa, r0, r1, r2, r3, r4, r5, r6, r7]
theorem iu {w : World} {T : Th} {F : List Int} {n : Nat} {fa ra ba ea : Option Addr} {fc rc bc ec : Nat} (h : TA w.heap.size w T fa fc ra rc ba bc) (hF : Ints w.heap.size w F (.slice ea F.length ec)) (hp : Pf T F n) :
    Calls Tryz.prog 172 #[tv T fa fc ra rc ba bc, .slice ea F.length ec] w fun o w' => ∃ q rl tm rv fm vs H, o = .returned (.agg (cW T fa ra ba fc rc bc rl tm rv fm n).toArray) ∧ Nx w.heap.size q rl tm rv fm fa ra ba fc rc bc T n (bI T F) H vs w' ∧ (∀ z : Nat, z < n → (H 0).getD z [] = ag T kA z ∧ (H 1).getD z [] = ag T kT z ∧ (H 2).getD z [] = ao T z) ∧ Below w.heap.size w w' := by
 obtain ⟨iL, Di, DH, DE, DI⟩ := info_parts nL
 obtain ⟨iB, DJ, CX, DA, CZ⟩ := info_parts jt
 obtain ⟨iI, Cd, BM, Cb, BZ⟩ := info_parts gB
 have Er := hp.n4
 have BH : ∀ W, (Instr.makeSlice 22 (.int .i64 T.lits) (.int .i64 T.lits)).run Tryz.prog W = .ok (sl W.heap.size n) (W.alloc (.cells (Array.replicate n (.slice none 0 0)) 26)) := fun W => by rw [hp.ln]; exact aH (P := Tryz.prog) Tryz.underlying22 Di DH DE rfl n (by rw [DI]; omega) (by unfold maxLen; omega) W
 have CE : ∀ W, (Instr.makeSlice 106 (.int .i64 T.lits) (.int .i64 T.lits)).run Tryz.prog W = .ok (sl W.heap.size n) (W.alloc (.cells (Array.replicate n (.bool false)) 4)) := fun W => by rw [hp.ln]; exact aH (P := Tryz.prog) Tryz.underlying106 DJ CX DA rfl n (by rw [CZ]; omega) (by unfold maxLen; omega) W
 have BI := ae w (.cells #[.int .i64 T.lits, .slice fa T.foes.length fc, .slice ra T.rules.length rc, .slice ba T.beats.length bc] 25)
 have BX := ae (w.alloc (.cells #[.int .i64 T.lits, .slice fa T.foes.length fc, .slice ra T.rules.length rc, .slice ba T.beats.length bc] 25)) (.cells #[.int .i64 0, .slice none 0 0, .slice none 0 0, .slice none 0 0, .slice none 0 0, .slice none 0 0, .slice none 0 0, .slice none 0 0] 176)
 have hB := BI.trans (BX.mono BI.size)
 have CJ : Fx w.heap.size 25 [.int .i64 T.lits, .slice fa T.foes.length fc, .slice ra T.rules.length rc, .slice ba T.beats.length bc] ((w.alloc (.cells #[.int .i64 T.lits, .slice fa T.foes.length fc, .slice ra T.rules.length rc, .slice ba T.beats.length bc] 25)).alloc (.cells #[.int .i64 0, .slice none 0 0, .slice none 0 0, .slice none 0 0, .slice none 0 0, .slice none 0 0, .slice none 0 0, .slice none 0 0] 176)) := (BX.block _ (by simp)).trans (heap_alloc_new w _)
 have Cr : Fx (w.heap.size + 1) 176 [.int .i64 0, .slice none 0 0, .slice none 0 0, .slice none 0 0, .slice none 0 0, .slice none 0 0, .slice none 0 0, .slice none 0 0] ((w.alloc (.cells #[.int .i64 T.lits, .slice fa T.foes.length fc, .slice ra T.rules.length rc, .slice ba T.beats.length bc] 25)).alloc (.cells #[.int .i64 0, .slice none 0 0, .slice none 0 0, .slice none 0 0, .slice none 0 0, .slice none 0 0, .slice none 0 0, .slice none 0 0] 176)) := by
  have := heap_alloc_new (w.alloc (.cells #[.int .i64 T.lits, .slice fa T.foes.length fc, .slice ra T.rules.length rc, .slice ba T.beats.length bc] 25)) (.cells #[.int .i64 0, .slice none 0 0, .slice none 0 0, .slice none 0 0, .slice none 0 0, .slice none 0 0, .slice none 0 0, .slice none 0 0] 176)
  simpa [Fx] using this
 have BA := hide (TR.go hB h)
 have HF := hide (Ints.go hB hF)
 have HP := hide hp
 have HB := hide hB
 have AF := hide CJ
 have Bm := hide Cr
 clear h hF hp hB BI BX
 go_enter Tryz.func172, Tryz.ntmps172
 go_upto_region 1 with fail
 clear CJ Cr
 generalize (w.alloc (.cells #[.int .i64 T.lits, .slice fa T.foes.length fc, .slice ra T.rules.length rc, .slice ba T.beats.length bc] 25)).alloc (.cells #[.int .i64 0, .slice none 0 0, .slice none 0 0, .slice none 0 0, .slice none 0 0, .slice none 0 0, .slice none 0 0, .slice none 0 0] 176) = W at *
 obtain ⟨bq, BY⟩ : ∃ bq, w.heap.size = bq := ⟨_, rfl⟩
 have Da := hide BY
 rw [BY] at AF Bm ⊢
 clear BY
 have HDr := hide ((Below.refl W.heap.size W).drew)
 obtain ⟨W0, Cf⟩ : ∃ W0, W.drew = W0 := ⟨_, rfl⟩
 have HX1d := hide (AF.out.keep (HDr.out.block _ AF.out.lt))
 have Ag : Hid (fQ [some 14, some 15, some 16, some 17, some 18, some 19, some 20, some 21, some 22, some 23, some 24, some 25, some 26, some 27, some 5, none] [(2, aa bq)] = true) := hide rfl
 rw [Cf] at HX1d HDr
 have Aj : Hid (∀ X, Below W0.heap.size W0 X → X.cell? ⟨bq, 0, none⟩ = some (.int .i64 T.lits) ∧ X.cell? ⟨bq, 1, none⟩ = some (.slice fa T.foes.length fc) ∧ X.cell? ⟨bq, 2, none⟩ = some (.slice ra T.rules.length rc) ∧ X.cell? ⟨bq, 3, none⟩ = some (.slice ba T.beats.length bc)) := hide fun X hX => by
  have hf := HX1d.out.keep (hX.block _ HX1d.out.lt)
  exact ⟨hf.get (i := 0) rfl, hf.get (i := 1) rfl, hf.get (i := 2) rfl, hf.get (i := 3) rfl⟩
 refine bW fY (Jl 15 [some 14, some 15, some 16, some 17, some 18, some 19, some 20, some 21, some 22, some 23, some 24, some 25, some 26, some 27, some 5, none] [(2, aa bq)] (wR T fa ra ba fc rc bc bq n W0.heap.size) (zg T fa ra ba fc rc bc n W0) W0) (by kernel_rfl) (by kernel_rfl) ?_ (ci ⟨?_, ?_, ?_, ?_, ?_, ?_, ?_, ?_, ?_, ?_, ?_, ?_, ?_, ?_, ?_, ?_, trivial⟩) ?_ ?_
 ·refine ⟨fun _ => ?_, fun e => by cases e⟩
  show Jg _ _ _ W0 _ _ W.drew
  rw [Cf]
  exact Jg.start.2 fun p hp => by simp at hp; subst hp; rfl
 ·intro ρ X L hc hf hL hd Aa Ae
  have Ab : L 15 = false := ak (by kernel_rfl) Aa (k := 0) (by simp) hL
  have hJ := Ae.1 Ab
  obtain ⟨c0, c1, c2, c3⟩ := Aj.out X hJ.low
  have k2 : ρ (.tmp 2) = aa bq := hJ.base (2, aa bq) (by simp)
  refine ac (v := .agg #[.int .i64 T.lits, .slice fa T.foes.length fc, .slice ra T.rules.length rc, .slice ba T.beats.length bc]) (w' := X) ?_ ⟨fun _ => hJ.put Ag.out dp (i := 0) (d := 14) rfl (Below.refl _ _) (rfl), fun e => by rw [al (by decide), Ab] at e; cases e⟩
  clear hd Aa hJ Ae hL Ab
  go_simp
 ·intro ρ X L hc hf hL hd Aa Ae
  have Ab : L 15 = false := ak (by kernel_rfl) Aa (k := 1) (by simp) hL
  have hJ := Ae.1 Ab
  obtain ⟨c0, c1, c2, c3⟩ := Aj.out X hJ.low
  have k2 : ρ (.tmp 2) = aa bq := hJ.base (2, aa bq) (by simp)
  refine ac (v := aa bq) (w' := X) ?_ ⟨fun _ => hJ.put Ag.out dp (i := 1) (d := 15) rfl (Below.refl _ _) (rfl), fun e => by rw [al (by decide), Ab] at e; cases e⟩
  clear hd Aa hJ Ae hL Ab
  go_simp
 ·intro ρ X L hc hf hL hd Aa Ae
  have Ab : L 15 = false := ak (by kernel_rfl) Aa (k := 2) (by simp) hL
  have hJ := Ae.1 Ab
  obtain ⟨c0, c1, c2, c3⟩ := Aj.out X hJ.low
  obtain ⟨_, _, _, e1⟩ := hJ.get (i := 1) (d := 15) rfl (hd ⟨1, .data⟩ (by simp) rfl)
  have EI : ρ (.tmp 15) = aa bq := e1
  clear e1
  refine ac (v := .int .i64 T.lits) (w' := X) ?_ ⟨fun _ => hJ.put Ag.out dp (i := 2) (d := 16) rfl (Below.refl _ _) (rfl), fun e => by rw [al (by decide), Ab] at e; cases e⟩
  clear hd Aa hJ Ae hL Ab
  go_simp
 ·intro ρ X L hc hf hL hd Aa Ae
  have Ab : L 15 = false := ak (by kernel_rfl) Aa (k := 3) (by simp) hL
  have hJ := Ae.1 Ab
  obtain ⟨c0, c1, c2, c3⟩ := Aj.out X hJ.low
  obtain ⟨_, _, _, e1⟩ := hJ.get (i := 2) (d := 16) rfl (hd ⟨2, .data⟩ (by simp) rfl)
  have Ef : ρ (.tmp 16) = .int .i64 T.lits := e1
  have BW := BH X
  clear e1
  refine ac (v := sl X.heap.size n) (w' := X.alloc (.cells (Array.replicate n (.slice none 0 0)) 26)) ?_ ⟨fun _ => hJ.put Ag.out dp (i := 3) (d := 17) rfl (ae X _) (⟨X.heap.size, rfl, by unfold Fx; rw [heap_alloc_new]; simp, Nat.le_refl _, by simp, hJ.low.size⟩), fun e => by rw [al (by decide), Ab] at e; cases e⟩
  clear hd Aa hJ Ae hL Ab
  go_simp
 ·intro ρ X L hc hf hL hd Aa Ae
  have Ab : L 15 = false := ak (by kernel_rfl) Aa (k := 4) (by simp) hL
  have hJ := Ae.1 Ab
  obtain ⟨c0, c1, c2, c3⟩ := Aj.out X hJ.low
  have k2 : ρ (.tmp 2) = aa bq := hJ.base (2, aa bq) (by simp)
  refine ac (v := aa bq) (w' := X) ?_ ⟨fun _ => hJ.put Ag.out dp (i := 4) (d := 18) rfl (Below.refl _ _) (rfl), fun e => by rw [al (by decide), Ab] at e; cases e⟩
  clear hd Aa hJ Ae hL Ab
  go_simp
 ·intro ρ X L hc hf hL hd Aa Ae
  have Ab : L 15 = false := ak (by kernel_rfl) Aa (k := 5) (by simp) hL
  have hJ := Ae.1 Ab
  obtain ⟨c0, c1, c2, c3⟩ := Aj.out X hJ.low
  obtain ⟨_, _, _, e1⟩ := hJ.get (i := 4) (d := 18) rfl (hd ⟨4, .data⟩ (by simp) rfl)
  have EJ : ρ (.tmp 18) = aa bq := e1
  clear e1
  refine ac (v := .int .i64 T.lits) (w' := X) ?_ ⟨fun _ => hJ.put Ag.out dp (i := 5) (d := 19) rfl (Below.refl _ _) (rfl), fun e => by rw [al (by decide), Ab] at e; cases e⟩
  clear hd Aa hJ Ae hL Ab
  go_simp
 ·intro ρ X L hc hf hL hd Aa Ae
  have Ab : L 15 = false := ak (by kernel_rfl) Aa (k := 6) (by simp) hL
  have hJ := Ae.1 Ab
  obtain ⟨c0, c1, c2, c3⟩ := Aj.out X hJ.low
  obtain ⟨_, _, _, e1⟩ := hJ.get (i := 5) (d := 19) rfl (hd ⟨5, .data⟩ (by simp) rfl)
  have Ei : ρ (.tmp 19) = .int .i64 T.lits := e1
  have BW := BH X
  clear e1
  refine ac (v := sl X.heap.size n) (w' := X.alloc (.cells (Array.replicate n (.slice none 0 0)) 26)) ?_ ⟨fun _ => hJ.put Ag.out dp (i := 6) (d := 20) rfl (ae X _) (⟨X.heap.size, rfl, by unfold Fx; rw [heap_alloc_new]; simp, Nat.le_refl _, by simp, hJ.low.size⟩), fun e => by rw [al (by decide), Ab] at e; cases e⟩
  clear hd Aa hJ Ae hL Ab
  go_simp
 ·intro ρ X L hc hf hL hd Aa Ae
  have Ab : L 15 = false := ak (by kernel_rfl) Aa (k := 7) (by simp) hL
  have hJ := Ae.1 Ab
  obtain ⟨c0, c1, c2, c3⟩ := Aj.out X hJ.low
  have k2 : ρ (.tmp 2) = aa bq := hJ.base (2, aa bq) (by simp)
  refine ac (v := aa bq) (w' := X) ?_ ⟨fun _ => hJ.put Ag.out dp (i := 7) (d := 21) rfl (Below.refl _ _) (rfl), fun e => by rw [al (by decide), Ab] at e; cases e⟩
  clear hd Aa hJ Ae hL Ab
  go_simp
 ·intro ρ X L hc hf hL hd Aa Ae
  have Ab : L 15 = false := ak (by kernel_rfl) Aa (k := 8) (by simp) hL
  have hJ := Ae.1 Ab
  obtain ⟨c0, c1, c2, c3⟩ := Aj.out X hJ.low
  obtain ⟨_, _, _, e1⟩ := hJ.get (i := 7) (d := 21) rfl (hd ⟨7, .data⟩ (by simp) rfl)
  have EP : ρ (.tmp 21) = aa bq := e1
  clear e1
  refine ac (v := .int .i64 T.lits) (w' := X) ?_ ⟨fun _ => hJ.put Ag.out dp (i := 8) (d := 22) rfl (Below.refl _ _) (rfl), fun e => by rw [al (by decide), Ab] at e; cases e⟩
  clear hd Aa hJ Ae hL Ab
  go_simp
 ·intro ρ X L hc hf hL hd Aa Ae
  have Ab : L 15 = false := ak (by kernel_rfl) Aa (k := 9) (by simp) hL
  have hJ := Ae.1 Ab
  obtain ⟨c0, c1, c2, c3⟩ := Aj.out X hJ.low
  obtain ⟨_, _, _, e1⟩ := hJ.get (i := 8) (d := 22) rfl (hd ⟨8, .data⟩ (by simp) rfl)
  have ED : ρ (.tmp 22) = .int .i64 T.lits := e1
  have BW := BH X
  clear e1
  refine ac (v := sl X.heap.size n) (w' := X.alloc (.cells (Array.replicate n (.slice none 0 0)) 26)) ?_ ⟨fun _ => hJ.put Ag.out dp (i := 9) (d := 23) rfl (ae X _) (⟨X.heap.size, rfl, by unfold Fx; rw [heap_alloc_new]; simp, Nat.le_refl _, by simp, hJ.low.size⟩), fun e => by rw [al (by decide), Ab] at e; cases e⟩
  clear hd Aa hJ Ae hL Ab
  go_simp
 ·intro ρ X L hc hf hL hd Aa Ae
  have Ab : L 15 = false := ak (by kernel_rfl) Aa (k := 10) (by simp) hL
  have hJ := Ae.1 Ab
  obtain ⟨c0, c1, c2, c3⟩ := Aj.out X hJ.low
  have k2 : ρ (.tmp 2) = aa bq := hJ.base (2, aa bq) (by simp)
  refine ac (v := aa bq) (w' := X) ?_ ⟨fun _ => hJ.put Ag.out dp (i := 10) (d := 24) rfl (Below.refl _ _) (rfl), fun e => by rw [al (by decide), Ab] at e; cases e⟩
  clear hd Aa hJ Ae hL Ab
  go_simp
 ·intro ρ X L hc hf hL hd Aa Ae
  have Ab : L 15 = false := ak (by kernel_rfl) Aa (k := 11) (by simp) hL
  have hJ := Ae.1 Ab
  obtain ⟨c0, c1, c2, c3⟩ := Aj.out X hJ.low
  obtain ⟨_, _, _, e1⟩ := hJ.get (i := 10) (d := 24) rfl (hd ⟨10, .data⟩ (by simp) rfl)
  have EK : ρ (.tmp 24) = aa bq := e1
  clear e1
  refine ac (v := .int .i64 T.lits) (w' := X) ?_ ⟨fun _ => hJ.put Ag.out dp (i := 11) (d := 25) rfl (Below.refl _ _) (rfl), fun e => by rw [al (by decide), Ab] at e; cases e⟩
  clear hd Aa hJ Ae hL Ab
  go_simp
 ·intro ρ X L hc hf hL hd Aa Ae
  have Ab : L 15 = false := ak (by kernel_rfl) Aa (k := 12) (by simp) hL
  have hJ := Ae.1 Ab
  obtain ⟨c0, c1, c2, c3⟩ := Aj.out X hJ.low
  obtain ⟨_, _, _, e1⟩ := hJ.get (i := 11) (d := 25) rfl (hd ⟨11, .data⟩ (by simp) rfl)
  have El : ρ (.tmp 25) = .int .i64 T.lits := e1
  have BW := CE X
  clear e1
  refine ac (v := sl X.heap.size n) (w' := X.alloc (.cells (Array.replicate n (.bool false)) 4)) ?_ ⟨fun _ => hJ.put Ag.out dp (i := 12) (d := 26) rfl (ae X _) (⟨X.heap.size, rfl, by unfold Fx cq; rw [heap_alloc_new]; simp [List.map_const'], Nat.le_refl _, by simp, hJ.low.size⟩), fun e => by rw [al (by decide), Ab] at e; cases e⟩
  clear hd Aa hJ Ae hL Ab
  go_simp
 ·intro ρ X L hc hf hL hd Aa Ae
  have Ab : L 15 = false := ak (by kernel_rfl) Aa (k := 13) (by simp) hL
  have hJ := Ae.1 Ab
  obtain ⟨c0, c1, c2, c3⟩ := Aj.out X hJ.low
  obtain ⟨lo, hi, AZ, Bd⟩ := hJ.at_
  have l0 : L 0 = true := hd ⟨0, .data⟩ (by simp) rfl
  have l3 : L 3 = true := hd ⟨3, .data⟩ (by simp) rfl
  have l6 : L 6 = true := hd ⟨6, .data⟩ (by simp) rfl
  have l9 : L 9 = true := hd ⟨9, .data⟩ (by simp) rfl
  have De : L 12 = true := hd ⟨12, .data⟩ (by simp) rfl
  obtain ⟨-, -, -, e0⟩ := AZ 0 14 rfl l0
  obtain ⟨-, -, -, g0, e3, f3, a3, b3, n3⟩ := AZ 3 17 rfl l3
  obtain ⟨-, -, -, g1, e6, f6, a6, b6, n6⟩ := AZ 6 20 rfl l6
  obtain ⟨-, -, -, g2, e9, f9, a9, b9, n9⟩ := AZ 9 23 rfl l9
  obtain ⟨-, -, -, g3, CK, CG, -, -, Do⟩ := AZ 12 26 rfl De
  have d1 := Bd 3 6 17 20 rfl rfl (by decide) l3 l6
  have d2 := Bd 3 9 17 23 rfl rfl (by decide) l3 l9
  have d3 := Bd 6 9 20 23 rfl rfl (by decide) l6 l9
  have Eb : ρ (.tmp 14) = .agg #[.int .i64 T.lits, .slice fa T.foes.length fc, .slice ra T.rules.length rc, .slice ba T.beats.length bc] := e0
  have Eh : ρ (.tmp 17) = sl g0 n := e3
  have En : ρ (.tmp 20) = sl g1 n := e6
  have Ex : ρ (.tmp 23) = sl g2 n := e9
  have Et : ρ (.tmp 26) = sl g3 n := CK
  refine ac (v := .agg #[.int .i64 T.lits, .slice fa T.foes.length fc, .slice ra T.rules.length rc, .slice ba T.beats.length bc, sl g0 n, sl g1 n, sl g2 n, sl g3 n]) (w' := X) ?_ ⟨fun _ => hJ.put Ag.out dp (i := 13) (d := 27) rfl (Below.refl _ _) (⟨g0, g1, g2, g3, rfl, f3, f6, f9, CG, ⟨n3, n6, n9, Do⟩, by omega, by omega, by omega⟩), fun e => by rw [al (by decide), Ab] at e; cases e⟩
  clear hd Aa hJ Ae hL Ab AZ Bd d1 d2 d3 e0 e3 e6 e9 CK f3 f6 f9 CG
  go_simp
 ·intro ρ X L hc hf hL hd Aa Ae
  have Ab : L 15 = false := ak (by kernel_rfl) Aa (k := 14) (by simp) hL
  have hJ := Ae.1 Ab
  obtain ⟨c0, c1, c2, c3⟩ := Aj.out X hJ.low
  refine ac (v := aa X.heap.size) (w' := X.alloc (.cells #[.int .i64 0, .slice none 0 0, .slice none 0 0, .slice none 0 0, .slice none 0 0, .slice none 0 0, .slice none 0 0, .slice none 0 0] 176)) ?_ ⟨fun _ => hJ.put Ag.out dp (i := 14) (d := 5) rfl (ae X _) (⟨X.heap.size, [.int .i64 0, .slice none 0 0, .slice none 0 0, .slice none 0 0, .slice none 0 0, .slice none 0 0, .slice none 0 0, .slice none 0 0], rfl, heap_alloc_new X _, rfl, hJ.low.size⟩), fun e => by rw [al (by decide), Ab] at e; cases e⟩
  clear hd Aa hJ Ae hL Ab
  go_simp
 ·intro ρ X L hc hf hL hd Aa Ae
  have hJ := Ae.1 hL
  obtain ⟨_, _, _, g0, g1, g2, g3, Ct, f0, f1, f2, f3, ⟨m0, m1, m2, m3⟩, d1, d2, d3⟩ := hJ.get (i := 13) (d := 27) rfl (hd ⟨13, .data⟩ (by simp) rfl)
  obtain ⟨_, _, _, q, xs, e5, h0, Dd, hq⟩ := hJ.get (i := 14) (d := 5) rfl (hd ⟨14, .data⟩ (by simp) rfl)
  obtain ⟨t0, t1, t2, t3, t4, t5, t6, t7, rfl⟩ : ∃ t0 t1 t2 t3 t4 t5 t6 t7, xs = [t0, t1, t2, t3, t4, t5, t6, t7] := by
   match xs, Dd with
   | [t0, t1, t2, t3, t4, t5, t6, t7], _ => exact ⟨t0, t1, t2, t3, t4, t5, t6, t7, rfl⟩
  have Ez : ρ (.tmp 27) = .agg #[.int .i64 T.lits, .slice fa T.foes.length fc, .slice ra T.rules.length rc, .slice ba T.beats.length bc, sl g0 n, sl g1 n, sl g2 n, sl g3 n] := Ct
  have k5 : ρ (.tmp 5) = aa q := e5
  have y0 := h0.get (i := 0) (v := t0) rfl
  have z0 := h0.frz 0
  have h1 := h0.set 0 (.int .i64 T.lits)
  have y1 := h1.get (i := 1) (v := t1) rfl
  have z1 := h1.frz 1
  have h2 := h1.set 1 (.slice fa T.foes.length fc)
  have y2 := h2.get (i := 2) (v := t2) rfl
  have z2 := h2.frz 2
  have h3 := h2.set 2 (.slice ra T.rules.length rc)
  have y3 := h3.get (i := 3) (v := t3) rfl
  have z3 := h3.frz 3
  have h4 := h3.set 3 (.slice ba T.beats.length bc)
  have y4 := h4.get (i := 4) (v := t4) rfl
  have z4 := h4.frz 4
  have h5 := h4.set 4 (sl g0 n)
  have y5 := h5.get (i := 5) (v := t5) rfl
  have z5 := h5.frz 5
  have h6 := h5.set 5 (sl g1 n)
  have y6 := h6.get (i := 6) (v := t6) rfl
  have z6 := h6.frz 6
  have h7 := h6.set 6 (sl g2 n)
  have y7 := h7.get (i := 7) (v := t7) rfl
  have z7 := h7.frz 7
  have h8 := h7.set 7 (sl g3 n)
  have kp : ∀ {g t : Nat} {xs : List Value}, Fx g t xs X → t ≠ 176 → Fx g t xs ((((((((X.setCell ⟨q, 0, none⟩ (.int .i64 T.lits)).setCell ⟨q, 1, none⟩ (.slice fa T.foes.length fc)).setCell ⟨q, 2, none⟩ (.slice ra T.rules.length rc)).setCell ⟨q, 3, none⟩ (.slice ba T.beats.length bc)).setCell ⟨q, 4, none⟩ (sl g0 n)).setCell ⟨q, 5, none⟩ (sl g1 n)).setCell ⟨q, 6, none⟩ (sl g2 n)).setCell ⟨q, 7, none⟩ (sl g3 n)) := fun hx ht => by
   have DF := an hx h0 ht
   exact hx.keep (by simp only [other_set DF])
  have Bb : Hid (zg T fa ra ba fc rc bc n W0 (fA (fun s => ρ (.tmp s)) none undef) ((((((((X.setCell ⟨q, 0, none⟩ (.int .i64 T.lits)).setCell ⟨q, 1, none⟩ (.slice fa T.foes.length fc)).setCell ⟨q, 2, none⟩ (.slice ra T.rules.length rc)).setCell ⟨q, 3, none⟩ (.slice ba T.beats.length bc)).setCell ⟨q, 4, none⟩ (sl g0 n)).setCell ⟨q, 5, none⟩ (sl g1 n)).setCell ⟨q, 6, none⟩ (sl g2 n)).setCell ⟨q, 7, none⟩ (sl g3 n))) := hide ⟨q, g0, g1, g2, g3, by rw [eY (by simp)]; exact k5, ⟨h8, kp f3 (by decide), wA (kp f0 (by decide)) (kp f1 (by decide)) (kp f2 (by decide)) ⟨m0, m1, m2⟩ ⟨d1, d2, d3⟩, hq, m3⟩, ((((((((hJ.low.setCell (p := ⟨q, 0, none⟩) hq _).setCell (p := ⟨q, 1, none⟩) hq _).setCell (p := ⟨q, 2, none⟩) hq _).setCell (p := ⟨q, 3, none⟩) hq _).setCell (p := ⟨q, 4, none⟩) hq _).setCell (p := ⟨q, 5, none⟩) hq _).setCell (p := ⟨q, 6, none⟩) hq _).setCell (p := ⟨q, 7, none⟩) hq _)⟩
  refine bY (w' := ((((((((X.setCell ⟨q, 0, none⟩ (.int .i64 T.lits)).setCell ⟨q, 1, none⟩ (.slice fa T.foes.length fc)).setCell ⟨q, 2, none⟩ (.slice ra T.rules.length rc)).setCell ⟨q, 3, none⟩ (.slice ba T.beats.length bc)).setCell ⟨q, 4, none⟩ (sl g0 n)).setCell ⟨q, 5, none⟩ (sl g1 n)).setCell ⟨q, 6, none⟩ (sl g2 n)).setCell ⟨q, 7, none⟩ (sl g3 n))) ?_ ⟨fun e => (by rw [aF] at e; cases e), fun _ => Bb.out⟩
  clear hd Aa hJ Ae hL kp Bb f0 f1 f2 f3 h1 h2 h3 h4 h5 h6 h7 h8 h0 Ct e5
  go_simp
 ·intro c a' w' _ hE
  exact hE.elim
 rintro ⟨Ad, df⟩ w' Ap Aw ⟨L, hL, hJ⟩ An
 simp only at Aw Ap
 subst Aw
 obtain ⟨q, rl, tm, rv, fm, e5, Cq, Cz⟩ := hJ.2 (hL 15 (by decide))
 have e5 : Ad.getD 5 undef = aa q := e5
 have Am := en 14 27 5 (by kernel_rfl) Ap An
 simp only [zs, Nat.reduceLT, Nat.reduceAdd, true_or, or_true, or_self, false_and, ne_eq, Nat.reduceEqDiff, not_false_eq_true, not_true_eq_false, and_self, and_false, if_true, if_false, e5] at Am
 rw [Am]
 clear Am hJ hL An Ap e5 BH CE Aj Ag
 generalize Ad.getD 14 undef = x14
 generalize Ad.getD 15 undef = x15
 generalize Ad.getD 16 undef = x16
 generalize Ad.getD 17 undef = x17
 generalize Ad.getD 18 undef = x18
 generalize Ad.getD 19 undef = x19
 generalize Ad.getD 20 undef = x20
 generalize Ad.getD 21 undef = x21
 generalize Ad.getD 22 undef = x22
 generalize Ad.getD 23 undef = x23
 generalize Ad.getD 24 undef = x24
 generalize Ad.getD 25 undef = x25
 generalize Ad.getD 26 undef = x26
 generalize Ad.getD 27 undef = x27
 have BL := hide Cq
 have Cw : Hid (Below W.heap.size W w') := hide (HDr.out.trans (Cz.mono HDr.out.size))
 have BR : W0.heap.size = W.heap.size := by rw [← Cf]; rfl
 rw [BR] at BL
 clear Cq Cz BR HDr HX1d
 have Ej := HF.out.lim
 have DC := hide HF.out.at1
 go_wp2_with fail
 go_loopw [30] (fun x wr => ∃ k : Nat, k ≤ F.length ∧ x = .int .i64 k ∧ Hid (Nx W.heap.size q rl tm rv fm fa ra ba fc rc bc T n (fun z => decide (z ∈ F.take k)) (fun _ => List.replicate n []) (fun _ => List.replicate n (.slice none 0 0)) wr) ∧ Hid (Below W.heap.size W wr)) (fun x _ => F.length - (intOf x).toNat)
 case atStart => exact ⟨0, by omega, rfl, hide (by have := BL.out; simpa using this), Cw⟩
 clear BL Cw
 obtain ⟨k, hk, rfl, HN, HBr⟩ := hrel
 by_cases Aq : k < F.length
 ·obtain ⟨x, hx⟩ := am Aq
  obtain ⟨x0, x1⟩ := HP.out.fact x (List.mem_of_getElem? hx)
  obtain ⟨xm, rfl⟩ := Int.eq_ofNat_of_zero_le x0
  have CH : xm < n := by omega
  obtain ⟨ge, oe, rfl, cx⟩ := (DC.out.below (show Below W.heap.size W wr from HBr.out)).get hx
  have c7 := HN.out.bx.get (i := 7) rfl
  have cf := HN.out.ff.get (dy CH)
  have zf := HN.out.ff.frz xm
  have BD : Hid (Nx W.heap.size q rl tm rv fm fa ra ba fc rc bc T n (fun z => decide (z ∈ F.take (k + 1))) (fun _ => List.replicate n []) (fun _ => List.replicate n (.slice none 0 0)) (wr.setCell ⟨fm, xm, none⟩ (.bool true))) := hide (by
   have := HN.out.setF CH
   have e : aA (fun z => decide (z ∈ F.take k)) (xm : Int) true = fun z => decide (z ∈ F.take (k + 1)) := by
    funext z
    rw [bD hx]
    by_cases ez : z = (xm : Int)
    ·subst ez; rw [aL]; simp
    rw [aS ez]; simp [ez]
   rw [e] at this
   exact this)
  have Dl := hide (HBr.out.setCell (p := ⟨fm, xm, none⟩) HN.out.lo.2 (.bool true))
  clear hx x0 x1
  go_wp2_with fail
  go_roundw
  case rel => exact ⟨k + 1, by omega, by go_num, BD, Dl⟩
  case measure => simp [intOf]; omega
 have BD : Hid (Nx W.heap.size q rl tm rv fm fa ra ba fc rc bc T n (fun z => decide (z ∈ F)) (fun _ => List.replicate n []) (fun _ => List.replicate n (.slice none 0 0)) wr) := hide (by have := HN.out; rw [List.take_of_length_le (by omega)] at this; exact this)
 have c2 := (AF.out.keep (HBr.out.block _ AF.out.lt)).get (i := 2) rfl
 have EL : T.rules.length ≤ 4096 := HP.out.ok.rl
 go_wp2_with fail
 clear c2
 have HNs := hide BD.out
 have HBs := hide HBr.out
 clear HN BD HBr
 go_loopw [42] (fun x wr => ∃ (k : Nat) (H : Nat → List (List Int)) (vs : Nat → List Value), k ≤ T.rules.length ∧ x = .int .i64 k ∧ Hid (G2 T n k H) ∧ Hid (Nx W.heap.size q rl tm rv fm fa ra ba fc rc bc T n (gj T F k) H vs wr) ∧ Hid (Below W.heap.size W wr)) (fun x _ => T.rules.length - (intOf x).toNat)
 case atStart => exact ⟨0, _, _, by omega, rfl, hide G2.start, hide (by rw [vo]; exact HNs.out), HBs⟩
 clear HNs HBs
 rename World => wr2
 obtain ⟨k, H, vs, hk, rfl, HG, HN, HBr⟩ := hrel
 by_cases Aq : k < T.rules.length
 ·obtain ⟨r, hr⟩ := am Aq
  have HRr := hide hr
  obtain ⟨h0, h1⟩ := HP.out.head r (List.mem_of_getElem? hr)
  obtain ⟨hm, BS⟩ := Int.eq_ofNat_of_zero_le h0
  have Cj := hide BS
  have As : hm < n := by omega
  have hR := TR.keep HBr.out.block BA.out
  obtain ⟨gr, go, bd, bp, rfl, CW, x0, x1, x2, -, Ey, Cp⟩ := dG hR.rules hr
  have Bc : Hid (∀ (c i : Nat) (l : List Int), c < 3 → (H c)[i]? = some l → l.length ≤ 4096) := hide fun c i l hc hl => by
   have AW : i < n := by rw [← HG.out.ln c hc]; exact (List.getElem?_eq_some_iff.1 hl).1
   have e : l = (H c).getD i [] := by rw [List.getD_eq_getElem?_getD, hl]; rfl
   rw [e]
   rcases (show c = 0 ∨ c = 1 ∨ c = 2 by omega) with rfl | rfl | rfl
   ·rw [HG.out.a i AW]; exact Nat.le_trans bg (by omega)
   ·rw [HG.out.t i AW]; exact Nat.le_trans bg (by omega)
   rw [HG.out.v i AW]; simp
  rw [BS] at x1
  have Cl := ae wr2 (.cells #[.int .i64 r.kind, .int .i64 hm, .slice bd r.body.length bp] 114)
  have HNq := hide (HN.out.go Cl)
  have HQ : Hid (Fx wr2.heap.size 114 [.int .i64 r.kind, .int .i64 hm, .slice bd r.body.length bp] (wr2.alloc (.cells #[.int .i64 r.kind, .int .i64 hm, .slice bd r.body.length bp] 114))) := hide (heap_alloc_new wr2 _)
  have HBq := hide (HBr.out.trans (Cl.mono HBr.out.size))
  clear hr h0 h1 BS hR Cl Cp HN HBr CW
  go_upto_region 10 with fail
  clear x0 x1 x2
  generalize wr2.alloc (.cells #[.int .i64 r.kind, .int .i64 hm, .slice bd r.body.length bp] 114) = wq at *
  obtain ⟨qr, Cs⟩ : ∃ qr, wr2.heap.size = qr := ⟨_, rfl⟩
  rw [Cs] at HQ ⊢
  clear Cs
  have Bf := (Below.refl wq.heap.size wq).drew
  have HNd0 := hide (HNq.out.go Bf)
  have HQd0 := hide (HQ.out.keep (Bf.block _ HQ.out.lt))
  have HBd0 := hide (HBq.out.trans (Bf.mono HBq.out.size))
  obtain ⟨wd, Au⟩ : ∃ wd, wq.drew = wd := ⟨_, rfl⟩
  rw [Au] at HNd0 HQd0 HBd0
  obtain ⟨l0, AC, AG, Bk, CF, BE, AT⟩ := HNd0.out.h3.at (c := 0) (by omega) (show hm < n from As)
  have BE : wd.cell? ⟨rl, hm, none⟩ = some (.slice AC l0.length AG) := BE
  have CN : l0.length ≤ 4096 := Bc.out 0 _ _ (by omega) Bk
  have Bp := ae wd (.cells #[.int .i64 k] 3)
  have BP : W.heap.size ≤ wd.heap.size := HBd0.out.size
  obtain ⟨AA, Ar, w2, AN, BB, Ak, Ck, CQ⟩ := run_append_lies (P := Tryz.prog) (wd.alloc (.cells #[.int .i64 k] 3)) 26 26 W.heap.size 3 iI _ 1 8 Tryz.underlying26 Cd BM Cb BZ rfl (by decide) (.slice AC l0.length AG) l0.length (aq l0) (owns_keep AT fun g hg => Bp.block g (ax AT hg)) ⟨wd.heap.size, 0, none⟩ 1 1 [.int .i64 k] rfl (World.news_of_block (cs := [.int .i64 k].toArray) (t := 3) (fr := (0, 0)) (heap_alloc_new wd (.cells #[.int .i64 k] 3))) (by simp [Value.oneCell']) (by decide) (by unfold maxLen; omega) (by omega) (by simp; omega) (wd.heap.size + 1) (by simp)
  have AM := hide AN
  have AL : ∀ k, k < wd.heap.size → Value.ownBlock (.slice AC l0.length AG) ≠ some k → w2.heap[k]? = wd.heap[k]? := fun k hk hn => (Ak.block k (by simp; omega) fun e => hn e.symm).trans (Bp.block k hk)
  have Bq := au AT (HNd0.out.h3.fx 0 (by omega)) (by decide)
  have Bs := au AT HQd0.out (by decide)
  have BN := au AT HNd0.out.bx (by decide)
  obtain ⟨w3, Ai⟩ : ∃ w3, w2.setCell ⟨rl, hm, none⟩ (.slice (some ⟨AA, 0, none⟩) (l0.length + 1) Ar) = w3 := ⟨_, rfl⟩
  have AR := hide Ai
  have HN0a : Hid (Nx W.heap.size q rl tm rv fm fa (some ⟨gr, go, none⟩) ba fc rc bc T n (gj T F k) (up H 0 ((H 0).set hm (l0 ++ [(k : Int)]))) (up vs 0 ((vs 0).set hm (.slice (some ⟨AA, 0, none⟩) (l0.length + 1) Ar))) w3) := hide (by rw [← Ai]; exact HNd0.out.add (c := 0) (by omega) Bk CF BB AL (by rcases Ck with h | h; exact .inl h; exact .inr (by omega)))
  have Ba : Hid (Fx qr 114 [.int .i64 r.kind, .int .i64 hm, .slice bd r.body.length bp] w3) := hide (by rw [← Ai]; exact (HQd0.out.keep (AL _ HQd0.out.lt Bs)).keep (other_set (an HQd0.out (HNd0.out.h3.fx 0 (by omega)) (by decide))))
  have AX : Hid (Below W.heap.size W w3) := hide (by rw [← Ai]; exact (HBd0.out.trans (show Below W.heap.size wd w2 from (Bp.mono BP).trans ⟨Ak.os, Ak.tape, Ak.output, Ak.size, fun k hk => Ak.block k (by simp; omega) fun e => by have := (AT.lt k e.symm).1; omega⟩)).setCell (p := ⟨rl, hm, none⟩) (HNd0.out.h3.lo 0 (by omega)) (.slice (some ⟨AA, 0, none⟩) (l0.length + 1) Ar))
  have By : ∀ {a : Addr} {v : Value}, wd.cell? a = some v → Value.ownBlock (.slice AC l0.length AG) ≠ some a.block → ∀ X, X = wd ∨ X = wd.alloc (.cells #[.int .i64 k] 3) ∨ X = w2 → X.cell? a = some v := fun ha hn X hX => by
   have Aq := World.block_lt_of_cell? wd _ ha
   rcases hX with rfl | rfl | rfl
   ·exact ha
   ·exact ar ha Bp
   exact (World.cell?_of_block (AL _ Aq hn)).trans ha
  have LH := hide (By (HNd0.out.bx.get (i := 4) (v := sl rl n) rfl) BN)
  have LQ := hide (By (HQd0.out.get (i := 1) rfl) Bs)
  have LR := hide (By BE Bq)
  have q1 : w2.cell? ⟨rl, hm, none⟩ = some (.slice AC l0.length AG) := LR.out w2 (.inr (.inr rfl))
  have q2 : w2.frozen? ⟨rl, hm, none⟩ = false := ((HNd0.out.h3.fx 0 (by omega)).keep (AL _ (HNd0.out.h3.fx 0 (by omega)).lt Bq)).frz hm
  have Af : Hid (fQ ([some (47, .pointer (some ⟨q, 4, none⟩)), some (48, sl rl n), some (49, .pointer (some ⟨qr, 1, none⟩)), some (50, .int .i64 hm), some (51, .pointer (some ⟨q, 4, none⟩)), some (52, sl rl n), some (53, .pointer (some ⟨qr, 1, none⟩)), some (54, .int .i64 hm), some (55, .pointer (some ⟨rl, hm, none⟩)), some (56, .slice AC l0.length AG), some (57, .int .i64 k), some (58, .slice (some ⟨wd.heap.size, 0, none⟩) 1 1), some (59, .slice (some ⟨AA, 0, none⟩) (l0.length + 1) Ar), some (60, .pointer (some ⟨rl, hm, none⟩)), none].map fun p : Option (Nat × Value) => p.map Prod.fst) [(5, aa q), (9, aa qr), (8, .int .i64 k)] = true) := hide rfl
  clear HNq HQ HBq BE Ak BB AN Bs BN Bq CF Ck CQ By AL Bp AT HNd0 HQd0 HBd0 BP Bf Ai
  refine bW fY (Jt [some (47, .pointer (some ⟨q, 4, none⟩)), some (48, sl rl n), some (49, .pointer (some ⟨qr, 1, none⟩)), some (50, .int .i64 hm), some (51, .pointer (some ⟨q, 4, none⟩)), some (52, sl rl n), some (53, .pointer (some ⟨qr, 1, none⟩)), some (54, .int .i64 hm), some (55, .pointer (some ⟨rl, hm, none⟩)), some (56, .slice AC l0.length AG), some (57, .int .i64 k), some (58, .slice (some ⟨wd.heap.size, 0, none⟩) 1 1), some (59, .slice (some ⟨AA, 0, none⟩) (l0.length + 1) Ar), some (60, .pointer (some ⟨rl, hm, none⟩)), none] [(5, aa q), (9, aa qr), (8, .int .i64 k)] (fG 11 12 14 wd (wd.alloc (.cells #[.int .i64 k] 3)) w2 w3)) (by kernel_rfl) (by kernel_rfl) ?_ (ci ⟨?_, ?_, ?_, ?_, ?_, ?_, ?_, ?_, ?_, ?_, ?_, ?_, ?_, ?_, ?_, trivial⟩) ?_ ?_
  ·exact ⟨fun p hp => by simp at hp; rcases hp with rfl | rfl | rfl <;> rfl, fun i d v _ hL => (by cases hL), Au⟩
  ·intro ρ X L hc hf hL hd Aa hJ
   have k5 : ρ (.tmp 5) = aa q := hJ.base (5, aa q) (by simp)
   refine ac (v := .pointer (some ⟨q, 4, none⟩)) (w' := X) ?_ (hJ.put Af.out rfl (by rw [ap (by decide) (by decide) (by decide)]; exact hJ.wd))
   clear hd Aa hJ hL
   go_simp
  ·intro ρ X L hc hf hL hd Aa hJ
   have EH := hJ.vals 0 47 (.pointer (some ⟨q, 4, none⟩)) rfl (hd ⟨0, .data⟩ (by simp) rfl)
   have Ac : L 14 = false := ak (by kernel_rfl) Aa (k := 1) (by simp) hL
   have hx := LH.out X (aZ hJ.wd Ac)
   clear Ac
   refine ac (v := sl rl n) (w' := X) ?_ (hJ.put Af.out rfl (by rw [ap (by decide) (by decide) (by decide)]; exact hJ.wd))
   clear hd Aa hJ hL
   go_simp
  ·intro ρ X L hc hf hL hd Aa hJ
   have k9 : ρ (.tmp 9) = aa qr := hJ.base (9, aa qr) (by simp)
   refine ac (v := .pointer (some ⟨qr, 1, none⟩)) (w' := X) ?_ (hJ.put Af.out rfl (by rw [ap (by decide) (by decide) (by decide)]; exact hJ.wd))
   clear hd Aa hJ hL
   go_simp
  ·intro ρ X L hc hf hL hd Aa hJ
   have EE := hJ.vals 2 49 (.pointer (some ⟨qr, 1, none⟩)) rfl (hd ⟨2, .data⟩ (by simp) rfl)
   have Ac : L 14 = false := ak (by kernel_rfl) Aa (k := 3) (by simp) hL
   have hx := LQ.out X (aZ hJ.wd Ac)
   clear Ac
   refine ac (v := .int .i64 hm) (w' := X) ?_ (hJ.put Af.out rfl (by rw [ap (by decide) (by decide) (by decide)]; exact hJ.wd))
   clear hd Aa hJ hL
   go_simp
  ·intro ρ X L hc hf hL hd Aa hJ
   have k5 : ρ (.tmp 5) = aa q := hJ.base (5, aa q) (by simp)
   refine ac (v := .pointer (some ⟨q, 4, none⟩)) (w' := X) ?_ (hJ.put Af.out rfl (by rw [ap (by decide) (by decide) (by decide)]; exact hJ.wd))
   clear hd Aa hJ hL
   go_simp
  ·intro ρ X L hc hf hL hd Aa hJ
   have Ea := hJ.vals 4 51 (.pointer (some ⟨q, 4, none⟩)) rfl (hd ⟨4, .data⟩ (by simp) rfl)
   have Ac : L 14 = false := ak (by kernel_rfl) Aa (k := 5) (by simp) hL
   have hx := LH.out X (aZ hJ.wd Ac)
   clear Ac
   refine ac (v := sl rl n) (w' := X) ?_ (hJ.put Af.out rfl (by rw [ap (by decide) (by decide) (by decide)]; exact hJ.wd))
   clear hd Aa hJ hL
   go_simp
  ·intro ρ X L hc hf hL hd Aa hJ
   have k9 : ρ (.tmp 9) = aa qr := hJ.base (9, aa qr) (by simp)
   refine ac (v := .pointer (some ⟨qr, 1, none⟩)) (w' := X) ?_ (hJ.put Af.out rfl (by rw [ap (by decide) (by decide) (by decide)]; exact hJ.wd))
   clear hd Aa hJ hL
   go_simp
  ·intro ρ X L hc hf hL hd Aa hJ
   have EM := hJ.vals 6 53 (.pointer (some ⟨qr, 1, none⟩)) rfl (hd ⟨6, .data⟩ (by simp) rfl)
   have Ac : L 14 = false := ak (by kernel_rfl) Aa (k := 7) (by simp) hL
   have hx := LQ.out X (aZ hJ.wd Ac)
   clear Ac
   refine ac (v := .int .i64 hm) (w' := X) ?_ (hJ.put Af.out rfl (by rw [ap (by decide) (by decide) (by decide)]; exact hJ.wd))
   clear hd Aa hJ hL
   go_simp
  ·intro ρ X L hc hf hL hd Aa hJ
   have DZ := hJ.vals 5 52 (sl rl n) rfl (hd ⟨5, .data⟩ (by simp) rfl)
   have Eo := hJ.vals 7 54 (.int .i64 hm) rfl (hd ⟨7, .data⟩ (by simp) rfl)
   refine ac (v := .pointer (some ⟨rl, hm, none⟩)) (w' := X) ?_ (hJ.put Af.out rfl (by rw [ap (by decide) (by decide) (by decide)]; exact hJ.wd))
   clear hd Aa hJ hL
   go_simp
  ·intro ρ X L hc hf hL hd Aa hJ
   have Ec := hJ.vals 8 55 (.pointer (some ⟨rl, hm, none⟩)) rfl (hd ⟨8, .data⟩ (by simp) rfl)
   have Ac : L 14 = false := ak (by kernel_rfl) Aa (k := 9) (by simp) hL
   have hx := LR.out X (aZ hJ.wd Ac)
   clear Ac
   refine ac (v := .slice AC l0.length AG) (w' := X) ?_ (hJ.put Af.out rfl (by rw [ap (by decide) (by decide) (by decide)]; exact hJ.wd))
   clear hd Aa hJ hL
   go_simp
  ·intro ρ X L hc hf hL hd Aa hJ
   have k8 : ρ (.tmp 8) = .int .i64 k := hJ.base (8, .int .i64 k) (by simp)
   refine ac (v := .int .i64 k) (w' := X) ?_ (hJ.put Af.out rfl (by rw [ap (by decide) (by decide) (by decide)]; exact hJ.wd))
   clear hd Aa hJ hL
   go_simp
  ·intro ρ X L hc hf hL hd Aa hJ
   have EC := hJ.vals 10 57 (.int .i64 k) rfl (hd ⟨10, .data⟩ (by simp) rfl)
   have Ah : L 12 = false := by cases e : L 12 with | false => rfl | true => (have := Aa 12 _ rfl e ⟨11, .data⟩ (by simp) rfl; rw [show (⟨11, .data⟩ : Edge).on = 11 from rfl] at this; rw [hL] at this; cases this)
   have Ac : L 14 = false := ak (by kernel_rfl) Aa (k := 11) (by simp) hL
   have hX := hJ.wd.trans (jV hL Ah Ac)
   refine ac (v := .slice (some ⟨wd.heap.size, 0, none⟩) 1 1) (w' := wd.alloc (.cells #[.int .i64 k] 3)) ?_ (hJ.put Af.out rfl ((eD aF (by rw [al (by decide)]; exact Ah) (by rw [al (by decide)]; exact Ac)).symm))
   subst hX
   clear hd Aa hJ hL Ah Ac
   go_simp
  ·intro ρ X L hc hf hL hd Aa hJ
   have Dx := hJ.vals 9 56 (.slice AC l0.length AG) rfl (hd ⟨9, .data⟩ (by simp) rfl)
   have Dm := hJ.vals 11 58 (.slice (some ⟨wd.heap.size, 0, none⟩) 1 1) rfl (hd ⟨11, .data⟩ (by simp) rfl)
   have Bj : L 11 = true := hd ⟨11, .data⟩ (by simp) rfl
   have Ac : L 14 = false := ak (by kernel_rfl) Aa (k := 12) (by simp) hL
   have hX := hJ.wd.trans (eD Bj hL Ac)
   refine eM _ _ 26 rfl Dx Dm (u := .slice (some ⟨AA, 0, none⟩) (l0.length + 1) Ar) (w' := w2) (by rw [hX]; exact AM.out) (hJ.put Af.out rfl ((eF aF (by rw [al (by decide)]; exact Ac)).symm))
  ·intro ρ X L hc hf hL hd Aa hJ
   have EG := hJ.vals 1 48 (sl rl n) rfl (hd ⟨1, .data⟩ (by simp) rfl)
   have EA := hJ.vals 3 50 (.int .i64 hm) rfl (hd ⟨3, .data⟩ (by simp) rfl)
   refine ac (v := .pointer (some ⟨rl, hm, none⟩)) (w' := X) ?_ (hJ.put Af.out rfl (by rw [ap (by decide) (by decide) (by decide)]; exact hJ.wd))
   clear hd Aa hJ hL
   go_simp
  ·intro ρ X L hc hf hL hd Aa hJ
   have EN := hJ.vals 13 60 (.pointer (some ⟨rl, hm, none⟩)) rfl (hd ⟨13, .data⟩ (by simp) rfl)
   have DX := hJ.vals 12 59 (.slice (some ⟨AA, 0, none⟩) (l0.length + 1) Ar) rfl (hd ⟨12, .data⟩ (by simp) rfl)
   have Ah : L 12 = true := hd ⟨12, .data⟩ (by simp) rfl
   have hX := hJ.wd.trans (eF Ah hL)
   refine bY (w' := w3) ?_ (hJ.last rfl ((eC aF).symm))
   subst hX
   clear hd Aa hJ hL Ah
   rw [← AR.out]
   go_simp
  ·intro c a' w' _ hE
   exact hE.elim
  rintro ⟨Ad, df⟩ w' Ap Aw ⟨L, hL, hJ⟩ An
  simp only at Aw Ap
  subst Aw
  have Bi : w3 = w' := (hJ.wd.trans (eC (hL 14 (by decide)))).symm
  subst Bi
  have Am := dA 47 60 (by kernel_rfl) Ap An
  simp only [zr, Nat.reduceLT, Nat.reduceAdd, true_or, or_true, or_self, if_true, if_false] at Am
  rw [Am]
  clear Am hJ hL An Ap Af AM AR LH LQ LR q1 q2 Au
  generalize Ad.getD 47 undef = x47
  generalize Ad.getD 48 undef = x48
  generalize Ad.getD 49 undef = x49
  generalize Ad.getD 50 undef = x50
  generalize Ad.getD 51 undef = x51
  generalize Ad.getD 52 undef = x52
  generalize Ad.getD 53 undef = x53
  generalize Ad.getD 54 undef = x54
  generalize Ad.getD 55 undef = x55
  generalize Ad.getD 56 undef = x56
  generalize Ad.getD 57 undef = x57
  generalize Ad.getD 58 undef = x58
  generalize Ad.getD 59 undef = x59
  generalize Ad.getD 60 undef = x60
  have HQ := hide Ba.out
  have HBq := hide AX.out
  clear Ba AX
  have Ca := HQ.out.get (i := 0) rfl
  have Cc := HQ.out.get (i := 1) rfl
  have Cn := HQ.out.get (i := 2) rfl
  have CT := hide (fh (w := w3) (k := r.kind) (h := (hm : Int)) (v := .slice bd r.body.length bp))
  cases hkt : kT r with
  | false =>
   have At : (!decide (r.kind = 3)) = false := hkt
   rw [At] at CT
   have Az := hide (HG.out.step3 HRr.out Cj.out As hkt Bk)
   have CD : Hid (decide (r.kind = 1) = false) := hide (by unfold kT at hkt; simp at hkt; rw [hkt]; rfl)
   have Bh : Hid (gj T F (k + 1) = gj T F k) := hide (pP HRr.out (by unfold kS; exact CD.out))
   clear hkt At
   go_wp2_with (first | (go_at_call 176; refine CT.out.mono ?_; rintro _ w5 ⟨rfl, hb⟩; have AV := hide hb; have AU := HQ.out.keep (hb.block _ HQ.out.lt); have Ep := AU.get (i := 0) rfl; have Dg := AU.get (i := 1) rfl; have Es := AU.get (i := 2) rfl; have CI := hide (fL (w := w5) (k := r.kind) (h := (hm : Int)) (v := .slice bd r.body.length bp)); rw [CD.out] at CI; clear hb AU) | (go_at_call 174; refine CI.out.mono ?_; rintro _ w6 ⟨rfl, hb⟩; have AJ := hide (AV.out.trans (hb.mono AV.out.size)); clear hb))
   go_roundw
   case rel => exact ⟨k + 1, _, _, by omega, by go_num, Az, hide (by rw [Bh.out]; exact HN0a.out.go AJ.out), hide (HBq.out.trans (AJ.out.mono HBq.out.size))⟩
   case measure => simp [intOf]; omega
  | true =>
   have At : (!decide (r.kind = 3)) = true := hkt
   rw [At] at CT
   have Dt := hide hkt
   clear hkt At
   go_upto_region 12 with (go_at_call 176; refine CT.out.mono ?_; rintro _ wt ⟨rfl, hb⟩; have AV := hide hb; clear hb)
   have HNt := hide (HN0a.out.go AV.out)
   have AU := hide (HQ.out.keep (AV.out.block _ HQ.out.lt))
   have HB5q := hide (HBq.out.trans (AV.out.mono HBq.out.size))
   have Df := hide Bk
   clear HQ HBq HN0a Ca Cc Cn CT AV Bk CN
   have HQ := hide AU.out
   have HBq := hide HB5q.out
   clear AU HB5q
   have Be := (Below.refl wt.heap.size wt).drew
   have HNd1 := hide (HNt.out.go Be)
   have HQd1 := hide (HQ.out.keep (Be.block _ HQ.out.lt))
   have HBd1 := hide (HBq.out.trans (Be.mono HBq.out.size))
   obtain ⟨wd, Au⟩ : ∃ wd, wt.drew = wd := ⟨_, rfl⟩
   rw [Au] at HNd1 HQd1 HBd1
   obtain ⟨l1, AD, AE, AY, Bz, AO, AK⟩ := HNd1.out.h3.at (c := 1) (by omega) (show hm < n from As)
   have AO : wd.cell? ⟨tm, hm, none⟩ = some (.slice AD l1.length AE) := AO
   have DR : l1.length ≤ 4096 := Bc.out 1 hm _ (by omega) AY
   have Bl := ae wd (.cells #[.int .i64 k] 3)
   have BQ : W.heap.size ≤ wd.heap.size := HBd1.out.size
   obtain ⟨AP, Ax, w2, AN, BC, Ao, Cg, CR⟩ := run_append_lies (P := Tryz.prog) (wd.alloc (.cells #[.int .i64 k] 3)) 26 26 W.heap.size 3 iI _ 1 8 Tryz.underlying26 Cd BM Cb BZ rfl (by decide) (.slice AD l1.length AE) l1.length (aq l1) (owns_keep AK fun g hg => Bl.block g (ax AK hg)) ⟨wd.heap.size, 0, none⟩ 1 1 [.int .i64 k] rfl (World.news_of_block (cs := [.int .i64 k].toArray) (t := 3) (fr := (0, 0)) (heap_alloc_new wd (.cells #[.int .i64 k] 3))) (by simp [Value.oneCell']) (by decide) (by unfold maxLen; omega) (by omega) (by simp; omega) (wd.heap.size + 1) (by simp)
   have AM := hide AN
   have AI : ∀ k, k < wd.heap.size → Value.ownBlock (.slice AD l1.length AE) ≠ some k → w2.heap[k]? = wd.heap[k]? := fun k hk hn => (Ao.block k (by simp; omega) fun e => hn e.symm).trans (Bl.block k hk)
   have Bu := au AK (HNd1.out.h3.fx 1 (by omega)) (by decide)
   have Br := au AK HQd1.out (by decide)
   have Ch := au AK HNd1.out.bx (by decide)
   obtain ⟨w3, Ai⟩ : ∃ w3, w2.setCell ⟨tm, hm, none⟩ (.slice (some ⟨AP, 0, none⟩) (l1.length + 1) Ax) = w3 := ⟨_, rfl⟩
   have AR := hide Ai
   have HN1a : Hid (Nx W.heap.size q rl tm rv fm fa (some ⟨gr, go, none⟩) ba fc rc bc T n (gj T F k) (up (up H 0 ((H 0).set hm (l0 ++ [(k : Int)]))) 1 (((up H 0 ((H 0).set hm (l0 ++ [(k : Int)]))) 1).set hm (l1 ++ [(k : Int)]))) (up (up vs 0 ((vs 0).set hm (.slice (some ⟨AA, 0, none⟩) (l0.length + 1) Ar))) 1 (((up vs 0 ((vs 0).set hm (.slice (some ⟨AA, 0, none⟩) (l0.length + 1) Ar))) 1).set hm (.slice (some ⟨AP, 0, none⟩) (l1.length + 1) Ax))) w3) := hide (by rw [← Ai]; exact HNd1.out.add (c := 1) (by omega) AY Bz BC AI (by rcases Cg with h | h; exact .inl h; exact .inr (by omega)))
   have Ba : Hid (Fx qr 114 [.int .i64 r.kind, .int .i64 hm, .slice bd r.body.length bp] w3) := hide (by rw [← Ai]; exact (HQd1.out.keep (AI _ HQd1.out.lt Br)).keep (other_set (an HQd1.out (HNd1.out.h3.fx 1 (by omega)) (by decide))))
   have AX : Hid (Below W.heap.size W w3) := hide (by rw [← Ai]; exact (HBd1.out.trans (show Below W.heap.size wd w2 from (Bl.mono BQ).trans ⟨Ao.os, Ao.tape, Ao.output, Ao.size, fun k hk => Ao.block k (by simp; omega) fun e => by have := (AK.lt k e.symm).1; omega⟩)).setCell (p := ⟨tm, hm, none⟩) (HNd1.out.h3.lo 1 (by omega)) (.slice (some ⟨AP, 0, none⟩) (l1.length + 1) Ax))
   have Bx : ∀ {a : Addr} {v : Value}, wd.cell? a = some v → Value.ownBlock (.slice AD l1.length AE) ≠ some a.block → ∀ X, X = wd ∨ X = wd.alloc (.cells #[.int .i64 k] 3) ∨ X = w2 → X.cell? a = some v := fun ha hn X hX => by
    have Aq := World.block_lt_of_cell? wd _ ha
    rcases hX with rfl | rfl | rfl
    ·exact ha
    ·exact ar ha Bl
    exact (World.cell?_of_block (AI _ Aq hn)).trans ha
   have LH := hide (Bx (HNd1.out.bx.get (i := 5) (v := sl tm n) rfl) Ch)
   have LQ := hide (Bx (HQd1.out.get (i := 1) rfl) Br)
   have LR := hide (Bx AO Bu)
   have q1 : w2.cell? ⟨tm, hm, none⟩ = some (.slice AD l1.length AE) := LR.out w2 (.inr (.inr rfl))
   have q2 : w2.frozen? ⟨tm, hm, none⟩ = false := ((HNd1.out.h3.fx 1 (by omega)).keep (AI _ (HNd1.out.h3.fx 1 (by omega)).lt Bu)).frz hm
   have Af : Hid (fQ ([some (63, .pointer (some ⟨q, 5, none⟩)), some (64, sl tm n), some (65, .pointer (some ⟨qr, 1, none⟩)), some (66, .int .i64 hm), some (67, .pointer (some ⟨q, 5, none⟩)), some (68, sl tm n), some (69, .pointer (some ⟨qr, 1, none⟩)), some (70, .int .i64 hm), some (71, .pointer (some ⟨tm, hm, none⟩)), some (72, .slice AD l1.length AE), some (73, .int .i64 k), some (74, .slice (some ⟨wd.heap.size, 0, none⟩) 1 1), some (75, .slice (some ⟨AP, 0, none⟩) (l1.length + 1) Ax), some (76, .pointer (some ⟨tm, hm, none⟩)), none].map fun p : Option (Nat × Value) => p.map Prod.fst) [(5, aa q), (9, aa qr), (8, .int .i64 k)] = true) := hide rfl
   clear HNt HQ HBq AO Ao BC AN Br Ch Bu Bz Cg CR Bx AI Bl AK HNd1 HQd1 HBd1 BQ Be Ai
   refine bW fY (Jt [some (63, .pointer (some ⟨q, 5, none⟩)), some (64, sl tm n), some (65, .pointer (some ⟨qr, 1, none⟩)), some (66, .int .i64 hm), some (67, .pointer (some ⟨q, 5, none⟩)), some (68, sl tm n), some (69, .pointer (some ⟨qr, 1, none⟩)), some (70, .int .i64 hm), some (71, .pointer (some ⟨tm, hm, none⟩)), some (72, .slice AD l1.length AE), some (73, .int .i64 k), some (74, .slice (some ⟨wd.heap.size, 0, none⟩) 1 1), some (75, .slice (some ⟨AP, 0, none⟩) (l1.length + 1) Ax), some (76, .pointer (some ⟨tm, hm, none⟩)), none] [(5, aa q), (9, aa qr), (8, .int .i64 k)] (fG 11 12 14 wd (wd.alloc (.cells #[.int .i64 k] 3)) w2 w3)) (by kernel_rfl) (by kernel_rfl) ?_ (ci ⟨?_, ?_, ?_, ?_, ?_, ?_, ?_, ?_, ?_, ?_, ?_, ?_, ?_, ?_, ?_, trivial⟩) ?_ ?_
   ·exact ⟨fun p hp => by simp at hp; rcases hp with rfl | rfl | rfl <;> rfl, fun i d v _ hL => (by cases hL), Au⟩
   ·intro ρ X L hc hf hL hd Aa hJ
    have k5 : ρ (.tmp 5) = aa q := hJ.base (5, aa q) (by simp)
    refine ac (v := .pointer (some ⟨q, 5, none⟩)) (w' := X) ?_ (hJ.put Af.out rfl (by rw [ap (by decide) (by decide) (by decide)]; exact hJ.wd))
    clear hd Aa hJ hL
    go_simp
   ·intro ρ X L hc hf hL hd Aa hJ
    have Ek := hJ.vals 0 63 (.pointer (some ⟨q, 5, none⟩)) rfl (hd ⟨0, .data⟩ (by simp) rfl)
    have Ac : L 14 = false := ak (by kernel_rfl) Aa (k := 1) (by simp) hL
    have hx := LH.out X (aZ hJ.wd Ac)
    clear Ac
    refine ac (v := sl tm n) (w' := X) ?_ (hJ.put Af.out rfl (by rw [ap (by decide) (by decide) (by decide)]; exact hJ.wd))
    clear hd Aa hJ hL
    go_simp
   ·intro ρ X L hc hf hL hd Aa hJ
    have k9 : ρ (.tmp 9) = aa qr := hJ.base (9, aa qr) (by simp)
    refine ac (v := .pointer (some ⟨qr, 1, none⟩)) (w' := X) ?_ (hJ.put Af.out rfl (by rw [ap (by decide) (by decide) (by decide)]; exact hJ.wd))
    clear hd Aa hJ hL
    go_simp
   ·intro ρ X L hc hf hL hd Aa hJ
    have Ee := hJ.vals 2 65 (.pointer (some ⟨qr, 1, none⟩)) rfl (hd ⟨2, .data⟩ (by simp) rfl)
    have Ac : L 14 = false := ak (by kernel_rfl) Aa (k := 3) (by simp) hL
    have hx := LQ.out X (aZ hJ.wd Ac)
    clear Ac
    refine ac (v := .int .i64 hm) (w' := X) ?_ (hJ.put Af.out rfl (by rw [ap (by decide) (by decide) (by decide)]; exact hJ.wd))
    clear hd Aa hJ hL
    go_simp
   ·intro ρ X L hc hf hL hd Aa hJ
    have k5 : ρ (.tmp 5) = aa q := hJ.base (5, aa q) (by simp)
    refine ac (v := .pointer (some ⟨q, 5, none⟩)) (w' := X) ?_ (hJ.put Af.out rfl (by rw [ap (by decide) (by decide) (by decide)]; exact hJ.wd))
    clear hd Aa hJ hL
    go_simp
   ·intro ρ X L hc hf hL hd Aa hJ
    have DW := hJ.vals 4 67 (.pointer (some ⟨q, 5, none⟩)) rfl (hd ⟨4, .data⟩ (by simp) rfl)
    have Ac : L 14 = false := ak (by kernel_rfl) Aa (k := 5) (by simp) hL
    have hx := LH.out X (aZ hJ.wd Ac)
    clear Ac
    refine ac (v := sl tm n) (w' := X) ?_ (hJ.put Af.out rfl (by rw [ap (by decide) (by decide) (by decide)]; exact hJ.wd))
    clear hd Aa hJ hL
    go_simp
   ·intro ρ X L hc hf hL hd Aa hJ
    have k9 : ρ (.tmp 9) = aa qr := hJ.base (9, aa qr) (by simp)
    refine ac (v := .pointer (some ⟨qr, 1, none⟩)) (w' := X) ?_ (hJ.put Af.out rfl (by rw [ap (by decide) (by decide) (by decide)]; exact hJ.wd))
    clear hd Aa hJ hL
    go_simp
   ·intro ρ X L hc hf hL hd Aa hJ
    have Ew := hJ.vals 6 69 (.pointer (some ⟨qr, 1, none⟩)) rfl (hd ⟨6, .data⟩ (by simp) rfl)
    have Ac : L 14 = false := ak (by kernel_rfl) Aa (k := 7) (by simp) hL
    have hx := LQ.out X (aZ hJ.wd Ac)
    clear Ac
    refine ac (v := .int .i64 hm) (w' := X) ?_ (hJ.put Af.out rfl (by rw [ap (by decide) (by decide) (by decide)]; exact hJ.wd))
    clear hd Aa hJ hL
    go_simp
   ·intro ρ X L hc hf hL hd Aa hJ
    have DY := hJ.vals 5 68 (sl tm n) rfl (hd ⟨5, .data⟩ (by simp) rfl)
    have Em := hJ.vals 7 70 (.int .i64 hm) rfl (hd ⟨7, .data⟩ (by simp) rfl)
    refine ac (v := .pointer (some ⟨tm, hm, none⟩)) (w' := X) ?_ (hJ.put Af.out rfl (by rw [ap (by decide) (by decide) (by decide)]; exact hJ.wd))
    clear hd Aa hJ hL
    go_simp
   ·intro ρ X L hc hf hL hd Aa hJ
    have Ed := hJ.vals 8 71 (.pointer (some ⟨tm, hm, none⟩)) rfl (hd ⟨8, .data⟩ (by simp) rfl)
    have Ac : L 14 = false := ak (by kernel_rfl) Aa (k := 9) (by simp) hL
    have hx := LR.out X (aZ hJ.wd Ac)
    clear Ac
    refine ac (v := .slice AD l1.length AE) (w' := X) ?_ (hJ.put Af.out rfl (by rw [ap (by decide) (by decide) (by decide)]; exact hJ.wd))
    clear hd Aa hJ hL
    go_simp
   ·intro ρ X L hc hf hL hd Aa hJ
    have k8 : ρ (.tmp 8) = .int .i64 k := hJ.base (8, .int .i64 k) (by simp)
    refine ac (v := .int .i64 k) (w' := X) ?_ (hJ.put Af.out rfl (by rw [ap (by decide) (by decide) (by decide)]; exact hJ.wd))
    clear hd Aa hJ hL
    go_simp
   ·intro ρ X L hc hf hL hd Aa hJ
    have Eg := hJ.vals 10 73 (.int .i64 k) rfl (hd ⟨10, .data⟩ (by simp) rfl)
    have Ah : L 12 = false := by cases e : L 12 with | false => rfl | true => (have := Aa 12 _ rfl e ⟨11, .data⟩ (by simp) rfl; rw [show (⟨11, .data⟩ : Edge).on = 11 from rfl] at this; rw [hL] at this; cases this)
    have Ac : L 14 = false := ak (by kernel_rfl) Aa (k := 11) (by simp) hL
    have hX := hJ.wd.trans (jV hL Ah Ac)
    refine ac (v := .slice (some ⟨wd.heap.size, 0, none⟩) 1 1) (w' := wd.alloc (.cells #[.int .i64 k] 3)) ?_ (hJ.put Af.out rfl ((eD aF (by rw [al (by decide)]; exact Ah) (by rw [al (by decide)]; exact Ac)).symm))
    subst hX
    clear hd Aa hJ hL Ah Ac
    go_simp
   ·intro ρ X L hc hf hL hd Aa hJ
    have CY := hJ.vals 9 72 (.slice AD l1.length AE) rfl (hd ⟨9, .data⟩ (by simp) rfl)
    have Dk := hJ.vals 11 74 (.slice (some ⟨wd.heap.size, 0, none⟩) 1 1) rfl (hd ⟨11, .data⟩ (by simp) rfl)
    have Bj : L 11 = true := hd ⟨11, .data⟩ (by simp) rfl
    have Ac : L 14 = false := ak (by kernel_rfl) Aa (k := 12) (by simp) hL
    have hX := hJ.wd.trans (eD Bj hL Ac)
    refine eM _ _ 26 rfl CY Dk (u := .slice (some ⟨AP, 0, none⟩) (l1.length + 1) Ax) (w' := w2) (by rw [hX]; exact AM.out) (hJ.put Af.out rfl ((eF aF (by rw [al (by decide)]; exact Ac)).symm))
   ·intro ρ X L hc hf hL hd Aa hJ
    have EO := hJ.vals 1 64 (sl tm n) rfl (hd ⟨1, .data⟩ (by simp) rfl)
    have Eu := hJ.vals 3 66 (.int .i64 hm) rfl (hd ⟨3, .data⟩ (by simp) rfl)
    refine ac (v := .pointer (some ⟨tm, hm, none⟩)) (w' := X) ?_ (hJ.put Af.out rfl (by rw [ap (by decide) (by decide) (by decide)]; exact hJ.wd))
    clear hd Aa hJ hL
    go_simp
   ·intro ρ X L hc hf hL hd Aa hJ
    have EB := hJ.vals 13 76 (.pointer (some ⟨tm, hm, none⟩)) rfl (hd ⟨13, .data⟩ (by simp) rfl)
    have EQ := hJ.vals 12 75 (.slice (some ⟨AP, 0, none⟩) (l1.length + 1) Ax) rfl (hd ⟨12, .data⟩ (by simp) rfl)
    have Ah : L 12 = true := hd ⟨12, .data⟩ (by simp) rfl
    have hX := hJ.wd.trans (eF Ah hL)
    refine bY (w' := w3) ?_ (hJ.last rfl ((eC aF).symm))
    subst hX
    clear hd Aa hJ hL Ah
    rw [← AR.out]
    go_simp
   ·intro c a' w' _ hE
    exact hE.elim
   rintro ⟨Ad, df⟩ w' Ap Aw ⟨L, hL, hJ⟩ An
   simp only at Aw Ap
   subst Aw
   have Bi : w3 = w' := (hJ.wd.trans (eC (hL 14 (by decide)))).symm
   subst Bi
   have Am := dA 63 76 (by kernel_rfl) Ap An
   simp only [zr, Nat.reduceLT, Nat.reduceAdd, true_or, or_true, or_self, if_true, if_false] at Am
   rw [Am]
   clear Am hJ hL An Ap Af AM AR LH LQ LR q1 q2 Au
   generalize Ad.getD 63 undef = x63
   generalize Ad.getD 64 undef = x64
   generalize Ad.getD 65 undef = x65
   generalize Ad.getD 66 undef = x66
   generalize Ad.getD 67 undef = x67
   generalize Ad.getD 68 undef = x68
   generalize Ad.getD 69 undef = x69
   generalize Ad.getD 70 undef = x70
   generalize Ad.getD 71 undef = x71
   generalize Ad.getD 72 undef = x72
   generalize Ad.getD 73 undef = x73
   generalize Ad.getD 74 undef = x74
   generalize Ad.getD 75 undef = x75
   generalize Ad.getD 76 undef = x76
   have HQ := hide Ba.out
   have HBq := hide AX.out
   clear Ba AX
   have Ca := HQ.out.get (i := 0) rfl
   have Cc := HQ.out.get (i := 1) rfl
   have Cn := HQ.out.get (i := 2) rfl
   have CI := hide (fL (w := w3) (k := r.kind) (h := (hm : Int)) (v := .slice bd r.body.length bp))
   have Az := hide (HG.out.step12 HRr.out Cj.out As Dt.out Df.out AY)
   cases hks : kS r with
   | false =>
    have At : decide (r.kind = 1) = false := hks
    rw [At] at CI
    have Bh : Hid (gj T F (k + 1) = gj T F k) := hide (pP HRr.out hks)
    clear hks At
    go_wp2_with (go_at_call 174; refine CI.out.mono ?_; rintro _ w6 ⟨rfl, hb⟩; have AJ := hide hb; clear hb)
    go_roundw
    case rel => exact ⟨k + 1, _, _, by omega, by go_num, Az, hide (by rw [Bh.out]; exact HN1a.out.go AJ.out), hide (HBq.out.trans (AJ.out.mono HBq.out.size))⟩
    case measure => simp [intOf]; omega
   | true =>
    have At : decide (r.kind = 1) = true := hks
    rw [At] at CI
    have Bh : Hid (gj T F (k + 1) = aA (gj T F k) hm true) := hide (xG HRr.out hks Cj.out)
    clear hks At
    go_upto_region 14 with (go_at_call 174; refine CI.out.mono ?_; rintro _ w6 ⟨rfl, hb⟩; have AJ := hide hb; clear hb)
    have Bo := hide (HN1a.out.go AJ.out)
    have CB := HQ.out.keep (AJ.out.block _ HQ.out.lt)
    have DG := hide (HBq.out.trans (AJ.out.mono HBq.out.size))
    have Dg := CB.get (i := 1) rfl
    have c7 := Bo.out.bx.get (i := 7) rfl
    have cf := Bo.out.ff.get (dy As)
    have zf := Bo.out.ff.frz hm
    have Dz := hide (Bo.out.setF As)
    have Dq := hide (DG.out.setCell (p := ⟨fm, hm, none⟩) Bo.out.lo.2 (.bool true))
    clear CB Ca Cc Cn
    go_wp2_with fail
    go_roundw
    case rel => exact ⟨k + 1, _, _, by omega, by go_num, Az, hide (by rw [Bh.out]; exact Dz.out), Dq⟩
    case measure => simp [intOf]; omega
 have Db : k = T.rules.length := by omega
 subst Db
 have CV : Hid (gj T F T.rules.length = bI T F) := hide rfl
 clear CV
 have Cm : T.foes.length = n := by have := HP.out.ok.fl; have := HP.out.ln; omega
 have c1 := (AF.out.keep (HBr.out.block _ AF.out.lt)).get (i := 1) rfl
 rw [Cm] at c1
 have Cu := hide HG.out.three
 have HNs : Hid (Nx W.heap.size q rl tm rv fm fa ra ba fc rc bc T n (bI T F) H vs wr2) := hide HN.out
 have HBs := hide HBr.out
 clear HN HBr HG Aq hk
 go_wp2_with fail
 clear c1
 go_loopw [88] (fun x wr => ∃ (k : Nat) (H : Nat → List (List Int)) (vs : Nat → List Value), k ≤ n ∧ x = .int .i64 k ∧ Hid (G3 T n k 0 H) ∧ Hid (Nx W.heap.size q rl tm rv fm fa ra ba fc rc bc T n (bI T F) H vs wr) ∧ Hid (Below W.heap.size W wr)) (fun x _ => n - (intOf x).toNat)
 case atStart => exact ⟨0, _, _, by omega, rfl, Cu, HNs, HBs⟩
 clear HNs HBs Cu
 rename World => wr3
 obtain ⟨k, H, vs, hk, rfl, HG, HN, HBr⟩ := hrel
 by_cases Aq : k < n
 ·obtain ⟨l, hl⟩ := am (l := T.foes) (i := k) (by omega)
  have er : row T.foes (k : Int) = l := bn (by rw [Int.toNat_natCast]; exact hl)
  have Ci := hide er
  have Dv : Hid (∀ x ∈ l, zb n x) := hide fun x hx => HP.out.foe k Aq x (by rw [er]; exact hx)
  have Ev : l.length ≤ 64 := by rw [← er]; exact (xu HP.out Aq).2
  have hR := TR.keep HBr.out.block BA.out
  obtain ⟨gf, of, la, lc, rfl, Dw, cf, -, -, hI⟩ := bH hR.foes hl
  have Dy : Hid (∀ X, Below W.heap.size W X → At1 X la (aq l)) := hide fun X hX => by
   have h2 := TR.keep hX.block BA.out
   obtain ⟨g3, o3, a3, c3, e3, CC, DD, -, -, Dh⟩ := bH h2.foes hl
   cases e3
   have e4 : wr3.cell? ⟨gf, of + k, none⟩ = X.cell? ⟨gf, of + k, none⟩ := (World.cell?_of_block (HBr.out.block gf CC)).trans (World.cell?_of_block (hX.block gf CC)).symm
   rw [cf, DD] at e4
   cases e4
   exact Dh.at1
  clear hl er hR hI Dw
  go_wp2_with fail
  clear cf
  have HGs := hide HG.out
  have HNs := hide HN.out
  have HBs := hide HBr.out
  clear HG HN HBr
  have HL := hide Aq
  go_loopw [95] (fun x wr => ∃ (j : Nat) (H : Nat → List (List Int)) (vs : Nat → List Value), j ≤ l.length ∧ x = .int .i64 j ∧ Hid (G3 T n k j H) ∧ Hid (Nx W.heap.size q rl tm rv fm (some ⟨gf, of, none⟩) ra ba fc rc bc T n (bI T F) H vs wr) ∧ Hid (Below W.heap.size W wr)) (fun x _ => l.length - (intOf x).toNat)
  case atStart => exact ⟨0, _, _, by omega, rfl, HGs, HNs, HBs⟩
  clear HNs HBs HGs
  rename World => wr4
  obtain ⟨j, H, vs, hj, rfl, HG, HN, HBr⟩ := hrel
  by_cases hjl : j < l.length
  ·obtain ⟨Dn, BG⟩ := am hjl
   obtain ⟨Cx, DB⟩ := Dv.out Dn (List.mem_of_getElem? BG)
   obtain ⟨fo, rfl⟩ := Int.eq_ofNat_of_zero_le Cx
   have Co : fo < n := by omega
   obtain ⟨gx, ox, rfl, cx⟩ := (Dy.out wr4 HBr.out).get BG
   have c5 := HN.out.bx.get (i := 5) rfl
   obtain ⟨lt, Dj, Du, AY, Bz, AO, AK⟩ := HN.out.h3.at (c := 1) (by omega) Co
   have AO : wr4.cell? ⟨tm, fo, none⟩ = some (.slice Dj lt.length Du) := AO
   have Bv : Hid (lt = ag T kT fo) := hide (by have := HG.out.t fo Co; rw [iD AY] at this; exact this)
   have CP : lt.length ≤ 4096 := by rw [Bv.out]; exact Nat.le_trans bg (by omega)
   have CL := hide BG
   clear BG Cx DB AY Bz AK
   by_cases hlen : 0 < lt.length
   ·have Cv : decide (0 < (lt.length : Int)) = true := decide_eq_true (by omega)
    have Ce : Hid (ag T kT fo ≠ []) := hide (by rw [← Bv.out]; intro e; rw [e] at hlen; simp at hlen)
    have As : k < n := HL.out
    have Bc : Hid (∀ (c i : Nat) (l : List Int), c < 3 → (H c)[i]? = some l → l.length ≤ 4096) := hide fun c i l2 hc hl2 => by
     have AW : i < n := by rw [← HG.out.ln c hc]; exact (List.getElem?_eq_some_iff.1 hl2).1
     have e : l2 = (H c).getD i [] := by rw [List.getD_eq_getElem?_getD, hl2]; rfl
     rw [e]
     rcases (show c = 0 ∨ c = 1 ∨ c = 2 by omega) with rfl | rfl | rfl
     ·rw [HG.out.a i AW]; exact Nat.le_trans bg (by omega)
     ·rw [HG.out.t i AW]; exact Nat.le_trans bg (by omega)
     exact HG.out.len64 HP.out i AW
    have HQ : Hid (Fx bq 25 [.int .i64 T.lits, .slice (some ⟨gf, of, none⟩) T.foes.length fc, .slice ra T.rules.length rc, .slice ba T.beats.length bc] wr4) := hide (AF.out.keep (HBr.out.block _ AF.out.lt))
    have HBq := hide HBr.out
    have CA : decide (0 < lt.length) = true := decide_eq_true hlen
    clear HBr Bv CP
    go_upto_region 23 with fail
    clear c5 AO cx Cv CA hlen
    have Bg := (Below.refl wr4.heap.size wr4).drew
    have HNd2 := hide (HN.out.go Bg)
    have HQd2 := hide (HQ.out.keep (Bg.block _ HQ.out.lt))
    have HBd2 := hide (HBq.out.trans (Bg.mono HBq.out.size))
    obtain ⟨wd, Au⟩ : ∃ wd, wr4.drew = wd := ⟨_, rfl⟩
    rw [Au] at HNd2 HQd2 HBd2
    obtain ⟨l2, Ay, AB, BT, Cy, BF, AS⟩ := HNd2.out.h3.at (c := 2) (by omega) (show k < n from As)
    have BF : wd.cell? ⟨rv, k, none⟩ = some (.slice Ay l2.length AB) := BF
    have DV : l2.length ≤ 4096 := Bc.out 2 _ _ (by omega) BT
    have Bn := ae wd (.cells #[.int .i64 fo] 3)
    have BJ : W.heap.size ≤ wd.heap.size := HBd2.out.size
    obtain ⟨AQ, Av, w2, AN, Bw, Al, BU, CO⟩ := run_append_lies (P := Tryz.prog) (wd.alloc (.cells #[.int .i64 fo] 3)) 26 26 W.heap.size 3 iI _ 1 8 Tryz.underlying26 Cd BM Cb BZ rfl (by decide) (.slice Ay l2.length AB) l2.length (aq l2) (owns_keep AS fun g hg => Bn.block g (ax AS hg)) ⟨wd.heap.size, 0, none⟩ 1 1 [.int .i64 fo] rfl (World.news_of_block (cs := [.int .i64 fo].toArray) (t := 3) (fr := (0, 0)) (heap_alloc_new wd (.cells #[.int .i64 fo] 3))) (by simp [Value.oneCell']) (by decide) (by unfold maxLen; omega) (by omega) (by simp; omega) (wd.heap.size + 1) (by simp)
    have AM := hide AN
    have AH : ∀ k, k < wd.heap.size → Value.ownBlock (.slice Ay l2.length AB) ≠ some k → w2.heap[k]? = wd.heap[k]? := fun k hk hn => (Al.block k (by simp; omega) fun e => hn e.symm).trans (Bn.block k hk)
    have Bt := au AS (HNd2.out.h3.fx 2 (by omega)) (by decide)
    have BO := au AS HQd2.out (by decide)
    have BV := au AS HNd2.out.bx (by decide)
    obtain ⟨w3, Ai⟩ : ∃ w3, w2.setCell ⟨rv, k, none⟩ (.slice (some ⟨AQ, 0, none⟩) (l2.length + 1) Av) = w3 := ⟨_, rfl⟩
    have AR := hide Ai
    have HN2a : Hid (Nx W.heap.size q rl tm rv fm (some ⟨gf, of, none⟩) ra ba fc rc bc T n (bI T F) (up H 2 ((H 2).set k (l2 ++ [(fo : Int)]))) (up vs 2 ((vs 2).set k (.slice (some ⟨AQ, 0, none⟩) (l2.length + 1) Av))) w3) := hide (by rw [← Ai]; exact HNd2.out.add (c := 2) (by omega) BT Cy Bw AH (by rcases BU with h | h; exact .inl h; exact .inr (by omega)))
    have Ba : Hid (Fx bq 25 [.int .i64 T.lits, .slice (some ⟨gf, of, none⟩) T.foes.length fc, .slice ra T.rules.length rc, .slice ba T.beats.length bc] w3) := hide (by rw [← Ai]; exact (HQd2.out.keep (AH _ HQd2.out.lt BO)).keep (other_set (an HQd2.out (HNd2.out.h3.fx 2 (by omega)) (by decide))))
    have AX : Hid (Below W.heap.size W w3) := hide (by rw [← Ai]; exact (HBd2.out.trans (show Below W.heap.size wd w2 from (Bn.mono BJ).trans ⟨Al.os, Al.tape, Al.output, Al.size, fun k hk => Al.block k (by simp; omega) fun e => by have := (AS.lt k e.symm).1; omega⟩)).setCell (p := ⟨rv, k, none⟩) (HNd2.out.h3.lo 2 (by omega)) (.slice (some ⟨AQ, 0, none⟩) (l2.length + 1) Av))
    have BK : ∀ {a : Addr} {v : Value}, wd.cell? a = some v → Value.ownBlock (.slice Ay l2.length AB) ≠ some a.block → ∀ X, X = wd ∨ X = wd.alloc (.cells #[.int .i64 fo] 3) ∨ X = w2 → X.cell? a = some v := fun ha hn X hX => by
     have Aq := World.block_lt_of_cell? wd _ ha
     rcases hX with rfl | rfl | rfl
     ·exact ha
     ·exact ar ha Bn
     exact (World.cell?_of_block (AH _ Aq hn)).trans ha
    have LH := hide (BK (HNd2.out.bx.get (i := 6) (v := sl rv n) rfl) BV)
    have LR := hide (BK BF Bt)
    have q1 : w2.cell? ⟨rv, k, none⟩ = some (.slice Ay l2.length AB) := LR.out w2 (.inr (.inr rfl))
    have q2 : w2.frozen? ⟨rv, k, none⟩ = false := ((HNd2.out.h3.fx 2 (by omega)).keep (AH _ (HNd2.out.h3.fx 2 (by omega)).lt Bt)).frz k
    have Af : Hid (fQ ([some (106, .pointer (some ⟨q, 6, none⟩)), some (107, sl rv n), some (108, .int .i64 k), some (109, .pointer (some ⟨q, 6, none⟩)), some (110, sl rv n), some (111, .int .i64 k), some (112, .pointer (some ⟨rv, k, none⟩)), some (113, .slice Ay l2.length AB), some (114, .int .i64 fo), some (115, .slice (some ⟨wd.heap.size, 0, none⟩) 1 1), some (116, .slice (some ⟨AQ, 0, none⟩) (l2.length + 1) Av), some (117, .pointer (some ⟨rv, k, none⟩)), none].map fun p : Option (Nat × Value) => p.map Prod.fst) [(5, aa q), (10, .int .i64 k), (13, .int .i64 fo)] = true) := hide rfl
    clear HN HQ HBq BF Al Bw AN BO BV Bt Cy BU CO BK AH Bn AS HNd2 HQd2 HBd2 BJ Bg Ai
    refine bW fY (Jt [some (106, .pointer (some ⟨q, 6, none⟩)), some (107, sl rv n), some (108, .int .i64 k), some (109, .pointer (some ⟨q, 6, none⟩)), some (110, sl rv n), some (111, .int .i64 k), some (112, .pointer (some ⟨rv, k, none⟩)), some (113, .slice Ay l2.length AB), some (114, .int .i64 fo), some (115, .slice (some ⟨wd.heap.size, 0, none⟩) 1 1), some (116, .slice (some ⟨AQ, 0, none⟩) (l2.length + 1) Av), some (117, .pointer (some ⟨rv, k, none⟩)), none] [(5, aa q), (10, .int .i64 k), (13, .int .i64 fo)] (fG 9 10 12 wd (wd.alloc (.cells #[.int .i64 fo] 3)) w2 w3)) (by kernel_rfl) (by kernel_rfl) ?_ (ci ⟨?_, ?_, ?_, ?_, ?_, ?_, ?_, ?_, ?_, ?_, ?_, ?_, ?_, trivial⟩) ?_ ?_
    ·exact ⟨fun p hp => by simp at hp; rcases hp with rfl | rfl | rfl <;> rfl, fun i d v _ hL => (by cases hL), Au⟩
    ·intro ρ X L hc hf hL hd Aa hJ
     have k5 : ρ (.tmp 5) = aa q := hJ.base (5, aa q) (by simp)
     refine ac (v := .pointer (some ⟨q, 6, none⟩)) (w' := X) ?_ (hJ.put Af.out rfl (by rw [ap (by decide) (by decide) (by decide)]; exact hJ.wd))
     clear hd Aa hJ hL
     go_simp
    ·intro ρ X L hc hf hL hd Aa hJ
     have DM := hJ.vals 0 106 (.pointer (some ⟨q, 6, none⟩)) rfl (hd ⟨0, .data⟩ (by simp) rfl)
     have Ac : L 12 = false := ak (by kernel_rfl) Aa (k := 1) (by simp) hL
     have hx := LH.out X (aZ hJ.wd Ac)
     clear Ac
     refine ac (v := sl rv n) (w' := X) ?_ (hJ.put Af.out rfl (by rw [ap (by decide) (by decide) (by decide)]; exact hJ.wd))
     clear hd Aa hJ hL
     go_simp
    ·intro ρ X L hc hf hL hd Aa hJ
     have CU : ρ (.tmp 10) = .int .i64 k := hJ.base (10, .int .i64 k) (by simp)
     refine ac (v := .int .i64 k) (w' := X) ?_ (hJ.put Af.out rfl (by rw [ap (by decide) (by decide) (by decide)]; exact hJ.wd))
     clear hd Aa hJ hL
     go_simp
    ·intro ρ X L hc hf hL hd Aa hJ
     have k5 : ρ (.tmp 5) = aa q := hJ.base (5, aa q) (by simp)
     refine ac (v := .pointer (some ⟨q, 6, none⟩)) (w' := X) ?_ (hJ.put Af.out rfl (by rw [ap (by decide) (by decide) (by decide)]; exact hJ.wd))
     clear hd Aa hJ hL
     go_simp
    ·intro ρ X L hc hf hL hd Aa hJ
     have DP := hJ.vals 3 109 (.pointer (some ⟨q, 6, none⟩)) rfl (hd ⟨3, .data⟩ (by simp) rfl)
     have Ac : L 12 = false := ak (by kernel_rfl) Aa (k := 4) (by simp) hL
     have hx := LH.out X (aZ hJ.wd Ac)
     clear Ac
     refine ac (v := sl rv n) (w' := X) ?_ (hJ.put Af.out rfl (by rw [ap (by decide) (by decide) (by decide)]; exact hJ.wd))
     clear hd Aa hJ hL
     go_simp
    ·intro ρ X L hc hf hL hd Aa hJ
     have CU : ρ (.tmp 10) = .int .i64 k := hJ.base (10, .int .i64 k) (by simp)
     refine ac (v := .int .i64 k) (w' := X) ?_ (hJ.put Af.out rfl (by rw [ap (by decide) (by decide) (by decide)]; exact hJ.wd))
     clear hd Aa hJ hL
     go_simp
    ·intro ρ X L hc hf hL hd Aa hJ
     have DO := hJ.vals 4 110 (sl rv n) rfl (hd ⟨4, .data⟩ (by simp) rfl)
     have DT := hJ.vals 5 111 (.int .i64 k) rfl (hd ⟨5, .data⟩ (by simp) rfl)
     refine ac (v := .pointer (some ⟨rv, k, none⟩)) (w' := X) ?_ (hJ.put Af.out rfl (by rw [ap (by decide) (by decide) (by decide)]; exact hJ.wd))
     clear hd Aa hJ hL
     go_simp
    ·intro ρ X L hc hf hL hd Aa hJ
     have DN := hJ.vals 6 112 (.pointer (some ⟨rv, k, none⟩)) rfl (hd ⟨6, .data⟩ (by simp) rfl)
     have Ac : L 12 = false := ak (by kernel_rfl) Aa (k := 7) (by simp) hL
     have hx := LR.out X (aZ hJ.wd Ac)
     clear Ac
     refine ac (v := .slice Ay l2.length AB) (w' := X) ?_ (hJ.put Af.out rfl (by rw [ap (by decide) (by decide) (by decide)]; exact hJ.wd))
     clear hd Aa hJ hL
     go_simp
    ·intro ρ X L hc hf hL hd Aa hJ
     have ER : ρ (.tmp 13) = .int .i64 fo := hJ.base (13, .int .i64 fo) (by simp)
     refine ac (v := .int .i64 fo) (w' := X) ?_ (hJ.put Af.out rfl (by rw [ap (by decide) (by decide) (by decide)]; exact hJ.wd))
     clear hd Aa hJ hL
     go_simp
    ·intro ρ X L hc hf hL hd Aa hJ
     have DU := hJ.vals 8 114 (.int .i64 fo) rfl (hd ⟨8, .data⟩ (by simp) rfl)
     have Ah : L 10 = false := by cases e : L 10 with | false => rfl | true => (have := Aa 10 _ rfl e ⟨9, .data⟩ (by simp) rfl; rw [show (⟨9, .data⟩ : Edge).on = 9 from rfl] at this; rw [hL] at this; cases this)
     have Ac : L 12 = false := ak (by kernel_rfl) Aa (k := 9) (by simp) hL
     have hX := hJ.wd.trans (jV hL Ah Ac)
     refine ac (v := .slice (some ⟨wd.heap.size, 0, none⟩) 1 1) (w' := wd.alloc (.cells #[.int .i64 fo] 3)) ?_ (hJ.put Af.out rfl ((eD aF (by rw [al (by decide)]; exact Ah) (by rw [al (by decide)]; exact Ac)).symm))
     subst hX
     clear hd Aa hJ hL Ah Ac
     go_simp
    ·intro ρ X L hc hf hL hd Aa hJ
     have CM := hJ.vals 7 113 (.slice Ay l2.length AB) rfl (hd ⟨7, .data⟩ (by simp) rfl)
     have CS := hJ.vals 9 115 (.slice (some ⟨wd.heap.size, 0, none⟩) 1 1) rfl (hd ⟨9, .data⟩ (by simp) rfl)
     have Bj : L 9 = true := hd ⟨9, .data⟩ (by simp) rfl
     have Ac : L 12 = false := ak (by kernel_rfl) Aa (k := 10) (by simp) hL
     have hX := hJ.wd.trans (eD Bj hL Ac)
     refine eM _ _ 26 rfl CM CS (u := .slice (some ⟨AQ, 0, none⟩) (l2.length + 1) Av) (w' := w2) (by rw [hX]; exact AM.out) (hJ.put Af.out rfl ((eF aF (by rw [al (by decide)]; exact Ac)).symm))
    ·intro ρ X L hc hf hL hd Aa hJ
     have DS := hJ.vals 1 107 (sl rv n) rfl (hd ⟨1, .data⟩ (by simp) rfl)
     have DK := hJ.vals 2 108 (.int .i64 k) rfl (hd ⟨2, .data⟩ (by simp) rfl)
     refine ac (v := .pointer (some ⟨rv, k, none⟩)) (w' := X) ?_ (hJ.put Af.out rfl (by rw [ap (by decide) (by decide) (by decide)]; exact hJ.wd))
     clear hd Aa hJ hL
     go_simp
    ·intro ρ X L hc hf hL hd Aa hJ
     have DQ := hJ.vals 11 117 (.pointer (some ⟨rv, k, none⟩)) rfl (hd ⟨11, .data⟩ (by simp) rfl)
     have DL := hJ.vals 10 116 (.slice (some ⟨AQ, 0, none⟩) (l2.length + 1) Av) rfl (hd ⟨10, .data⟩ (by simp) rfl)
     have Ah : L 10 = true := hd ⟨10, .data⟩ (by simp) rfl
     have hX := hJ.wd.trans (eF Ah hL)
     refine bY (w' := w3) ?_ (hJ.last rfl ((eC aF).symm))
     subst hX
     clear hd Aa hJ hL Ah
     rw [← AR.out]
     go_simp
    ·intro c a' w' _ hE
     exact hE.elim
    rintro ⟨Ad, df⟩ w' Ap Aw ⟨L, hL, hJ⟩ An
    simp only at Aw Ap
    subst Aw
    have Bi : w3 = w' := (hJ.wd.trans (eC (hL 12 (by decide)))).symm
    subst Bi
    have Am := dA 106 117 (by kernel_rfl) Ap An
    simp only [zr, Nat.reduceLT, Nat.reduceAdd, true_or, or_true, or_self, if_true, if_false] at Am
    rw [Am]
    clear Am hJ hL An Ap Af AM AR LH LR q1 q2 Au
    generalize Ad.getD 106 undef = x106
    generalize Ad.getD 107 undef = x107
    generalize Ad.getD 108 undef = x108
    generalize Ad.getD 109 undef = x109
    generalize Ad.getD 110 undef = x110
    generalize Ad.getD 111 undef = x111
    generalize Ad.getD 112 undef = x112
    generalize Ad.getD 113 undef = x113
    generalize Ad.getD 114 undef = x114
    generalize Ad.getD 115 undef = x115
    generalize Ad.getD 116 undef = x116
    generalize Ad.getD 117 undef = x117
    have Az := hide (HG.out.add Ci.out CL.out Ce.out As BT)
    go_wp2_with fail
    go_roundw
    case rel => exact ⟨j + 1, _, _, by omega, by go_num, Az, HN2a, AX⟩
    case measure => simp [intOf]; omega
   have Cv : decide (0 < (lt.length : Int)) = false := decide_eq_false (by omega)
   have Ce : Hid (ag T kT fo = []) := hide (by rw [← Bv.out]; exact List.eq_nil_of_length_eq_zero (by omega))
   have Az := hide (HG.out.skip Ci.out CL.out Ce.out)
   have CA : decide (0 < lt.length) = false := decide_eq_false hlen
   go_wp2_with fail
   go_roundw
   case rel => exact ⟨j + 1, _, _, by omega, by go_num, Az, HN, HBr⟩
   case measure => simp [intOf]; omega
  have Az := hide (HG.out.next Ci.out (by omega))
  go_wp2_with fail
  go_roundw
  case rel => exact ⟨k + 1, _, _, by omega, by go_num, Az, HN, HBr⟩
  case measure => simp [intOf]; omega
 have Dc : k = n := by omega
 subst Dc
 have c0 := HN.out.bx.get (i := 0) rfl
 have c1 := HN.out.bx.get (i := 1) rfl
 have c2 := HN.out.bx.get (i := 2) rfl
 have c3 := HN.out.bx.get (i := 3) rfl
 have c4 := HN.out.bx.get (i := 4) rfl
 have c5 := HN.out.bx.get (i := 5) rfl
 have c6 := HN.out.bx.get (i := 6) rfl
 have c7 := HN.out.bx.get (i := 7) rfl
 have HX2r := hide (Bm.out.keep (HBr.out.block _ Bm.out.lt))
 have EF : bq + 1 < W.heap.size := Bm.out.lt
 have Dr : Hid (∀ z : Nat, z < k → (H 0).getD z [] = ag T kA z ∧ (H 1).getD z [] = ag T kT z ∧ (H 2).getD z [] = ao T z) := hide fun z hz => ⟨HG.out.a z hz, HG.out.t z hz, by rw [HG.out.v z hz, if_pos hz]⟩
 clear HG AF BA
 go_upto_region 26 with fail
 refine wp_region_lit ?_
 refine wpList_plain rfl fun K hK => ?_
 go_simp
 refine hK _ _ ?_
 clear hK
 refine wpList_plain rfl fun K hK => ?_
 refine wp_store_row 176 _ _ rfl (bq + 1) _ rfl rfl _ _ HX2r.out (by kernel_rfl) rfl (by simp [sl, Value.oneCell']) ?_
 refine hK _ _ ?_
 clear hK
 have Bb := hide (setRow_heap wr3 (bq + 1) _ #[.int .i64 T.lits, .slice fa k fc, .slice ra T.rules.length rc, .slice ba T.beats.length bc, sl rl k, sl tm k, sl rv k, sl fm k] _ _ HX2r.out)
 have Dp := hide (HN.out.far (w' := wr3.setRow (bq + 1) #[.int .i64 T.lits, .slice fa k fc, .slice ra T.rules.length rc, .slice ba T.beats.length bc, sl rl k, sl tm k, sl rv k, sl fm k]) (fun g hg _ => setRow_other _ _ _ _ (by omega)) HB.out.size)
 have Ds := hide (kM (b := bq + 1) (HB.out.trans (HBr.out.mono HB.out.size)) (by rw [Da.out]; omega) #[.int .i64 T.lits, .slice fa k fc, .slice ra T.rules.length rc, .slice ba T.beats.length bc, sl rl k, sl tm k, sl rv k, sl fm k])
 generalize wr3.setRow (bq + 1) #[.int .i64 T.lits, .slice fa k fc, .slice ra T.rules.length rc, .slice ba T.beats.length bc, sl rl k, sl tm k, sl rv k, sl fm k] = Y at *
 clear HN HBr c0 c1 c2 c3 c4 c5 c6 c7 HX2r Bm
 go_wp2_with fail
 have Cm : T.foes.length = k := by first | assumption | exact HP.out.fl | omega
 refine bodyPost_ret (v := .agg #[.int .i64 T.lits, .slice fa k fc, .slice ra T.rules.length rc, .slice ba T.beats.length bc, sl rl k, sl tm k, sl rv k, sl fm k]) (yZ rfl Bb.out) rfl ?_
 exact ⟨q, rl, tm, rv, fm, vs, H, by rw [← Cm], Dp.out, Dr.out, Ds.out⟩
end Go.Proofs.YtmlhcncagdfjfaaGreat.Fa
