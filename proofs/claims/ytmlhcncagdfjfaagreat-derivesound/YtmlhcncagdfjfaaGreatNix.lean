import Derived.Test.YtmlhcncagdfjfaaGreatDrI
import Derived.Test.YtmlhcncagdfjfaaGreatFs2
set_option maxRecDepth 100000
set_option maxHeartbeats 12800000
namespace Go.Proofs.YtmlhcncagdfjfaaGreat.Fa
open Go.RowKit Rg
def fW (_ : List PanicEntry) (_ : World) : Prop := False
def yq (rl tm rv : Nat) (c : Nat) : Nat := if c = 0 then rl else if c = 1 then tm else rv
abbrev cU (T : Th) (fa ra ba : Option Addr) (fc rc bc rl tm rv fm n : Nat) : List Value := [.int .i64 T.lits, .slice fa T.foes.length fc, .slice ra T.rules.length rc, .slice ba T.beats.length bc, sl rl n, sl tm n, sl rv n, sl fm n]
structure Nx (base q rl tm rv fm : Nat) (fa ra ba : Option Addr) (fc rc bc : Nat) (T : Th) (n : Nat) (f : Int → Bool) (H : Nat → List (List Int)) (vs : Nat → List Value) (w : World) : Prop where
 bx : Fx q 176 (cU T fa ra ba fc rc bc rl tm rv fm n) w
 ff : Fx fm 4 (ct n f) w
 h3 : H3 base (yq rl tm rv) n H vs w
 lo : base ≤ q ∧ base ≤ fm
section
variable {base q rl tm rv fm fc rc bc n : Nat} {fa ra ba : Option Addr} {T : Th} {f : Int → Bool} {H : Nat → List (List Int)} {vs : Nat → List Value} {w w' : World}
theorem Nx.go (h : Nx base q rl tm rv fm fa ra ba fc rc bc T n f H vs w) (hb : Below w.heap.size w w') : Nx base q rl tm rv fm fa ra ba fc rc bc T n f H vs w' := ⟨h.bx.keep (hb.block _ h.bx.lt), h.ff.keep (hb.block _ h.ff.lt), h.h3.go hb, h.lo⟩
theorem Nx.setF (h : Nx base q rl tm rv fm fa ra ba fc rc bc T n f H vs w) {i : Nat} (hi : i < n) : Nx base q rl tm rv fm fa ra ba fc rc bc T n (aB f i true) H vs (w.setCell ⟨fm, i, none⟩ (.bool true)) :=
 ⟨h.bx.keep (other_set (an h.bx h.ff (by decide))), by have := h.ff.set i (.bool true); rw [mL hi] at this; exact this, h.h3.set h.ff (by decide) (by decide), h.lo⟩
theorem Nx.add (h : Nx base q rl tm rv fm fa ra ba fc rc bc T n f H vs w) {c i : Nat} (hc : c < 3) {l : List Int} {v : Value} (hi : (H c)[i]? = some l) (hv : (vs c)[i]? = some v) {x : Int} {g4 cap4 : Nat} (hnew : w'.ownsRow base 3 1 (.slice (some ⟨g4, 0, none⟩) (l.length + 1) cap4) (l.length + 1) (aq l ++ [.int .i64 x]))
    (hold : ∀ k, k < w.heap.size → v.ownBlock ≠ some k → w'.heap[k]? = w.heap[k]?) (hg : v.ownBlock = some g4 ∨ w.heap.size ≤ g4) :
    Nx base q rl tm rv fm fa ra ba fc rc bc T n f (up H c ((H c).set i (l ++ [x]))) (up vs c ((vs c).set i (.slice (some ⟨g4, 0, none⟩) (l.length + 1) cap4))) (w'.setCell ⟨yq rl tm rv c, i, none⟩ (.slice (some ⟨g4, 0, none⟩) (l.length + 1) cap4)) := by
 have Aa := h.h3.own c i l v hc hi hv
 exact ⟨(h.bx.keep (hold _ h.bx.lt (au Aa h.bx (by decide)))).keep (other_set (an h.bx (h.h3.fx c hc) (by decide))), (h.ff.keep (hold _ h.ff.lt (au Aa h.ff (by decide)))).keep (other_set (an h.ff (h.h3.fx c hc) (by decide))), h.h3.add hc hi hv hnew hold hg, h.lo⟩
end
theorem Nx.far {base base' q rl tm rv fm fc rc bc n : Nat} {fa ra ba : Option Addr} {T : Th} {f : Int → Bool} {H : Nat → List (List Int)} {vs : Nat → List Value} {w w' : World} (h : Nx base q rl tm rv fm fa ra ba fc rc bc T n f H vs w) (hk : ∀ g, base ≤ g → g < w.heap.size → w'.heap[g]? = w.heap[g]?) (hb : base' ≤ base) : Nx base' q rl tm rv fm fa ra ba fc rc bc T n f H vs w' :=
 ⟨h.bx.keep (hk _ h.lo.1 h.bx.lt), h.ff.keep (hk _ h.lo.2 h.ff.lt), ⟨h.h3.ln, h.h3.vl, fun c hc => (h.h3.fx c hc).keep (hk _ (h.h3.lo c hc) (h.h3.fx c hc).lt), fun c hc => Nat.le_trans hb (h.h3.lo c hc), h.h3.ne, fun c i l v hc h1 h2 => aJ (owns_keep (h.h3.own c i l v hc h1 h2) fun g hg => hk g ((h.h3.own c i l v hc h1 h2).lt g hg).1 ((h.h3.own c i l v hc h1 h2).lt g hg).2) hb, h.h3.apart⟩, Nat.le_trans hb h.lo.1, Nat.le_trans hb h.lo.2⟩
theorem kM {a w : World} {B b : Nat} (h : Below B a w) (hb : B ≤ b) (cs : Array Value) : Below B a (w.setRow b cs) := h.trans ⟨rfl, rfl, rfl, by simp, fun k hk => setRow_other _ _ _ _ (by omega)⟩
theorem vg {base n rl tm rv : Nat} {w : World} (h1 : Fx rl 26 (List.replicate n (.slice none 0 0)) w) (h2 : Fx tm 26 (List.replicate n (.slice none 0 0)) w) (h3 : Fx rv 26 (List.replicate n (.slice none 0 0)) w) (lo : base ≤ rl ∧ base ≤ tm ∧ base ≤ rv) (hd : rl ≠ tm ∧ rl ≠ rv ∧ tm ≠ rv) :
    H3 base (yq rl tm rv) n (fun _ => List.replicate n []) (fun _ => List.replicate n (.slice none 0 0)) w := by
 have three : ∀ {P : Nat → Prop}, P 0 → P 1 → P 2 → ∀ c, c < 3 → P c := fun a b d c hc => by
  rcases (show c = 0 ∨ c = 1 ∨ c = 2 by omega) with rfl | rfl | rfl
  · exact a
  · exact b
  · exact d
 refine ⟨fun c _ => by simp, fun c _ => by simp, three h1 h2 h3, three lo.1 lo.2.1 lo.2.2, ?_, fun c i l v _ a b => ?_, fun c d i j v u g _ _ a b e => ?_⟩
 · intro c d hc Ab Aa
   rcases (show c = 0 ∨ c = 1 ∨ c = 2 by omega) with rfl | rfl | rfl <;> rcases (show d = 0 ∨ d = 1 ∨ d = 2 by omega) with rfl | rfl | rfl <;> first | exact absurd rfl Aa | exact hd.1 | exact hd.2.1 | exact hd.2.2 | exact Ne.symm hd.1 | exact Ne.symm hd.2.1 | exact Ne.symm hd.2.2
 · rw [List.getElem?_replicate] at a b
   split at a
   · rename_i hi
     rw [if_pos hi] at b
     cases a
     cases b
     exact ⟨rfl, .inl ⟨rfl, rfl⟩⟩
   · cases a
 · rw [List.getElem?_replicate] at a
   split at a
   · cases a; cases e
   · cases a
def wQ (T : Th) (fa ra ba : Option Addr) (fc rc bc bq n N : Nat) (i : Nat) (v : Value) (W : World) (lo hi : Nat) : Prop := match i with
 | 0 => v = .agg #[.int .i64 T.lits, .slice fa T.foes.length fc, .slice ra T.rules.length rc, .slice ba T.beats.length bc]
 | 1 | 4 | 7 | 10 => v = aa bq
 | 2 | 5 | 8 | 11 => v = .int .i64 T.lits
 | 3 | 6 | 9 => ∃ g, v = sl g n ∧ Fx g 26 (List.replicate n (.slice none 0 0)) W ∧ lo ≤ g ∧ g < hi ∧ N ≤ g
 | 12 => ∃ g, v = sl g n ∧ Fx g 4 (ct n fun _ => false) W ∧ lo ≤ g ∧ g < hi ∧ N ≤ g
 | 13 => ∃ g0 g1 g2 g3, v = .agg #[.int .i64 T.lits, .slice fa T.foes.length fc, .slice ra T.rules.length rc, .slice ba T.beats.length bc, sl g0 n, sl g1 n, sl g2 n, sl g3 n] ∧ Fx g0 26 (List.replicate n (.slice none 0 0)) W ∧ Fx g1 26 (List.replicate n (.slice none 0 0)) W ∧ Fx g2 26 (List.replicate n (.slice none 0 0)) W ∧ Fx g3 4 (ct n fun _ => false) W ∧ (N ≤ g0 ∧ N ≤ g1 ∧ N ≤ g2 ∧ N ≤ g3) ∧ g0 ≠ g1 ∧ g0 ≠ g2 ∧ g1 ≠ g2
 | 14 => ∃ g xs, v = aa g ∧ Fx g 176 xs W ∧ xs.length = 8 ∧ N ≤ g
 | _ => True
theorem dk {T : Th} {fa ra ba : Option Addr} {fc rc bc bq n N : Nat} : ∀ i v W W' lo hi, wQ T fa ra ba fc rc bc bq n N i v W lo hi → hi ≤ W.heap.size → Below W.heap.size W W' → wQ T fa ra ba fc rc bc bq n N i v W' lo hi := by
 intro i v W W' lo hi h hh hb
 have k : ∀ {g t : Nat} {xs : List Value}, Fx g t xs W → Fx g t xs W' := fun hf => hf.keep (hb.block _ hf.lt)
 unfold wQ at *
 split at h
 all_goals first
  | exact h
  | (obtain ⟨g, a, b, c⟩ := h; exact ⟨g, a, k b, c⟩)
  | (obtain ⟨g0, g1, g2, g3, a, b, c, d, e, f⟩ := h; exact ⟨g0, g1, g2, g3, a, k b, k c, k d, k e, f⟩)
  | (obtain ⟨g, xs, a, b, c⟩ := h; exact ⟨g, xs, a, k b, c⟩)
  | trivial
def yu (T : Th) (fa ra ba : Option Addr) (fc rc bc n : Nat) (W0 : World) (σ : Nat → Value) (W : World) : Prop := ∃ q rl tm rv fm, σ 5 = aa q ∧ Nx W0.heap.size q rl tm rv fm fa ra ba fc rc bc T n (fun _ => false) (fun _ => List.replicate n []) (fun _ => List.replicate n (.slice none 0 0)) W ∧ Below W0.heap.size W0 W
theorem de {H : Nat → List (List Int)} {c d i z : Nat} {y : List Int} (hl : i < (H c).length) : (up H c ((H c).set i y) d).getD z [] = if d = c ∧ z = i then y else (H d).getD z [] := by
 by_cases e : d = c
 · subst e
   rw [bZ, mF hl]
   by_cases e2 : z = i
   · rw [if_pos e2, if_pos ⟨rfl, e2⟩]
   · rw [if_neg e2, if_neg fun h => e2 h.2]
 · rw [bz e, if_neg fun h => e h.1]
theorem i4 {T : Th} {p : RuleM → Bool} {k hm z : Nat} {r : RuleM} (hr : T.rules[k]? = some r) (hh : r.head = (hm : Int)) : bg T p (k + 1) z = if p r = true ∧ z = hm then bg T p k z ++ [(k : Int)] else bg T p k z := by
 rw [cF]
 have : bK T p z k = (p r && decide (r.head = (z : Int))) := by unfold bK; rw [hr]
 rw [this, hh]
 cases p r
 · simp
 · by_cases e : z = hm
   · subst e; simp
   · have : ¬ ((hm : Int) = (z : Int)) := by omega
     simp [e, this]
structure G2 (T : Th) (n k : Nat) (H : Nat → List (List Int)) : Prop where
 a : ∀ z : Nat, z < n → (H 0).getD z [] = bg T kA k z
 t : ∀ z : Nat, z < n → (H 1).getD z [] = bg T kT k z
 v : ∀ z : Nat, z < n → (H 2).getD z [] = []
 ln : ∀ c, c < 3 → (H c).length = n
section
variable {T : Th} {F : List Int} {n k hm : Nat} {H : Nat → List (List Int)} {r : RuleM} {l0 l1 : List Int}
theorem ng {z : Nat} : (List.replicate n ([] : List Int)).getD z [] = [] := by
 rw [List.getD_eq_getElem?_getD, List.getElem?_replicate]
 split <;> rfl
theorem G2.start : G2 T n 0 fun _ => List.replicate n [] := ⟨fun z _ => by rw [ng]; rfl, fun z _ => by rw [ng]; rfl, fun z _ => ng, fun c _ => by simp⟩
theorem iK {c : Nat} (h : (H c)[hm]? = some l0) : (H c).getD hm [] = l0 := by rw [List.getD_eq_getElem?_getD, h]; rfl
theorem G2.step3 (h : G2 T n k H) (hr : T.rules[k]? = some r) (hh : r.head = (hm : Int)) (hm_ : hm < n) (hk : kT r = false) (h0 : (H 0)[hm]? = some l0) : G2 T n (k + 1) (up H 0 ((H 0).set hm (l0 ++ [(k : Int)]))) := by
 have hl : hm < (H 0).length := by rw [h.ln 0 (by omega)]; exact hm_
 refine ⟨fun z hz => ?_, fun z hz => ?_, fun z hz => ?_, fun c hc => ?_⟩
 · rw [de hl, i4 hr hh]
   by_cases e : z = hm
   · subst e
     rw [if_pos ⟨rfl, rfl⟩, if_pos ⟨rfl, rfl⟩, ← h.a z hz, iK h0]
   · rw [if_neg (fun x => e x.2), if_neg (fun x => e x.2), h.a z hz]
 · rw [de hl, if_neg (by simp), i4 hr hh, if_neg (by simp [hk]), h.t z hz]
 · rw [de hl, if_neg (by simp), h.v z hz]
 · by_cases e : c = 0
   · subst e; rw [bZ, List.length_set]; exact h.ln 0 hc
   · rw [bz e]; exact h.ln c hc
theorem G2.step12 (h : G2 T n k H) (hr : T.rules[k]? = some r) (hh : r.head = (hm : Int)) (hm_ : hm < n) (hk : kT r = true) (h0 : (H 0)[hm]? = some l0) (h1 : (up H 0 ((H 0).set hm (l0 ++ [(k : Int)])) 1)[hm]? = some l1) : G2 T n (k + 1) (up (up H 0 ((H 0).set hm (l0 ++ [(k : Int)]))) 1 ((up H 0 ((H 0).set hm (l0 ++ [(k : Int)])) 1).set hm (l1 ++ [(k : Int)]))) := by
 have hl : hm < (H 0).length := by rw [h.ln 0 (by omega)]; exact hm_
 have Aa : hm < (up H 0 ((H 0).set hm (l0 ++ [(k : Int)])) 1).length := by rw [bz (by decide), h.ln 1 (by omega)]; exact hm_
 have h1' : (H 1)[hm]? = some l1 := by rw [bz (by decide)] at h1; exact h1
 refine ⟨fun z hz => ?_, fun z hz => ?_, fun z hz => ?_, fun c hc => ?_⟩
 · rw [de Aa, if_neg (by simp), de hl, i4 hr hh]
   by_cases e : z = hm
   · subst e
     rw [if_pos ⟨rfl, rfl⟩, if_pos ⟨rfl, rfl⟩, ← h.a z hz, iK h0]
   · rw [if_neg (fun x => e x.2), if_neg (fun x => e x.2), h.a z hz]
 · rw [de Aa, i4 hr hh]
   by_cases e : z = hm
   · subst e
     rw [if_pos ⟨rfl, rfl⟩, if_pos ⟨hk, rfl⟩, ← h.t z hz, iK h1']
   · rw [if_neg (fun x => e x.2), if_neg (fun x => e x.2), de hl, if_neg (by simp), h.t z hz]
 · rw [de Aa, if_neg (by simp), de hl, if_neg (by simp), h.v z hz]
 · by_cases e : c = 1
   · subst e; rw [bZ, List.length_set, bz (by decide)]; exact h.ln 1 hc
   · rw [bz e]
     by_cases e0 : c = 0
     · subst e0; rw [bZ, List.length_set]; exact h.ln 0 hc
     · rw [bz e0]; exact h.ln c hc
def gl (T : Th) (F : List Int) (k : Nat) (z : Int) : Bool := decide (z ∈ F) || !(bg T kS k z).isEmpty
theorem vo : gl T F 0 = fun z => decide (z ∈ F) := by funext z; unfold gl bg; simp
theorem qS (hr : T.rules[k]? = some r) (hk : kS r = false) : gl T F (k + 1) = gl T F k := by
 funext z
 unfold gl
 rw [cF]
 have : bK T kS z k = false := by unfold bK; rw [hr]; simp [hk]
 rw [this]; rfl
theorem xA (hr : T.rules[k]? = some r) (hk : kS r = true) (hh : r.head = (hm : Int)) : gl T F (k + 1) = aB (gl T F k) hm true := by
 funext z
 unfold gl
 rw [cF]
 have : bK T kS z k = decide ((hm : Int) = z) := by unfold bK; rw [hr]; simp [hk, hh]
 rw [this]
 by_cases e : z = (hm : Int)
 · subst e; rw [aM]; simp
 · rw [aT e]
   have : ¬ ((hm : Int) = z) := fun x => e x.symm
   simp [this]
end
structure G3 (T : Th) (n k j : Nat) (H : Nat → List (List Int)) : Prop where
 a : ∀ z : Nat, z < n → (H 0).getD z [] = ag T kA z
 t : ∀ z : Nat, z < n → (H 1).getD z [] = ag T kT z
 v : ∀ z : Nat, z < n → (H 2).getD z [] = if z < k then ao T z else if z = k then ((row T.foes z).take j).filter (fun p => !(ag T kT p).isEmpty) else []
 ln : ∀ c, c < 3 → (H c).length = n
def ze (n : Nat) (x : Int) : Prop := 0 ≤ x ∧ x < (n : Int)
theorem xO {T : Th} {F : List Int} {n : Nat} (h : Pf T F n) {q : Nat} (hq : q < n) : (row T.foes q).Pairwise (· < ·) ∧ (row T.foes q).length ≤ 64 := gG h hq
section
variable {T : Th} {F : List Int} {n k j : Nat} {H : Nat → List (List Int)} {l l2 : List Int} {fo : Nat}
theorem G2.three (h : G2 T n T.rules.length H) : G3 T n 0 0 H := ⟨h.a, h.t, fun z hz => by rw [h.v z hz, if_neg (by omega)]; split <;> simp, h.ln⟩
theorem G3.next (h : G3 T n k j H) (hl : row T.foes (k : Int) = l) (hj : l.length ≤ j) : G3 T n (k + 1) 0 H := by
 refine ⟨h.a, h.t, fun z hz => ?_, h.ln⟩
 rw [h.v z hz]
 by_cases e : z < k
 · rw [if_pos e, if_pos (by omega)]
 · rw [if_neg e]
   by_cases e2 : z = k
   · subst e2
     rw [if_pos rfl, if_pos (by omega), hl, List.take_of_length_le hj]
     unfold ao
     rw [hl]
   · rw [if_neg e2, if_neg (by omega)]
     split <;> simp
theorem G3.skip (h : G3 T n k j H) (hl : row T.foes (k : Int) = l) (hj : l[j]? = some (fo : Int)) (hn : ag T kT fo = []) : G3 T n k (j + 1) H := by
 refine ⟨h.a, h.t, fun z hz => ?_, h.ln⟩
 rw [h.v z hz]
 by_cases e : z < k
 · rw [if_pos e, if_pos e]
 · rw [if_neg e, if_neg e]
   by_cases e2 : z = k
   · subst e2
     rw [if_pos rfl, if_pos rfl, hl, bC hj, List.filter_append]
     simp [hn]
   · rw [if_neg e2, if_neg e2]
theorem G3.add (h : G3 T n k j H) (hl : row T.foes (k : Int) = l) (hj : l[j]? = some (fo : Int)) (hn : ag T kT fo ≠ []) (hk : k < n) (h2 : (H 2)[k]? = some l2) : G3 T n k (j + 1) (up H 2 ((H 2).set k (l2 ++ [(fo : Int)]))) := by
 have Aa : k < (H 2).length := by rw [h.ln 2 (by omega)]; exact hk
 refine ⟨fun z hz => ?_, fun z hz => ?_, fun z hz => ?_, fun c hc => ?_⟩
 · rw [de Aa, if_neg (by simp), h.a z hz]
 · rw [de Aa, if_neg (by simp), h.t z hz]
 · rw [de Aa]
   by_cases e2 : z = k
   · subst e2
     have := h.v z hz
     rw [iK h2, if_neg (by omega), if_pos rfl] at this
     rw [if_pos ⟨rfl, rfl⟩, if_neg (by omega), if_pos rfl, this, hl, bC hj, List.filter_append]
     simp [hn]
   · rw [if_neg fun x => e2 x.2, h.v z hz]
     by_cases e : z < k
     · rw [if_pos e, if_pos e]
     · rw [if_neg e, if_neg e, if_neg e2, if_neg e2]
 · by_cases e : c = 2
   · subst e; rw [bZ, List.length_set]; exact h.ln 2 hc
   · rw [bz e]; exact h.ln c hc
theorem G3.len64 (h : G3 T n k j H) (hp : Pf T F n) (z : Nat) (hz : z < n) : ((H 2).getD z []).length ≤ 4096 := by
 rw [h.v z hz]
 have Aa := (gG hp hz).2
 split
 · exact Nat.le_trans (Nat.le_trans (List.length_filter_le _ _) Aa) (by omega)
 · split
   · refine Nat.le_trans (List.length_filter_le _ _) ?_
     rw [List.length_take]
     omega
   · simp
end
theorem fM {w : World} {k h : Int} {v : Value} : Calls Tryz.prog 174 #[.agg #[.int .i64 k, .int .i64 h, v]] w fun o w' => o = .returned (.bool (decide (k = 1))) ∧ Below w.heap.size w w' := by
 have hB := ae w (.cells #[.int .i64 k, .int .i64 h, v] 114)
 have c0 : (w.alloc (.cells #[.int .i64 k, .int .i64 h, v] 114)).cell? ⟨w.heap.size, 0, none⟩ = some (.int .i64 k) := cell_of_row _ _ 0 _ _ _ (heap_alloc_new w _)
 have HB := hide hB
 have HK : Hid (decide (k = 1) = (k == 1)) := hide (by by_cases e0 : k = 1 <;> simp [e0])
 clear hB
 go_enter Tryz.func174, Tryz.ntmps174
 go_wp2_with fail
 go_ret
 exact ⟨by rw [HK.out]; rfl, HB.out⟩
theorem yK {tmps : Array Value} {b : Nat} {Y : World} {t0 t1 t2 t3 t4 t5 t6 t7 : Value} (ht : tmps.getD 4 undef = .pointer (some ⟨b, 0, none⟩)) (h : Fx b 176 [t0, t1, t2, t3, t4, t5, t6, t7] Y) : (results Tryz.f172 tmps).run Tryz.prog Y = .ok (.agg #[t0, t1, t2, t3, t4, t5, t6, t7]) Y := by
 have r0 := h.get (i := 0) rfl
 have r1 := h.get (i := 1) rfl
 have r2 := h.get (i := 2) rfl
 have r3 := h.get (i := 3) rfl
 have r4 := h.get (i := 4) rfl
 have r5 := h.get (i := 5) rfl
 have r6 := h.get (i := 6) rfl
 have r7 := h.get (i := 7) rfl
 have Aa : tmps[4]?.getD undef = .pointer (some ⟨b, 0, none⟩) := by simpa [Array.getD_eq_getD_getElem?] using ht
 clear h ht
 simp [results, Tryz.results172, go_sem, Aa, r0, r1, r2, r3, r4, r5, r6, r7]
theorem ix {w : World} {T : Th} {F : List Int} {n : Nat} {fa ra ba ea : Option Addr} {fc rc bc ec : Nat} (h : TA w.heap.size w T fa fc ra rc ba bc) (hF : Ints w.heap.size w F (.slice ea F.length ec)) (hp : Pf T F n) :
    Calls Tryz.prog 172 #[tv T fa fc ra rc ba bc, .slice ea F.length ec] w fun o w' => ∃ q rl tm rv fm vs H, o = .returned (.agg (cU T fa ra ba fc rc bc rl tm rv fm n).toArray) ∧ Nx w.heap.size q rl tm rv fm fa ra ba fc rc bc T n (bI T F) H vs w' ∧ (∀ z : Nat, z < n → (H 0).getD z [] = ag T kA z ∧ (H 1).getD z [] = ag T kT z ∧ (H 2).getD z [] = ao T z) ∧ Below w.heap.size w w' := by
 obtain ⟨iL, Ds, Dh, DA, Dt⟩ := info_parts mY
 obtain ⟨iB, DI, DE, CZ, Dq⟩ := info_parts jA
 obtain ⟨iI, Cn, Cj, Ci, BM⟩ := info_parts gE
 have EL := hp.n4
 have Bx : ∀ W, (Instr.makeSlice 22 (.int .i64 T.lits) (.int .i64 T.lits)).run Tryz.prog W = .ok (sl W.heap.size n) (W.alloc (.cells (Array.replicate n (.slice none 0 0)) 26)) := fun W => by rw [hp.ln]; exact aH (P := Tryz.prog) Tryz.underlying22 Ds Dh DA rfl n (by rw [Dt]; omega) (by unfold maxLen; omega) W
 have Ct : ∀ W, (Instr.makeSlice 106 (.int .i64 T.lits) (.int .i64 T.lits)).run Tryz.prog W = .ok (sl W.heap.size n) (W.alloc (.cells (Array.replicate n (.bool false)) 4)) := fun W => by rw [hp.ln]; exact aH (P := Tryz.prog) Tryz.underlying106 DI DE CZ rfl n (by rw [Dq]; omega) (by unfold maxLen; omega) W
 have BW := ae w (.cells #[.int .i64 T.lits, .slice fa T.foes.length fc, .slice ra T.rules.length rc, .slice ba T.beats.length bc] 25)
 have Co := ae (w.alloc (.cells #[.int .i64 T.lits, .slice fa T.foes.length fc, .slice ra T.rules.length rc, .slice ba T.beats.length bc] 25)) (.cells #[.int .i64 0, .slice none 0 0, .slice none 0 0, .slice none 0 0, .slice none 0 0, .slice none 0 0, .slice none 0 0, .slice none 0 0] 176)
 have hB := BW.trans (Co.mono BW.size)
 have CL : Fx w.heap.size 25 [.int .i64 T.lits, .slice fa T.foes.length fc, .slice ra T.rules.length rc, .slice ba T.beats.length bc] ((w.alloc (.cells #[.int .i64 T.lits, .slice fa T.foes.length fc, .slice ra T.rules.length rc, .slice ba T.beats.length bc] 25)).alloc (.cells #[.int .i64 0, .slice none 0 0, .slice none 0 0, .slice none 0 0, .slice none 0 0, .slice none 0 0, .slice none 0 0, .slice none 0 0] 176)) := (Co.block _ (by simp)).trans (heap_alloc_new w _)
 have Cu : Fx (w.heap.size + 1) 176 [.int .i64 0, .slice none 0 0, .slice none 0 0, .slice none 0 0, .slice none 0 0, .slice none 0 0, .slice none 0 0, .slice none 0 0] ((w.alloc (.cells #[.int .i64 T.lits, .slice fa T.foes.length fc, .slice ra T.rules.length rc, .slice ba T.beats.length bc] 25)).alloc (.cells #[.int .i64 0, .slice none 0 0, .slice none 0 0, .slice none 0 0, .slice none 0 0, .slice none 0 0, .slice none 0 0, .slice none 0 0] 176)) := by
  have := heap_alloc_new (w.alloc (.cells #[.int .i64 T.lits, .slice fa T.foes.length fc, .slice ra T.rules.length rc, .slice ba T.beats.length bc] 25)) (.cells #[.int .i64 0, .slice none 0 0, .slice none 0 0, .slice none 0 0, .slice none 0 0, .slice none 0 0, .slice none 0 0, .slice none 0 0] 176)
  simpa [Fx] using this
 have BC := hide (TR.go hB h)
 have HF := hide (Ints.go hB hF)
 have HP := hide hp
 have HB := hide hB
 have AG := hide CL
 have Bl := hide Cu
 clear h hF hp hB BW Co
 go_enter Tryz.func172, Tryz.ntmps172
 go_upto_region 1 with fail
 clear CL Cu
 generalize (w.alloc (.cells #[.int .i64 T.lits, .slice fa T.foes.length fc, .slice ra T.rules.length rc, .slice ba T.beats.length bc] 25)).alloc (.cells #[.int .i64 0, .slice none 0 0, .slice none 0 0, .slice none 0 0, .slice none 0 0, .slice none 0 0, .slice none 0 0, .slice none 0 0] 176) = W at *
 obtain ⟨bq, Ce⟩ : ∃ bq, w.heap.size = bq := ⟨_, rfl⟩
 have Dk := hide Ce
 rw [Ce] at AG Bl ⊢
 clear Ce
 have HDr := hide ((Below.refl W.heap.size W).drew)
 obtain ⟨W0, Cd⟩ : ∃ W0, W.drew = W0 := ⟨_, rfl⟩
 have HX1d := hide (AG.out.keep (HDr.out.block _ AG.out.lt))
 have Ag : Hid (fZ [some 14, some 15, some 16, some 17, some 18, some 19, some 20, some 21, some 22, some 23, some 24, some 25, some 26, some 27, some 5, none] [(2, aa bq)] = true) := hide rfl
 rw [Cd] at HX1d HDr
 have Aj : Hid (∀ X, Below W0.heap.size W0 X → X.cell? ⟨bq, 0, none⟩ = some (.int .i64 T.lits) ∧ X.cell? ⟨bq, 1, none⟩ = some (.slice fa T.foes.length fc) ∧ X.cell? ⟨bq, 2, none⟩ = some (.slice ra T.rules.length rc) ∧ X.cell? ⟨bq, 3, none⟩ = some (.slice ba T.beats.length bc)) := hide fun X hX => by
  have hf := HX1d.out.keep (hX.block _ HX1d.out.lt)
  exact ⟨hf.get (i := 0) rfl, hf.get (i := 1) rfl, hf.get (i := 2) rfl, hf.get (i := 3) rfl⟩
 refine bV fW (Jl 15 [some 14, some 15, some 16, some 17, some 18, some 19, some 20, some 21, some 22, some 23, some 24, some 25, some 26, some 27, some 5, none] [(2, aa bq)] (wQ T fa ra ba fc rc bc bq n W0.heap.size) (yu T fa ra ba fc rc bc n W0) W0) (by kernel_rfl) (by kernel_rfl) ?_ (ci ⟨?_, ?_, ?_, ?_, ?_, ?_, ?_, ?_, ?_, ?_, ?_, ?_, ?_, ?_, ?_, ?_, trivial⟩) ?_ ?_
 · refine ⟨fun _ => ?_, fun e => by cases e⟩
   show Jg _ _ _ W0 _ _ W.drew
   rw [Cd]
   exact Jg.start.2 fun p hp => by simp at hp; subst hp; rfl
 · intro ρ X L hc hf hL hd Aa Ae
   have Ab : L 15 = false := ak (by kernel_rfl) Aa (k := 0) (by simp) hL
   have hJ := Ae.1 Ab
   obtain ⟨c0, c1, c2, c3⟩ := Aj.out X hJ.low
   have k2 : ρ (.tmp 2) = aa bq := hJ.base (2, aa bq) (by simp)
   refine ac (v := .agg #[.int .i64 T.lits, .slice fa T.foes.length fc, .slice ra T.rules.length rc, .slice ba T.beats.length bc]) (w' := X) ?_ ⟨fun _ => hJ.put Ag.out dk (i := 0) (d := 14) rfl (Below.refl _ _) (rfl), fun e => by rw [al (by decide), Ab] at e; cases e⟩
   clear hd Aa hJ Ae hL Ab
   go_simp
 · intro ρ X L hc hf hL hd Aa Ae
   have Ab : L 15 = false := ak (by kernel_rfl) Aa (k := 1) (by simp) hL
   have hJ := Ae.1 Ab
   obtain ⟨c0, c1, c2, c3⟩ := Aj.out X hJ.low
   have k2 : ρ (.tmp 2) = aa bq := hJ.base (2, aa bq) (by simp)
   refine ac (v := aa bq) (w' := X) ?_ ⟨fun _ => hJ.put Ag.out dk (i := 1) (d := 15) rfl (Below.refl _ _) (rfl), fun e => by rw [al (by decide), Ab] at e; cases e⟩
   clear hd Aa hJ Ae hL Ab
   go_simp
 · intro ρ X L hc hf hL hd Aa Ae
   have Ab : L 15 = false := ak (by kernel_rfl) Aa (k := 2) (by simp) hL
   have hJ := Ae.1 Ab
   obtain ⟨c0, c1, c2, c3⟩ := Aj.out X hJ.low
   obtain ⟨_, _, _, e1⟩ := hJ.get (i := 1) (d := 15) rfl (hd ⟨1, .data⟩ (by simp) rfl)
   have Er : ρ (.tmp 15) = aa bq := e1
   clear e1
   refine ac (v := .int .i64 T.lits) (w' := X) ?_ ⟨fun _ => hJ.put Ag.out dk (i := 2) (d := 16) rfl (Below.refl _ _) (rfl), fun e => by rw [al (by decide), Ab] at e; cases e⟩
   clear hd Aa hJ Ae hL Ab
   go_simp
 · intro ρ X L hc hf hL hd Aa Ae
   have Ab : L 15 = false := ak (by kernel_rfl) Aa (k := 3) (by simp) hL
   have hJ := Ae.1 Ab
   obtain ⟨c0, c1, c2, c3⟩ := Aj.out X hJ.low
   obtain ⟨_, _, _, e1⟩ := hJ.get (i := 2) (d := 16) rfl (hd ⟨2, .data⟩ (by simp) rfl)
   have DX : ρ (.tmp 16) = .int .i64 T.lits := e1
   have Ch := Bx X
   clear e1
   refine ac (v := sl X.heap.size n) (w' := X.alloc (.cells (Array.replicate n (.slice none 0 0)) 26)) ?_ ⟨fun _ => hJ.put Ag.out dk (i := 3) (d := 17) rfl (ae X _) (⟨X.heap.size, rfl, by unfold Fx; rw [heap_alloc_new]; simp, Nat.le_refl _, by simp, hJ.low.size⟩), fun e => by rw [al (by decide), Ab] at e; cases e⟩
   clear hd Aa hJ Ae hL Ab
   go_simp
 · intro ρ X L hc hf hL hd Aa Ae
   have Ab : L 15 = false := ak (by kernel_rfl) Aa (k := 4) (by simp) hL
   have hJ := Ae.1 Ab
   obtain ⟨c0, c1, c2, c3⟩ := Aj.out X hJ.low
   have k2 : ρ (.tmp 2) = aa bq := hJ.base (2, aa bq) (by simp)
   refine ac (v := aa bq) (w' := X) ?_ ⟨fun _ => hJ.put Ag.out dk (i := 4) (d := 18) rfl (Below.refl _ _) (rfl), fun e => by rw [al (by decide), Ab] at e; cases e⟩
   clear hd Aa hJ Ae hL Ab
   go_simp
 · intro ρ X L hc hf hL hd Aa Ae
   have Ab : L 15 = false := ak (by kernel_rfl) Aa (k := 5) (by simp) hL
   have hJ := Ae.1 Ab
   obtain ⟨c0, c1, c2, c3⟩ := Aj.out X hJ.low
   obtain ⟨_, _, _, e1⟩ := hJ.get (i := 4) (d := 18) rfl (hd ⟨4, .data⟩ (by simp) rfl)
   have Em : ρ (.tmp 18) = aa bq := e1
   clear e1
   refine ac (v := .int .i64 T.lits) (w' := X) ?_ ⟨fun _ => hJ.put Ag.out dk (i := 5) (d := 19) rfl (Below.refl _ _) (rfl), fun e => by rw [al (by decide), Ab] at e; cases e⟩
   clear hd Aa hJ Ae hL Ab
   go_simp
 · intro ρ X L hc hf hL hd Aa Ae
   have Ab : L 15 = false := ak (by kernel_rfl) Aa (k := 6) (by simp) hL
   have hJ := Ae.1 Ab
   obtain ⟨c0, c1, c2, c3⟩ := Aj.out X hJ.low
   obtain ⟨_, _, _, e1⟩ := hJ.get (i := 5) (d := 19) rfl (hd ⟨5, .data⟩ (by simp) rfl)
   have EJ : ρ (.tmp 19) = .int .i64 T.lits := e1
   have Ch := Bx X
   clear e1
   refine ac (v := sl X.heap.size n) (w' := X.alloc (.cells (Array.replicate n (.slice none 0 0)) 26)) ?_ ⟨fun _ => hJ.put Ag.out dk (i := 6) (d := 20) rfl (ae X _) (⟨X.heap.size, rfl, by unfold Fx; rw [heap_alloc_new]; simp, Nat.le_refl _, by simp, hJ.low.size⟩), fun e => by rw [al (by decide), Ab] at e; cases e⟩
   clear hd Aa hJ Ae hL Ab
   go_simp
 · intro ρ X L hc hf hL hd Aa Ae
   have Ab : L 15 = false := ak (by kernel_rfl) Aa (k := 7) (by simp) hL
   have hJ := Ae.1 Ab
   obtain ⟨c0, c1, c2, c3⟩ := Aj.out X hJ.low
   have k2 : ρ (.tmp 2) = aa bq := hJ.base (2, aa bq) (by simp)
   refine ac (v := aa bq) (w' := X) ?_ ⟨fun _ => hJ.put Ag.out dk (i := 7) (d := 21) rfl (Below.refl _ _) (rfl), fun e => by rw [al (by decide), Ab] at e; cases e⟩
   clear hd Aa hJ Ae hL Ab
   go_simp
 · intro ρ X L hc hf hL hd Aa Ae
   have Ab : L 15 = false := ak (by kernel_rfl) Aa (k := 8) (by simp) hL
   have hJ := Ae.1 Ab
   obtain ⟨c0, c1, c2, c3⟩ := Aj.out X hJ.low
   obtain ⟨_, _, _, e1⟩ := hJ.get (i := 7) (d := 21) rfl (hd ⟨7, .data⟩ (by simp) rfl)
   have Ex : ρ (.tmp 21) = aa bq := e1
   clear e1
   refine ac (v := .int .i64 T.lits) (w' := X) ?_ ⟨fun _ => hJ.put Ag.out dk (i := 8) (d := 22) rfl (Below.refl _ _) (rfl), fun e => by rw [al (by decide), Ab] at e; cases e⟩
   clear hd Aa hJ Ae hL Ab
   go_simp
 · intro ρ X L hc hf hL hd Aa Ae
   have Ab : L 15 = false := ak (by kernel_rfl) Aa (k := 9) (by simp) hL
   have hJ := Ae.1 Ab
   obtain ⟨c0, c1, c2, c3⟩ := Aj.out X hJ.low
   obtain ⟨_, _, _, e1⟩ := hJ.get (i := 8) (d := 22) rfl (hd ⟨8, .data⟩ (by simp) rfl)
   have EQ : ρ (.tmp 22) = .int .i64 T.lits := e1
   have Ch := Bx X
   clear e1
   refine ac (v := sl X.heap.size n) (w' := X.alloc (.cells (Array.replicate n (.slice none 0 0)) 26)) ?_ ⟨fun _ => hJ.put Ag.out dk (i := 9) (d := 23) rfl (ae X _) (⟨X.heap.size, rfl, by unfold Fx; rw [heap_alloc_new]; simp, Nat.le_refl _, by simp, hJ.low.size⟩), fun e => by rw [al (by decide), Ab] at e; cases e⟩
   clear hd Aa hJ Ae hL Ab
   go_simp
 · intro ρ X L hc hf hL hd Aa Ae
   have Ab : L 15 = false := ak (by kernel_rfl) Aa (k := 10) (by simp) hL
   have hJ := Ae.1 Ab
   obtain ⟨c0, c1, c2, c3⟩ := Aj.out X hJ.low
   have k2 : ρ (.tmp 2) = aa bq := hJ.base (2, aa bq) (by simp)
   refine ac (v := aa bq) (w' := X) ?_ ⟨fun _ => hJ.put Ag.out dk (i := 10) (d := 24) rfl (Below.refl _ _) (rfl), fun e => by rw [al (by decide), Ab] at e; cases e⟩
   clear hd Aa hJ Ae hL Ab
   go_simp
 · intro ρ X L hc hf hL hd Aa Ae
   have Ab : L 15 = false := ak (by kernel_rfl) Aa (k := 11) (by simp) hL
   have hJ := Ae.1 Ab
   obtain ⟨c0, c1, c2, c3⟩ := Aj.out X hJ.low
   obtain ⟨_, _, _, e1⟩ := hJ.get (i := 10) (d := 24) rfl (hd ⟨10, .data⟩ (by simp) rfl)
   have EN : ρ (.tmp 24) = aa bq := e1
   clear e1
   refine ac (v := .int .i64 T.lits) (w' := X) ?_ ⟨fun _ => hJ.put Ag.out dk (i := 11) (d := 25) rfl (Below.refl _ _) (rfl), fun e => by rw [al (by decide), Ab] at e; cases e⟩
   clear hd Aa hJ Ae hL Ab
   go_simp
 · intro ρ X L hc hf hL hd Aa Ae
   have Ab : L 15 = false := ak (by kernel_rfl) Aa (k := 12) (by simp) hL
   have hJ := Ae.1 Ab
   obtain ⟨c0, c1, c2, c3⟩ := Aj.out X hJ.low
   obtain ⟨_, _, _, e1⟩ := hJ.get (i := 11) (d := 25) rfl (hd ⟨11, .data⟩ (by simp) rfl)
   have EI : ρ (.tmp 25) = .int .i64 T.lits := e1
   have Ch := Ct X
   clear e1
   refine ac (v := sl X.heap.size n) (w' := X.alloc (.cells (Array.replicate n (.bool false)) 4)) ?_ ⟨fun _ => hJ.put Ag.out dk (i := 12) (d := 26) rfl (ae X _) (⟨X.heap.size, rfl, by unfold Fx ct; rw [heap_alloc_new]; simp [List.map_const'], Nat.le_refl _, by simp, hJ.low.size⟩), fun e => by rw [al (by decide), Ab] at e; cases e⟩
   clear hd Aa hJ Ae hL Ab
   go_simp
 · intro ρ X L hc hf hL hd Aa Ae
   have Ab : L 15 = false := ak (by kernel_rfl) Aa (k := 13) (by simp) hL
   have hJ := Ae.1 Ab
   obtain ⟨c0, c1, c2, c3⟩ := Aj.out X hJ.low
   obtain ⟨lo, hi, Ba, Bc⟩ := hJ.at_
   have l0 : L 0 = true := hd ⟨0, .data⟩ (by simp) rfl
   have l3 : L 3 = true := hd ⟨3, .data⟩ (by simp) rfl
   have l6 : L 6 = true := hd ⟨6, .data⟩ (by simp) rfl
   have l9 : L 9 = true := hd ⟨9, .data⟩ (by simp) rfl
   have Dm : L 12 = true := hd ⟨12, .data⟩ (by simp) rfl
   obtain ⟨-, -, -, e0⟩ := Ba 0 14 rfl l0
   obtain ⟨-, -, -, g0, e3, f3, a3, b3, n3⟩ := Ba 3 17 rfl l3
   obtain ⟨-, -, -, g1, e6, f6, a6, b6, n6⟩ := Ba 6 20 rfl l6
   obtain ⟨-, -, -, g2, e9, f9, a9, b9, n9⟩ := Ba 9 23 rfl l9
   obtain ⟨-, -, -, g3, Cv, CE, -, -, CU⟩ := Ba 12 26 rfl Dm
   have d1 := Bc 3 6 17 20 rfl rfl (by decide) l3 l6
   have d2 := Bc 3 9 17 23 rfl rfl (by decide) l3 l9
   have d3 := Bc 6 9 20 23 rfl rfl (by decide) l6 l9
   have EC : ρ (.tmp 14) = .agg #[.int .i64 T.lits, .slice fa T.foes.length fc, .slice ra T.rules.length rc, .slice ba T.beats.length bc] := e0
   have EH : ρ (.tmp 17) = sl g0 n := e3
   have Eo : ρ (.tmp 20) = sl g1 n := e6
   have Eh : ρ (.tmp 23) = sl g2 n := e9
   have Ea : ρ (.tmp 26) = sl g3 n := Cv
   refine ac (v := .agg #[.int .i64 T.lits, .slice fa T.foes.length fc, .slice ra T.rules.length rc, .slice ba T.beats.length bc, sl g0 n, sl g1 n, sl g2 n, sl g3 n]) (w' := X) ?_ ⟨fun _ => hJ.put Ag.out dk (i := 13) (d := 27) rfl (Below.refl _ _) (⟨g0, g1, g2, g3, rfl, f3, f6, f9, CE, ⟨n3, n6, n9, CU⟩, by omega, by omega, by omega⟩), fun e => by rw [al (by decide), Ab] at e; cases e⟩
   clear hd Aa hJ Ae hL Ab Ba Bc d1 d2 d3 e0 e3 e6 e9 Cv f3 f6 f9 CE
   go_simp
 · intro ρ X L hc hf hL hd Aa Ae
   have Ab : L 15 = false := ak (by kernel_rfl) Aa (k := 14) (by simp) hL
   have hJ := Ae.1 Ab
   obtain ⟨c0, c1, c2, c3⟩ := Aj.out X hJ.low
   refine ac (v := aa X.heap.size) (w' := X.alloc (.cells #[.int .i64 0, .slice none 0 0, .slice none 0 0, .slice none 0 0, .slice none 0 0, .slice none 0 0, .slice none 0 0, .slice none 0 0] 176)) ?_ ⟨fun _ => hJ.put Ag.out dk (i := 14) (d := 5) rfl (ae X _) (⟨X.heap.size, [.int .i64 0, .slice none 0 0, .slice none 0 0, .slice none 0 0, .slice none 0 0, .slice none 0 0, .slice none 0 0, .slice none 0 0], rfl, heap_alloc_new X _, rfl, hJ.low.size⟩), fun e => by rw [al (by decide), Ab] at e; cases e⟩
   clear hd Aa hJ Ae hL Ab
   go_simp
 · intro ρ X L hc hf hL hd Aa Ae
   have hJ := Ae.1 hL
   obtain ⟨_, _, _, g0, g1, g2, g3, CD, f0, f1, f2, f3, ⟨m0, m1, m2, m3⟩, d1, d2, d3⟩ := hJ.get (i := 13) (d := 27) rfl (hd ⟨13, .data⟩ (by simp) rfl)
   obtain ⟨_, _, _, q, xs, e5, h0, Db, hq⟩ := hJ.get (i := 14) (d := 5) rfl (hd ⟨14, .data⟩ (by simp) rfl)
   obtain ⟨t0, t1, t2, t3, t4, t5, t6, t7, rfl⟩ : ∃ t0 t1 t2 t3 t4 t5 t6 t7, xs = [t0, t1, t2, t3, t4, t5, t6, t7] := by
    match xs, Db with
    | [t0, t1, t2, t3, t4, t5, t6, t7], _ => exact ⟨t0, t1, t2, t3, t4, t5, t6, t7, rfl⟩
   have EM : ρ (.tmp 27) = .agg #[.int .i64 T.lits, .slice fa T.foes.length fc, .slice ra T.rules.length rc, .slice ba T.beats.length bc, sl g0 n, sl g1 n, sl g2 n, sl g3 n] := CD
   have k5 : ρ (.tmp 5) = aa q := e5
   have y0 := h0.get (i := 0) (v := t0) rfl
   have z0 := h0.frz 0
   have h1 := h0.set 0 (.int .i64 T.lits)
   have y1 := h1.get (i := 1) (v := t1) rfl
   have z1 := h1.frz 1
   have h2 := h1.set 1 (.slice fa T.foes.length fc)
   have y2 := h2.get (i := 2) (v := t2) rfl
   have z2 := h2.frz 2
   have h3 := h2.set 2 (.slice ra T.rules.length rc)
   have y3 := h3.get (i := 3) (v := t3) rfl
   have z3 := h3.frz 3
   have h4 := h3.set 3 (.slice ba T.beats.length bc)
   have y4 := h4.get (i := 4) (v := t4) rfl
   have z4 := h4.frz 4
   have h5 := h4.set 4 (sl g0 n)
   have y5 := h5.get (i := 5) (v := t5) rfl
   have z5 := h5.frz 5
   have h6 := h5.set 5 (sl g1 n)
   have y6 := h6.get (i := 6) (v := t6) rfl
   have z6 := h6.frz 6
   have h7 := h6.set 6 (sl g2 n)
   have y7 := h7.get (i := 7) (v := t7) rfl
   have z7 := h7.frz 7
   have h8 := h7.set 7 (sl g3 n)
   have kp : ∀ {g t : Nat} {xs : List Value}, Fx g t xs X → t ≠ 176 → Fx g t xs ((((((((X.setCell ⟨q, 0, none⟩ (.int .i64 T.lits)).setCell ⟨q, 1, none⟩ (.slice fa T.foes.length fc)).setCell ⟨q, 2, none⟩ (.slice ra T.rules.length rc)).setCell ⟨q, 3, none⟩ (.slice ba T.beats.length bc)).setCell ⟨q, 4, none⟩ (sl g0 n)).setCell ⟨q, 5, none⟩ (sl g1 n)).setCell ⟨q, 6, none⟩ (sl g2 n)).setCell ⟨q, 7, none⟩ (sl g3 n)) := fun hx ht => by
    have CW := an hx h0 ht
    exact hx.keep (by simp only [other_set CW])
   have Bg : Hid (yu T fa ra ba fc rc bc n W0 (fA (fun s => ρ (.tmp s)) none undef) ((((((((X.setCell ⟨q, 0, none⟩ (.int .i64 T.lits)).setCell ⟨q, 1, none⟩ (.slice fa T.foes.length fc)).setCell ⟨q, 2, none⟩ (.slice ra T.rules.length rc)).setCell ⟨q, 3, none⟩ (.slice ba T.beats.length bc)).setCell ⟨q, 4, none⟩ (sl g0 n)).setCell ⟨q, 5, none⟩ (sl g1 n)).setCell ⟨q, 6, none⟩ (sl g2 n)).setCell ⟨q, 7, none⟩ (sl g3 n))) := hide ⟨q, g0, g1, g2, g3, by rw [eZ (by simp)]; exact k5, ⟨h8, kp f3 (by decide), vg (kp f0 (by decide)) (kp f1 (by decide)) (kp f2 (by decide)) ⟨m0, m1, m2⟩ ⟨d1, d2, d3⟩, hq, m3⟩, ((((((((hJ.low.setCell (p := ⟨q, 0, none⟩) hq _).setCell (p := ⟨q, 1, none⟩) hq _).setCell (p := ⟨q, 2, none⟩) hq _).setCell (p := ⟨q, 3, none⟩) hq _).setCell (p := ⟨q, 4, none⟩) hq _).setCell (p := ⟨q, 5, none⟩) hq _).setCell (p := ⟨q, 6, none⟩) hq _).setCell (p := ⟨q, 7, none⟩) hq _)⟩
   refine bX (w' := ((((((((X.setCell ⟨q, 0, none⟩ (.int .i64 T.lits)).setCell ⟨q, 1, none⟩ (.slice fa T.foes.length fc)).setCell ⟨q, 2, none⟩ (.slice ra T.rules.length rc)).setCell ⟨q, 3, none⟩ (.slice ba T.beats.length bc)).setCell ⟨q, 4, none⟩ (sl g0 n)).setCell ⟨q, 5, none⟩ (sl g1 n)).setCell ⟨q, 6, none⟩ (sl g2 n)).setCell ⟨q, 7, none⟩ (sl g3 n))) ?_ ⟨fun e => (by rw [aG] at e; cases e), fun _ => Bg.out⟩
   clear hd Aa hJ Ae hL kp Bg f0 f1 f2 f3 h1 h2 h3 h4 h5 h6 h7 h8 h0 CD e5
   go_simp
 · intro c a' w' _ hE
   exact hE.elim
 · rintro ⟨Ad, df⟩ w' Ao Ax ⟨L, hL, hJ⟩ Al
   simp only at Ax Ao
   subst Ax
   obtain ⟨q, rl, tm, rv, fm, e5, CB, CG⟩ := hJ.2 (hL 15 (by decide))
   have e5 : Ad.getD 5 undef = aa q := e5
   have Am := em 14 27 5 (by kernel_rfl) Ao Al
   simp only [zs, Nat.reduceLT, Nat.reduceAdd, true_or, or_true, or_self, false_and, ne_eq, Nat.reduceEqDiff, not_false_eq_true, not_true_eq_false, and_self, and_false, if_true, if_false, e5] at Am
   rw [Am]
   clear Am hJ hL Al Ao e5 Bx Ct Aj Ag
   generalize Ad.getD 14 undef = x14
   generalize Ad.getD 15 undef = x15
   generalize Ad.getD 16 undef = x16
   generalize Ad.getD 17 undef = x17
   generalize Ad.getD 18 undef = x18
   generalize Ad.getD 19 undef = x19
   generalize Ad.getD 20 undef = x20
   generalize Ad.getD 21 undef = x21
   generalize Ad.getD 22 undef = x22
   generalize Ad.getD 23 undef = x23
   generalize Ad.getD 24 undef = x24
   generalize Ad.getD 25 undef = x25
   generalize Ad.getD 26 undef = x26
   generalize Ad.getD 27 undef = x27
   have BT := hide CB
   have Cz : Hid (Below W.heap.size W w') := hide (HDr.out.trans (CG.mono HDr.out.size))
   have BY : W0.heap.size = W.heap.size := by rw [← Cd]; rfl
   rw [BY] at BT
   clear CB CG BY HDr HX1d
   have Ew := HF.out.lim
   have DJ := hide HF.out.at1
   go_wp2_with fail
   go_loopw [30] (fun x wr => ∃ k : Nat, k ≤ F.length ∧ x = .int .i64 k ∧ Hid (Nx W.heap.size q rl tm rv fm fa ra ba fc rc bc T n (fun z => decide (z ∈ F.take k)) (fun _ => List.replicate n []) (fun _ => List.replicate n (.slice none 0 0)) wr) ∧ Hid (Below W.heap.size W wr)) (fun x _ => F.length - (intOf x).toNat)
   case atStart => exact ⟨0, by omega, rfl, hide (by have := BT.out; simpa using this), Cz⟩
   case round =>
    clear BT Cz
    obtain ⟨k, hk, rfl, HN, HBr⟩ := hrel
    by_cases Aq : k < F.length
    · obtain ⟨x, hx⟩ := am Aq
      obtain ⟨x0, x1⟩ := HP.out.fact x (List.mem_of_getElem? hx)
      obtain ⟨xm, rfl⟩ := Int.eq_ofNat_of_zero_le x0
      have Cy : xm < n := by omega
      obtain ⟨ge, oe, rfl, cx⟩ := (DJ.out.below (show Below W.heap.size W wr from HBr.out)).get hx
      have c7 := HN.out.bx.get (i := 7) rfl
      have cf := HN.out.ff.get (dv Cy)
      have zf := HN.out.ff.frz xm
      have BB : Hid (Nx W.heap.size q rl tm rv fm fa ra ba fc rc bc T n (fun z => decide (z ∈ F.take (k + 1))) (fun _ => List.replicate n []) (fun _ => List.replicate n (.slice none 0 0)) (wr.setCell ⟨fm, xm, none⟩ (.bool true))) := hide (by
       have := HN.out.setF Cy
       have e : aB (fun z => decide (z ∈ F.take k)) (xm : Int) true = fun z => decide (z ∈ F.take (k + 1)) := by
        funext z
        rw [bC hx]
        by_cases ez : z = (xm : Int)
        · subst ez; rw [aM]; simp
        · rw [aT ez]; simp [ez]
       rw [e] at this
       exact this)
      have Dv := hide (HBr.out.setCell (p := ⟨fm, xm, none⟩) HN.out.lo.2 (.bool true))
      clear hx x0 x1
      go_wp2_with fail
      go_roundw
      case rel => exact ⟨k + 1, by omega, by go_num, BB, Dv⟩
      case measure => simp [intOf]; omega
    · have BB : Hid (Nx W.heap.size q rl tm rv fm fa ra ba fc rc bc T n (fun z => decide (z ∈ F)) (fun _ => List.replicate n []) (fun _ => List.replicate n (.slice none 0 0)) wr) := hide (by have := HN.out; rw [List.take_of_length_le (by omega)] at this; exact this)
      have c2 := (AG.out.keep (HBr.out.block _ AG.out.lt)).get (i := 2) rfl
      have Es : T.rules.length ≤ 4096 := HP.out.ok.rl
      go_wp2_with fail
      clear c2
      have HNs := hide BB.out
      have HBs := hide HBr.out
      clear HN BB HBr
      go_loopw [42] (fun x wr => ∃ (k : Nat) (H : Nat → List (List Int)) (vs : Nat → List Value), k ≤ T.rules.length ∧ x = .int .i64 k ∧ Hid (G2 T n k H) ∧ Hid (Nx W.heap.size q rl tm rv fm fa ra ba fc rc bc T n (gl T F k) H vs wr) ∧ Hid (Below W.heap.size W wr)) (fun x _ => T.rules.length - (intOf x).toNat)
      case atStart => exact ⟨0, _, _, by omega, rfl, hide G2.start, hide (by rw [vo]; exact HNs.out), HBs⟩
      case round =>
       clear HNs HBs
       rename World => wr2
       obtain ⟨k, H, vs, hk, rfl, HG, HN, HBr⟩ := hrel
       by_cases Aq : k < T.rules.length
       · obtain ⟨r, hr⟩ := am Aq
         have HRr := hide hr
         obtain ⟨h0, h1⟩ := HP.out.head r (List.mem_of_getElem? hr)
         obtain ⟨hm, Cm⟩ := Int.eq_ofNat_of_zero_le h0
         have BV := hide Cm
         have As : hm < n := by omega
         have hR := TR.keep HBr.out.block BC.out
         obtain ⟨gr, go, bd, bp, rfl, CV, x0, x1, x2, -, Eg, Cp⟩ := dI hR.rules hr
         have Bf : Hid (∀ (c i : Nat) (l : List Int), c < 3 → (H c)[i]? = some l → l.length ≤ 4096) := hide fun c i l hc hl => by
          have AX : i < n := by rw [← HG.out.ln c hc]; exact (List.getElem?_eq_some_iff.1 hl).1
          have e : l = (H c).getD i [] := by rw [List.getD_eq_getElem?_getD, hl]; rfl
          rw [e]
          rcases (show c = 0 ∨ c = 1 ∨ c = 2 by omega) with rfl | rfl | rfl
          · rw [HG.out.a i AX]; exact Nat.le_trans bh (by omega)
          · rw [HG.out.t i AX]; exact Nat.le_trans bh (by omega)
          · rw [HG.out.v i AX]; simp
         rw [Cm] at x1
         have BX := ae wr2 (.cells #[.int .i64 r.kind, .int .i64 hm, .slice bd r.body.length bp] 114)
         have HNq := hide (HN.out.go BX)
         have HQ : Hid (Fx wr2.heap.size 114 [.int .i64 r.kind, .int .i64 hm, .slice bd r.body.length bp] (wr2.alloc (.cells #[.int .i64 r.kind, .int .i64 hm, .slice bd r.body.length bp] 114))) := hide (heap_alloc_new wr2 _)
         have HBq := hide (HBr.out.trans (BX.mono HBr.out.size))
         clear hr h0 h1 Cm hR BX Cp HN HBr CV
         go_upto_region 10 with fail
         clear x0 x1 x2
         generalize wr2.alloc (.cells #[.int .i64 r.kind, .int .i64 hm, .slice bd r.body.length bp] 114) = wq at *
         obtain ⟨qr, Cr⟩ : ∃ qr, wr2.heap.size = qr := ⟨_, rfl⟩
         rw [Cr] at HQ ⊢
         clear Cr
         have Bd := (Below.refl wq.heap.size wq).drew
         have HNd0 := hide (HNq.out.go Bd)
         have HQd0 := hide (HQ.out.keep (Bd.block _ HQ.out.lt))
         have HBd0 := hide (HBq.out.trans (Bd.mono HBq.out.size))
         obtain ⟨wd, Aw⟩ : ∃ wd, wq.drew = wd := ⟨_, rfl⟩
         rw [Aw] at HNd0 HQd0 HBd0
         obtain ⟨l0, AD, Az, Bj, Cx, BF, AT⟩ := HNd0.out.h3.at (c := 0) (by omega) (show hm < n from As)
         have BF : wd.cell? ⟨rl, hm, none⟩ = some (.slice AD l0.length Az) := BF
         have CQ : l0.length ≤ 4096 := Bf.out 0 _ _ (by omega) Bj
         have Bi := ae wd (.cells #[.int .i64 k] 3)
         have BN : W.heap.size ≤ wd.heap.size := HBd0.out.size
         obtain ⟨Ay, Ar, w2, AR, By, Ap, BS, CR⟩ := run_append_lies (P := Tryz.prog) (wd.alloc (.cells #[.int .i64 k] 3)) 26 26 W.heap.size 3 iI _ 1 8 Tryz.underlying26 Cn Cj Ci BM rfl (by decide) (.slice AD l0.length Az) l0.length (aq l0) (owns_keep AT fun g hg => Bi.block g (ax AT hg)) ⟨wd.heap.size, 0, none⟩ 1 1 [.int .i64 k] rfl (World.news_of_block (cs := [.int .i64 k].toArray) (t := 3) (fr := (0, 0)) (heap_alloc_new wd (.cells #[.int .i64 k] 3))) (by simp [Value.oneCell']) (by decide) (by unfold maxLen; omega) (by omega) (by simp; omega) (wd.heap.size + 1) (by simp)
         have AO := hide AR
         have AI : ∀ k, k < wd.heap.size → Value.ownBlock (.slice AD l0.length Az) ≠ some k → w2.heap[k]? = wd.heap[k]? := fun k hk hn => (Ap.block k (by simp; omega) fun e => hn e.symm).trans (Bi.block k hk)
         have Bt := au AT (HNd0.out.h3.fx 0 (by omega)) (by decide)
         have Bq := au AT HQd0.out (by decide)
         have BJ := au AT HNd0.out.bx (by decide)
         obtain ⟨w3, Ai⟩ : ∃ w3, w2.setCell ⟨rl, hm, none⟩ (.slice (some ⟨Ay, 0, none⟩) (l0.length + 1) Ar) = w3 := ⟨_, rfl⟩
         have AN := hide Ai
         have HN0a : Hid (Nx W.heap.size q rl tm rv fm fa (some ⟨gr, go, none⟩) ba fc rc bc T n (gl T F k) (up H 0 ((H 0).set hm (l0 ++ [(k : Int)]))) (up vs 0 ((vs 0).set hm (.slice (some ⟨Ay, 0, none⟩) (l0.length + 1) Ar))) w3) := hide (by rw [← Ai]; exact HNd0.out.add (c := 0) (by omega) Bj Cx By AI (by rcases BS with h | h; exact .inl h; exact .inr (by omega)))
         have AY : Hid (Fx qr 114 [.int .i64 r.kind, .int .i64 hm, .slice bd r.body.length bp] w3) := hide (by rw [← Ai]; exact (HQd0.out.keep (AI _ HQd0.out.lt Bq)).keep (other_set (an HQd0.out (HNd0.out.h3.fx 0 (by omega)) (by decide))))
         have AS : Hid (Below W.heap.size W w3) := hide (by rw [← Ai]; exact (HBd0.out.trans (show Below W.heap.size wd w2 from (Bi.mono BN).trans ⟨Ap.os, Ap.tape, Ap.output, Ap.size, fun k hk => Ap.block k (by simp; omega) fun e => by have := (AT.lt k e.symm).1; omega⟩)).setCell (p := ⟨rl, hm, none⟩) (HNd0.out.h3.lo 0 (by omega)) (.slice (some ⟨Ay, 0, none⟩) (l0.length + 1) Ar))
         have BG : ∀ {a : Addr} {v : Value}, wd.cell? a = some v → Value.ownBlock (.slice AD l0.length Az) ≠ some a.block → ∀ X, X = wd ∨ X = wd.alloc (.cells #[.int .i64 k] 3) ∨ X = w2 → X.cell? a = some v := fun ha hn X hX => by
          have Aq := World.block_lt_of_cell? wd _ ha
          rcases hX with rfl | rfl | rfl
          · exact ha
          · exact ar ha Bi
          · exact (World.cell?_of_block (AI _ Aq hn)).trans ha
         have LH := hide (BG (HNd0.out.bx.get (i := 4) (v := sl rl n) rfl) BJ)
         have LQ := hide (BG (HQd0.out.get (i := 1) rfl) Bq)
         have LR := hide (BG BF Bt)
         have q1 : w2.cell? ⟨rl, hm, none⟩ = some (.slice AD l0.length Az) := LR.out w2 (.inr (.inr rfl))
         have q2 : w2.frozen? ⟨rl, hm, none⟩ = false := ((HNd0.out.h3.fx 0 (by omega)).keep (AI _ (HNd0.out.h3.fx 0 (by omega)).lt Bt)).frz hm
         have Af : Hid (fZ ([some (47, .pointer (some ⟨q, 4, none⟩)), some (48, sl rl n), some (49, .pointer (some ⟨qr, 1, none⟩)), some (50, .int .i64 hm), some (51, .pointer (some ⟨q, 4, none⟩)), some (52, sl rl n), some (53, .pointer (some ⟨qr, 1, none⟩)), some (54, .int .i64 hm), some (55, .pointer (some ⟨rl, hm, none⟩)), some (56, .slice AD l0.length Az), some (57, .int .i64 k), some (58, .slice (some ⟨wd.heap.size, 0, none⟩) 1 1), some (59, .slice (some ⟨Ay, 0, none⟩) (l0.length + 1) Ar), some (60, .pointer (some ⟨rl, hm, none⟩)), none].map fun p : Option (Nat × Value) => p.map Prod.fst) [(5, aa q), (9, aa qr), (8, .int .i64 k)] = true) := hide rfl
         clear HNq HQ HBq BF Ap By AR Bq BJ Bt Cx BS CR BG AI Bi AT HNd0 HQd0 HBd0 BN Bd Ai
         refine bV fW (Jt [some (47, .pointer (some ⟨q, 4, none⟩)), some (48, sl rl n), some (49, .pointer (some ⟨qr, 1, none⟩)), some (50, .int .i64 hm), some (51, .pointer (some ⟨q, 4, none⟩)), some (52, sl rl n), some (53, .pointer (some ⟨qr, 1, none⟩)), some (54, .int .i64 hm), some (55, .pointer (some ⟨rl, hm, none⟩)), some (56, .slice AD l0.length Az), some (57, .int .i64 k), some (58, .slice (some ⟨wd.heap.size, 0, none⟩) 1 1), some (59, .slice (some ⟨Ay, 0, none⟩) (l0.length + 1) Ar), some (60, .pointer (some ⟨rl, hm, none⟩)), none] [(5, aa q), (9, aa qr), (8, .int .i64 k)] (fG 11 12 14 wd (wd.alloc (.cells #[.int .i64 k] 3)) w2 w3)) (by kernel_rfl) (by kernel_rfl) ?_ (ci ⟨?_, ?_, ?_, ?_, ?_, ?_, ?_, ?_, ?_, ?_, ?_, ?_, ?_, ?_, ?_, trivial⟩) ?_ ?_
         · exact ⟨fun p hp => by simp at hp; rcases hp with rfl | rfl | rfl <;> rfl, fun i d v _ hL => (by cases hL), Aw⟩
         · intro ρ X L hc hf hL hd Aa hJ
           have k5 : ρ (.tmp 5) = aa q := hJ.base (5, aa q) (by simp)
           refine ac (v := .pointer (some ⟨q, 4, none⟩)) (w' := X) ?_ (hJ.put Af.out rfl (by rw [ap (by decide) (by decide) (by decide)]; exact hJ.wd))
           clear hd Aa hJ hL
           go_simp
         · intro ρ X L hc hf hL hd Aa hJ
           have Ek : ρ (.tmp 47) = .pointer (some ⟨q, 4, none⟩) := hJ.vals 0 47 (.pointer (some ⟨q, 4, none⟩)) rfl (hd ⟨0, .data⟩ (by simp) rfl)
           have Ac : L 14 = false := ak (by kernel_rfl) Aa (k := 1) (by simp) hL
           have hx := LH.out X (aZ hJ.wd Ac)
           clear Ac
           refine ac (v := sl rl n) (w' := X) ?_ (hJ.put Af.out rfl (by rw [ap (by decide) (by decide) (by decide)]; exact hJ.wd))
           clear hd Aa hJ hL
           go_simp
         · intro ρ X L hc hf hL hd Aa hJ
           have k9 : ρ (.tmp 9) = aa qr := hJ.base (9, aa qr) (by simp)
           refine ac (v := .pointer (some ⟨qr, 1, none⟩)) (w' := X) ?_ (hJ.put Af.out rfl (by rw [ap (by decide) (by decide) (by decide)]; exact hJ.wd))
           clear hd Aa hJ hL
           go_simp
         · intro ρ X L hc hf hL hd Aa hJ
           have Ec : ρ (.tmp 49) = .pointer (some ⟨qr, 1, none⟩) := hJ.vals 2 49 (.pointer (some ⟨qr, 1, none⟩)) rfl (hd ⟨2, .data⟩ (by simp) rfl)
           have Ac : L 14 = false := ak (by kernel_rfl) Aa (k := 3) (by simp) hL
           have hx := LQ.out X (aZ hJ.wd Ac)
           clear Ac
           refine ac (v := .int .i64 hm) (w' := X) ?_ (hJ.put Af.out rfl (by rw [ap (by decide) (by decide) (by decide)]; exact hJ.wd))
           clear hd Aa hJ hL
           go_simp
         · intro ρ X L hc hf hL hd Aa hJ
           have k5 : ρ (.tmp 5) = aa q := hJ.base (5, aa q) (by simp)
           refine ac (v := .pointer (some ⟨q, 4, none⟩)) (w' := X) ?_ (hJ.put Af.out rfl (by rw [ap (by decide) (by decide) (by decide)]; exact hJ.wd))
           clear hd Aa hJ hL
           go_simp
         · intro ρ X L hc hf hL hd Aa hJ
           have Ed : ρ (.tmp 51) = .pointer (some ⟨q, 4, none⟩) := hJ.vals 4 51 (.pointer (some ⟨q, 4, none⟩)) rfl (hd ⟨4, .data⟩ (by simp) rfl)
           have Ac : L 14 = false := ak (by kernel_rfl) Aa (k := 5) (by simp) hL
           have hx := LH.out X (aZ hJ.wd Ac)
           clear Ac
           refine ac (v := sl rl n) (w' := X) ?_ (hJ.put Af.out rfl (by rw [ap (by decide) (by decide) (by decide)]; exact hJ.wd))
           clear hd Aa hJ hL
           go_simp
         · intro ρ X L hc hf hL hd Aa hJ
           have k9 : ρ (.tmp 9) = aa qr := hJ.base (9, aa qr) (by simp)
           refine ac (v := .pointer (some ⟨qr, 1, none⟩)) (w' := X) ?_ (hJ.put Af.out rfl (by rw [ap (by decide) (by decide) (by decide)]; exact hJ.wd))
           clear hd Aa hJ hL
           go_simp
         · intro ρ X L hc hf hL hd Aa hJ
           have ER : ρ (.tmp 53) = .pointer (some ⟨qr, 1, none⟩) := hJ.vals 6 53 (.pointer (some ⟨qr, 1, none⟩)) rfl (hd ⟨6, .data⟩ (by simp) rfl)
           have Ac : L 14 = false := ak (by kernel_rfl) Aa (k := 7) (by simp) hL
           have hx := LQ.out X (aZ hJ.wd Ac)
           clear Ac
           refine ac (v := .int .i64 hm) (w' := X) ?_ (hJ.put Af.out rfl (by rw [ap (by decide) (by decide) (by decide)]; exact hJ.wd))
           clear hd Aa hJ hL
           go_simp
         · intro ρ X L hc hf hL hd Aa hJ
           have EE : ρ (.tmp 52) = sl rl n := hJ.vals 5 52 (sl rl n) rfl (hd ⟨5, .data⟩ (by simp) rfl)
           have EA : ρ (.tmp 54) = .int .i64 hm := hJ.vals 7 54 (.int .i64 hm) rfl (hd ⟨7, .data⟩ (by simp) rfl)
           refine ac (v := .pointer (some ⟨rl, hm, none⟩)) (w' := X) ?_ (hJ.put Af.out rfl (by rw [ap (by decide) (by decide) (by decide)]; exact hJ.wd))
           clear hd Aa hJ hL
           go_simp
         · intro ρ X L hc hf hL hd Aa hJ
           have En : ρ (.tmp 55) = .pointer (some ⟨rl, hm, none⟩) := hJ.vals 8 55 (.pointer (some ⟨rl, hm, none⟩)) rfl (hd ⟨8, .data⟩ (by simp) rfl)
           have Ac : L 14 = false := ak (by kernel_rfl) Aa (k := 9) (by simp) hL
           have hx := LR.out X (aZ hJ.wd Ac)
           clear Ac
           refine ac (v := .slice AD l0.length Az) (w' := X) ?_ (hJ.put Af.out rfl (by rw [ap (by decide) (by decide) (by decide)]; exact hJ.wd))
           clear hd Aa hJ hL
           go_simp
         · intro ρ X L hc hf hL hd Aa hJ
           have k8 : ρ (.tmp 8) = .int .i64 k := hJ.base (8, .int .i64 k) (by simp)
           refine ac (v := .int .i64 k) (w' := X) ?_ (hJ.put Af.out rfl (by rw [ap (by decide) (by decide) (by decide)]; exact hJ.wd))
           clear hd Aa hJ hL
           go_simp
         · intro ρ X L hc hf hL hd Aa hJ
           have Ee : ρ (.tmp 57) = .int .i64 k := hJ.vals 10 57 (.int .i64 k) rfl (hd ⟨10, .data⟩ (by simp) rfl)
           have Ah : L 12 = false := by cases e : L 12 with | false => rfl | true => (have := Aa 12 _ rfl e ⟨11, .data⟩ (by simp) rfl; rw [show (⟨11, .data⟩ : Edge).on = 11 from rfl] at this; rw [hL] at this; cases this)
           have Ac : L 14 = false := ak (by kernel_rfl) Aa (k := 11) (by simp) hL
           have hX := hJ.wd.trans (j4 hL Ah Ac)
           refine ac (v := .slice (some ⟨wd.heap.size, 0, none⟩) 1 1) (w' := wd.alloc (.cells #[.int .i64 k] 3)) ?_ (hJ.put Af.out rfl ((eC aG (by rw [al (by decide)]; exact Ah) (by rw [al (by decide)]; exact Ac)).symm))
           subst hX
           clear hd Aa hJ hL Ah Ac
           go_simp
         · intro ρ X L hc hf hL hd Aa hJ
           have CX : ρ (.tmp 56) = .slice AD l0.length Az := hJ.vals 9 56 (.slice AD l0.length Az) rfl (hd ⟨9, .data⟩ (by simp) rfl)
           have Dy : ρ (.tmp 58) = .slice (some ⟨wd.heap.size, 0, none⟩) 1 1 := hJ.vals 11 58 (.slice (some ⟨wd.heap.size, 0, none⟩) 1 1) rfl (hd ⟨11, .data⟩ (by simp) rfl)
           have Bo : L 11 = true := hd ⟨11, .data⟩ (by simp) rfl
           have Ac : L 14 = false := ak (by kernel_rfl) Aa (k := 12) (by simp) hL
           have hX := hJ.wd.trans (eC Bo hL Ac)
           refine eV _ _ 26 rfl CX Dy (u := .slice (some ⟨Ay, 0, none⟩) (l0.length + 1) Ar) (w' := w2) (by rw [hX]; exact AO.out) (hJ.put Af.out rfl ((eF aG (by rw [al (by decide)]; exact Ac)).symm))
         · intro ρ X L hc hf hL hd Aa hJ
           have El : ρ (.tmp 48) = sl rl n := hJ.vals 1 48 (sl rl n) rfl (hd ⟨1, .data⟩ (by simp) rfl)
           have Et : ρ (.tmp 50) = .int .i64 hm := hJ.vals 3 50 (.int .i64 hm) rfl (hd ⟨3, .data⟩ (by simp) rfl)
           refine ac (v := .pointer (some ⟨rl, hm, none⟩)) (w' := X) ?_ (hJ.put Af.out rfl (by rw [ap (by decide) (by decide) (by decide)]; exact hJ.wd))
           clear hd Aa hJ hL
           go_simp
         · intro ρ X L hc hf hL hd Aa hJ
           have Eb : ρ (.tmp 60) = .pointer (some ⟨rl, hm, none⟩) := hJ.vals 13 60 (.pointer (some ⟨rl, hm, none⟩)) rfl (hd ⟨13, .data⟩ (by simp) rfl)
           have EK : ρ (.tmp 59) = .slice (some ⟨Ay, 0, none⟩) (l0.length + 1) Ar := hJ.vals 12 59 (.slice (some ⟨Ay, 0, none⟩) (l0.length + 1) Ar) rfl (hd ⟨12, .data⟩ (by simp) rfl)
           have Ah : L 12 = true := hd ⟨12, .data⟩ (by simp) rfl
           have hX := hJ.wd.trans (eF Ah hL)
           refine bX (w' := w3) ?_ (hJ.last rfl ((eD aG).symm))
           subst hX
           clear hd Aa hJ hL Ah
           rw [← AN.out]
           go_simp
         · intro c a' w' _ hE
           exact hE.elim
         · rintro ⟨Ad, df⟩ w' Ao Ax ⟨L, hL, hJ⟩ Al
           simp only at Ax Ao
           subst Ax
           have Bn : w3 = w' := (hJ.wd.trans (eD (hL 14 (by decide)))).symm
           subst Bn
           have Am := dC 47 60 (by kernel_rfl) Ao Al
           simp only [zr, Nat.reduceLT, Nat.reduceAdd, true_or, or_true, or_self, if_true, if_false] at Am
           rw [Am]
           clear Am hJ hL Al Ao Af AO AN LH LQ LR q1 q2 Aw
           generalize Ad.getD 47 undef = x47
           generalize Ad.getD 48 undef = x48
           generalize Ad.getD 49 undef = x49
           generalize Ad.getD 50 undef = x50
           generalize Ad.getD 51 undef = x51
           generalize Ad.getD 52 undef = x52
           generalize Ad.getD 53 undef = x53
           generalize Ad.getD 54 undef = x54
           generalize Ad.getD 55 undef = x55
           generalize Ad.getD 56 undef = x56
           generalize Ad.getD 57 undef = x57
           generalize Ad.getD 58 undef = x58
           generalize Ad.getD 59 undef = x59
           generalize Ad.getD 60 undef = x60
           have HQ := hide AY.out
           have HBq := hide AS.out
           clear AY AS
           have BI := HQ.out.get (i := 0) rfl
           have Cg := HQ.out.get (i := 1) rfl
           have Ca := HQ.out.get (i := 2) rfl
           have CT := hide (fh (w := w3) (k := r.kind) (h := (hm : Int)) (v := .slice bd r.body.length bp))
           cases hkt : kT r with
           | false =>
            have Au : (!decide (r.kind = 3)) = false := hkt
            rw [Au] at CT
            have AF := hide (HG.out.step3 HRr.out BV.out As hkt Bj)
            have Cw : Hid (decide (r.kind = 1) = false) := hide (by unfold kT at hkt; simp at hkt; rw [hkt]; rfl)
            have Bk : Hid (gl T F (k + 1) = gl T F k) := hide (qS HRr.out (by unfold kS; exact Cw.out))
            clear hkt Au
            go_wp2_with (first | (go_at_call 176; refine CT.out.mono ?_; rintro _ w5 ⟨rfl, hb⟩; have AV := hide hb; have AU := HQ.out.keep (hb.block _ HQ.out.lt); have ED := AU.get (i := 0) rfl; have CY := AU.get (i := 1) rfl; have Ei := AU.get (i := 2) rfl; have CI := hide (fM (w := w5) (k := r.kind) (h := (hm : Int)) (v := .slice bd r.body.length bp)); rw [Cw.out] at CI; clear hb AU) | (go_at_call 174; refine CI.out.mono ?_; rintro _ w6 ⟨rfl, hb⟩; have AJ := hide (AV.out.trans (hb.mono AV.out.size)); clear hb))
            go_roundw
            case rel => exact ⟨k + 1, _, _, by omega, by go_num, AF, hide (by rw [Bk.out]; exact HN0a.out.go AJ.out), hide (HBq.out.trans (AJ.out.mono HBq.out.size))⟩
            case measure => simp [intOf]; omega
           | true =>
            have Au : (!decide (r.kind = 3)) = true := hkt
            rw [Au] at CT
            have Di := hide hkt
            clear hkt Au
            go_upto_region 12 with (go_at_call 176; refine CT.out.mono ?_; rintro _ wt ⟨rfl, hb⟩; have AV := hide hb; clear hb)
            have HNt := hide (HN0a.out.go AV.out)
            have AU := hide (HQ.out.keep (AV.out.block _ HQ.out.lt))
            have HB5q := hide (HBq.out.trans (AV.out.mono HBq.out.size))
            have Df := hide Bj
            clear HQ HBq HN0a BI Cg Ca CT AV Bj CQ
            have HQ := hide AU.out
            have HBq := hide HB5q.out
            clear AU HB5q
            have Be := (Below.refl wt.heap.size wt).drew
            have HNd1 := hide (HNt.out.go Be)
            have HQd1 := hide (HQ.out.keep (Be.block _ HQ.out.lt))
            have HBd1 := hide (HBq.out.trans (Be.mono HBq.out.size))
            obtain ⟨wd, Aw⟩ : ∃ wd, wt.drew = wd := ⟨_, rfl⟩
            rw [Aw] at HNd1 HQd1 HBd1
            obtain ⟨l1, AE, AC, AZ, BD, AQ, AK⟩ := HNd1.out.h3.at (c := 1) (by omega) (show hm < n from As)
            have AQ : wd.cell? ⟨tm, hm, none⟩ = some (.slice AE l1.length AC) := AQ
            have DQ : l1.length ≤ 4096 := Bf.out 1 hm _ (by omega) AZ
            have Bp := ae wd (.cells #[.int .i64 k] 3)
            have BU : W.heap.size ≤ wd.heap.size := HBd1.out.size
            obtain ⟨AP, Av, w2, AR, Bz, An, BQ, CN⟩ := run_append_lies (P := Tryz.prog) (wd.alloc (.cells #[.int .i64 k] 3)) 26 26 W.heap.size 3 iI _ 1 8 Tryz.underlying26 Cn Cj Ci BM rfl (by decide) (.slice AE l1.length AC) l1.length (aq l1) (owns_keep AK fun g hg => Bp.block g (ax AK hg)) ⟨wd.heap.size, 0, none⟩ 1 1 [.int .i64 k] rfl (World.news_of_block (cs := [.int .i64 k].toArray) (t := 3) (fr := (0, 0)) (heap_alloc_new wd (.cells #[.int .i64 k] 3))) (by simp [Value.oneCell']) (by decide) (by unfold maxLen; omega) (by omega) (by simp; omega) (wd.heap.size + 1) (by simp)
            have AO := hide AR
            have AH : ∀ k, k < wd.heap.size → Value.ownBlock (.slice AE l1.length AC) ≠ some k → w2.heap[k]? = wd.heap[k]? := fun k hk hn => (An.block k (by simp; omega) fun e => hn e.symm).trans (Bp.block k hk)
            have Bu := au AK (HNd1.out.h3.fx 1 (by omega)) (by decide)
            have Bs := au AK HQd1.out (by decide)
            have BL := au AK HNd1.out.bx (by decide)
            obtain ⟨w3, Ai⟩ : ∃ w3, w2.setCell ⟨tm, hm, none⟩ (.slice (some ⟨AP, 0, none⟩) (l1.length + 1) Av) = w3 := ⟨_, rfl⟩
            have AN := hide Ai
            have HN1a : Hid (Nx W.heap.size q rl tm rv fm fa (some ⟨gr, go, none⟩) ba fc rc bc T n (gl T F k) (up (up H 0 ((H 0).set hm (l0 ++ [(k : Int)]))) 1 (((up H 0 ((H 0).set hm (l0 ++ [(k : Int)]))) 1).set hm (l1 ++ [(k : Int)]))) (up (up vs 0 ((vs 0).set hm (.slice (some ⟨Ay, 0, none⟩) (l0.length + 1) Ar))) 1 (((up vs 0 ((vs 0).set hm (.slice (some ⟨Ay, 0, none⟩) (l0.length + 1) Ar))) 1).set hm (.slice (some ⟨AP, 0, none⟩) (l1.length + 1) Av))) w3) := hide (by rw [← Ai]; exact HNd1.out.add (c := 1) (by omega) AZ BD Bz AH (by rcases BQ with h | h; exact .inl h; exact .inr (by omega)))
            have AY : Hid (Fx qr 114 [.int .i64 r.kind, .int .i64 hm, .slice bd r.body.length bp] w3) := hide (by rw [← Ai]; exact (HQd1.out.keep (AH _ HQd1.out.lt Bs)).keep (other_set (an HQd1.out (HNd1.out.h3.fx 1 (by omega)) (by decide))))
            have AS : Hid (Below W.heap.size W w3) := hide (by rw [← Ai]; exact (HBd1.out.trans (show Below W.heap.size wd w2 from (Bp.mono BU).trans ⟨An.os, An.tape, An.output, An.size, fun k hk => An.block k (by simp; omega) fun e => by have := (AK.lt k e.symm).1; omega⟩)).setCell (p := ⟨tm, hm, none⟩) (HNd1.out.h3.lo 1 (by omega)) (.slice (some ⟨AP, 0, none⟩) (l1.length + 1) Av))
            have BA : ∀ {a : Addr} {v : Value}, wd.cell? a = some v → Value.ownBlock (.slice AE l1.length AC) ≠ some a.block → ∀ X, X = wd ∨ X = wd.alloc (.cells #[.int .i64 k] 3) ∨ X = w2 → X.cell? a = some v := fun ha hn X hX => by
             have Aq := World.block_lt_of_cell? wd _ ha
             rcases hX with rfl | rfl | rfl
             · exact ha
             · exact ar ha Bp
             · exact (World.cell?_of_block (AH _ Aq hn)).trans ha
            have LH := hide (BA (HNd1.out.bx.get (i := 5) (v := sl tm n) rfl) BL)
            have LQ := hide (BA (HQd1.out.get (i := 1) rfl) Bs)
            have LR := hide (BA AQ Bu)
            have q1 : w2.cell? ⟨tm, hm, none⟩ = some (.slice AE l1.length AC) := LR.out w2 (.inr (.inr rfl))
            have q2 : w2.frozen? ⟨tm, hm, none⟩ = false := ((HNd1.out.h3.fx 1 (by omega)).keep (AH _ (HNd1.out.h3.fx 1 (by omega)).lt Bu)).frz hm
            have Af : Hid (fZ ([some (63, .pointer (some ⟨q, 5, none⟩)), some (64, sl tm n), some (65, .pointer (some ⟨qr, 1, none⟩)), some (66, .int .i64 hm), some (67, .pointer (some ⟨q, 5, none⟩)), some (68, sl tm n), some (69, .pointer (some ⟨qr, 1, none⟩)), some (70, .int .i64 hm), some (71, .pointer (some ⟨tm, hm, none⟩)), some (72, .slice AE l1.length AC), some (73, .int .i64 k), some (74, .slice (some ⟨wd.heap.size, 0, none⟩) 1 1), some (75, .slice (some ⟨AP, 0, none⟩) (l1.length + 1) Av), some (76, .pointer (some ⟨tm, hm, none⟩)), none].map fun p : Option (Nat × Value) => p.map Prod.fst) [(5, aa q), (9, aa qr), (8, .int .i64 k)] = true) := hide rfl
            clear HNt HQ HBq AQ An Bz AR Bs BL Bu BD BQ CN BA AH Bp AK HNd1 HQd1 HBd1 BU Be Ai
            refine bV fW (Jt [some (63, .pointer (some ⟨q, 5, none⟩)), some (64, sl tm n), some (65, .pointer (some ⟨qr, 1, none⟩)), some (66, .int .i64 hm), some (67, .pointer (some ⟨q, 5, none⟩)), some (68, sl tm n), some (69, .pointer (some ⟨qr, 1, none⟩)), some (70, .int .i64 hm), some (71, .pointer (some ⟨tm, hm, none⟩)), some (72, .slice AE l1.length AC), some (73, .int .i64 k), some (74, .slice (some ⟨wd.heap.size, 0, none⟩) 1 1), some (75, .slice (some ⟨AP, 0, none⟩) (l1.length + 1) Av), some (76, .pointer (some ⟨tm, hm, none⟩)), none] [(5, aa q), (9, aa qr), (8, .int .i64 k)] (fG 11 12 14 wd (wd.alloc (.cells #[.int .i64 k] 3)) w2 w3)) (by kernel_rfl) (by kernel_rfl) ?_ (ci ⟨?_, ?_, ?_, ?_, ?_, ?_, ?_, ?_, ?_, ?_, ?_, ?_, ?_, ?_, ?_, trivial⟩) ?_ ?_
            · exact ⟨fun p hp => by simp at hp; rcases hp with rfl | rfl | rfl <;> rfl, fun i d v _ hL => (by cases hL), Aw⟩
            · intro ρ X L hc hf hL hd Aa hJ
              have k5 : ρ (.tmp 5) = aa q := hJ.base (5, aa q) (by simp)
              refine ac (v := .pointer (some ⟨q, 5, none⟩)) (w' := X) ?_ (hJ.put Af.out rfl (by rw [ap (by decide) (by decide) (by decide)]; exact hJ.wd))
              clear hd Aa hJ hL
              go_simp
            · intro ρ X L hc hf hL hd Aa hJ
              have EP : ρ (.tmp 63) = .pointer (some ⟨q, 5, none⟩) := hJ.vals 0 63 (.pointer (some ⟨q, 5, none⟩)) rfl (hd ⟨0, .data⟩ (by simp) rfl)
              have Ac : L 14 = false := ak (by kernel_rfl) Aa (k := 1) (by simp) hL
              have hx := LH.out X (aZ hJ.wd Ac)
              clear Ac
              refine ac (v := sl tm n) (w' := X) ?_ (hJ.put Af.out rfl (by rw [ap (by decide) (by decide) (by decide)]; exact hJ.wd))
              clear hd Aa hJ hL
              go_simp
            · intro ρ X L hc hf hL hd Aa hJ
              have k9 : ρ (.tmp 9) = aa qr := hJ.base (9, aa qr) (by simp)
              refine ac (v := .pointer (some ⟨qr, 1, none⟩)) (w' := X) ?_ (hJ.put Af.out rfl (by rw [ap (by decide) (by decide) (by decide)]; exact hJ.wd))
              clear hd Aa hJ hL
              go_simp
            · intro ρ X L hc hf hL hd Aa hJ
              have Eu : ρ (.tmp 65) = .pointer (some ⟨qr, 1, none⟩) := hJ.vals 2 65 (.pointer (some ⟨qr, 1, none⟩)) rfl (hd ⟨2, .data⟩ (by simp) rfl)
              have Ac : L 14 = false := ak (by kernel_rfl) Aa (k := 3) (by simp) hL
              have hx := LQ.out X (aZ hJ.wd Ac)
              clear Ac
              refine ac (v := .int .i64 hm) (w' := X) ?_ (hJ.put Af.out rfl (by rw [ap (by decide) (by decide) (by decide)]; exact hJ.wd))
              clear hd Aa hJ hL
              go_simp
            · intro ρ X L hc hf hL hd Aa hJ
              have k5 : ρ (.tmp 5) = aa q := hJ.base (5, aa q) (by simp)
              refine ac (v := .pointer (some ⟨q, 5, none⟩)) (w' := X) ?_ (hJ.put Af.out rfl (by rw [ap (by decide) (by decide) (by decide)]; exact hJ.wd))
              clear hd Aa hJ hL
              go_simp
            · intro ρ X L hc hf hL hd Aa hJ
              have Ef : ρ (.tmp 67) = .pointer (some ⟨q, 5, none⟩) := hJ.vals 4 67 (.pointer (some ⟨q, 5, none⟩)) rfl (hd ⟨4, .data⟩ (by simp) rfl)
              have Ac : L 14 = false := ak (by kernel_rfl) Aa (k := 5) (by simp) hL
              have hx := LH.out X (aZ hJ.wd Ac)
              clear Ac
              refine ac (v := sl tm n) (w' := X) ?_ (hJ.put Af.out rfl (by rw [ap (by decide) (by decide) (by decide)]; exact hJ.wd))
              clear hd Aa hJ hL
              go_simp
            · intro ρ X L hc hf hL hd Aa hJ
              have k9 : ρ (.tmp 9) = aa qr := hJ.base (9, aa qr) (by simp)
              refine ac (v := .pointer (some ⟨qr, 1, none⟩)) (w' := X) ?_ (hJ.put Af.out rfl (by rw [ap (by decide) (by decide) (by decide)]; exact hJ.wd))
              clear hd Aa hJ hL
              go_simp
            · intro ρ X L hc hf hL hd Aa hJ
              have Ey : ρ (.tmp 69) = .pointer (some ⟨qr, 1, none⟩) := hJ.vals 6 69 (.pointer (some ⟨qr, 1, none⟩)) rfl (hd ⟨6, .data⟩ (by simp) rfl)
              have Ac : L 14 = false := ak (by kernel_rfl) Aa (k := 7) (by simp) hL
              have hx := LQ.out X (aZ hJ.wd Ac)
              clear Ac
              refine ac (v := .int .i64 hm) (w' := X) ?_ (hJ.put Af.out rfl (by rw [ap (by decide) (by decide) (by decide)]; exact hJ.wd))
              clear hd Aa hJ hL
              go_simp
            · intro ρ X L hc hf hL hd Aa hJ
              have Ev : ρ (.tmp 68) = sl tm n := hJ.vals 5 68 (sl tm n) rfl (hd ⟨5, .data⟩ (by simp) rfl)
              have DY : ρ (.tmp 70) = .int .i64 hm := hJ.vals 7 70 (.int .i64 hm) rfl (hd ⟨7, .data⟩ (by simp) rfl)
              refine ac (v := .pointer (some ⟨tm, hm, none⟩)) (w' := X) ?_ (hJ.put Af.out rfl (by rw [ap (by decide) (by decide) (by decide)]; exact hJ.wd))
              clear hd Aa hJ hL
              go_simp
            · intro ρ X L hc hf hL hd Aa hJ
              have Ej : ρ (.tmp 71) = .pointer (some ⟨tm, hm, none⟩) := hJ.vals 8 71 (.pointer (some ⟨tm, hm, none⟩)) rfl (hd ⟨8, .data⟩ (by simp) rfl)
              have Ac : L 14 = false := ak (by kernel_rfl) Aa (k := 9) (by simp) hL
              have hx := LR.out X (aZ hJ.wd Ac)
              clear Ac
              refine ac (v := .slice AE l1.length AC) (w' := X) ?_ (hJ.put Af.out rfl (by rw [ap (by decide) (by decide) (by decide)]; exact hJ.wd))
              clear hd Aa hJ hL
              go_simp
            · intro ρ X L hc hf hL hd Aa hJ
              have k8 : ρ (.tmp 8) = .int .i64 k := hJ.base (8, .int .i64 k) (by simp)
              refine ac (v := .int .i64 k) (w' := X) ?_ (hJ.put Af.out rfl (by rw [ap (by decide) (by decide) (by decide)]; exact hJ.wd))
              clear hd Aa hJ hL
              go_simp
            · intro ρ X L hc hf hL hd Aa hJ
              have EB : ρ (.tmp 73) = .int .i64 k := hJ.vals 10 73 (.int .i64 k) rfl (hd ⟨10, .data⟩ (by simp) rfl)
              have Ah : L 12 = false := by cases e : L 12 with | false => rfl | true => (have := Aa 12 _ rfl e ⟨11, .data⟩ (by simp) rfl; rw [show (⟨11, .data⟩ : Edge).on = 11 from rfl] at this; rw [hL] at this; cases this)
              have Ac : L 14 = false := ak (by kernel_rfl) Aa (k := 11) (by simp) hL
              have hX := hJ.wd.trans (j4 hL Ah Ac)
              refine ac (v := .slice (some ⟨wd.heap.size, 0, none⟩) 1 1) (w' := wd.alloc (.cells #[.int .i64 k] 3)) ?_ (hJ.put Af.out rfl ((eC aG (by rw [al (by decide)]; exact Ah) (by rw [al (by decide)]; exact Ac)).symm))
              subst hX
              clear hd Aa hJ hL Ah Ac
              go_simp
            · intro ρ X L hc hf hL hd Aa hJ
              have Da : ρ (.tmp 72) = .slice AE l1.length AC := hJ.vals 9 72 (.slice AE l1.length AC) rfl (hd ⟨9, .data⟩ (by simp) rfl)
              have DC : ρ (.tmp 74) = .slice (some ⟨wd.heap.size, 0, none⟩) 1 1 := hJ.vals 11 74 (.slice (some ⟨wd.heap.size, 0, none⟩) 1 1) rfl (hd ⟨11, .data⟩ (by simp) rfl)
              have Bo : L 11 = true := hd ⟨11, .data⟩ (by simp) rfl
              have Ac : L 14 = false := ak (by kernel_rfl) Aa (k := 12) (by simp) hL
              have hX := hJ.wd.trans (eC Bo hL Ac)
              refine eV _ _ 26 rfl Da DC (u := .slice (some ⟨AP, 0, none⟩) (l1.length + 1) Av) (w' := w2) (by rw [hX]; exact AO.out) (hJ.put Af.out rfl ((eF aG (by rw [al (by decide)]; exact Ac)).symm))
            · intro ρ X L hc hf hL hd Aa hJ
              have DW : ρ (.tmp 64) = sl tm n := hJ.vals 1 64 (sl tm n) rfl (hd ⟨1, .data⟩ (by simp) rfl)
              have Ep : ρ (.tmp 66) = .int .i64 hm := hJ.vals 3 66 (.int .i64 hm) rfl (hd ⟨3, .data⟩ (by simp) rfl)
              refine ac (v := .pointer (some ⟨tm, hm, none⟩)) (w' := X) ?_ (hJ.put Af.out rfl (by rw [ap (by decide) (by decide) (by decide)]; exact hJ.wd))
              clear hd Aa hJ hL
              go_simp
            · intro ρ X L hc hf hL hd Aa hJ
              have Ez : ρ (.tmp 76) = .pointer (some ⟨tm, hm, none⟩) := hJ.vals 13 76 (.pointer (some ⟨tm, hm, none⟩)) rfl (hd ⟨13, .data⟩ (by simp) rfl)
              have DZ : ρ (.tmp 75) = .slice (some ⟨AP, 0, none⟩) (l1.length + 1) Av := hJ.vals 12 75 (.slice (some ⟨AP, 0, none⟩) (l1.length + 1) Av) rfl (hd ⟨12, .data⟩ (by simp) rfl)
              have Ah : L 12 = true := hd ⟨12, .data⟩ (by simp) rfl
              have hX := hJ.wd.trans (eF Ah hL)
              refine bX (w' := w3) ?_ (hJ.last rfl ((eD aG).symm))
              subst hX
              clear hd Aa hJ hL Ah
              rw [← AN.out]
              go_simp
            · intro c a' w' _ hE
              exact hE.elim
            · rintro ⟨Ad, df⟩ w' Ao Ax ⟨L, hL, hJ⟩ Al
              simp only at Ax Ao
              subst Ax
              have Bn : w3 = w' := (hJ.wd.trans (eD (hL 14 (by decide)))).symm
              subst Bn
              have Am := dC 63 76 (by kernel_rfl) Ao Al
              simp only [zr, Nat.reduceLT, Nat.reduceAdd, true_or, or_true, or_self, if_true, if_false] at Am
              rw [Am]
              clear Am hJ hL Al Ao Af AO AN LH LQ LR q1 q2 Aw
              generalize Ad.getD 63 undef = x63
              generalize Ad.getD 64 undef = x64
              generalize Ad.getD 65 undef = x65
              generalize Ad.getD 66 undef = x66
              generalize Ad.getD 67 undef = x67
              generalize Ad.getD 68 undef = x68
              generalize Ad.getD 69 undef = x69
              generalize Ad.getD 70 undef = x70
              generalize Ad.getD 71 undef = x71
              generalize Ad.getD 72 undef = x72
              generalize Ad.getD 73 undef = x73
              generalize Ad.getD 74 undef = x74
              generalize Ad.getD 75 undef = x75
              generalize Ad.getD 76 undef = x76
              have HQ := hide AY.out
              have HBq := hide AS.out
              clear AY AS
              have BI := HQ.out.get (i := 0) rfl
              have Cg := HQ.out.get (i := 1) rfl
              have Ca := HQ.out.get (i := 2) rfl
              have CI := hide (fM (w := w3) (k := r.kind) (h := (hm : Int)) (v := .slice bd r.body.length bp))
              have AF := hide (HG.out.step12 HRr.out BV.out As Di.out Df.out AZ)
              cases hks : kS r with
              | false =>
               have Au : decide (r.kind = 1) = false := hks
               rw [Au] at CI
               have Bk : Hid (gl T F (k + 1) = gl T F k) := hide (qS HRr.out hks)
               clear hks Au
               go_wp2_with (go_at_call 174; refine CI.out.mono ?_; rintro _ w6 ⟨rfl, hb⟩; have AJ := hide hb; clear hb)
               go_roundw
               case rel => exact ⟨k + 1, _, _, by omega, by go_num, AF, hide (by rw [Bk.out]; exact HN1a.out.go AJ.out), hide (HBq.out.trans (AJ.out.mono HBq.out.size))⟩
               case measure => simp [intOf]; omega
              | true =>
               have Au : decide (r.kind = 1) = true := hks
               rw [Au] at CI
               have Bk : Hid (gl T F (k + 1) = aB (gl T F k) hm true) := hide (xA HRr.out hks BV.out)
               clear hks Au
               go_upto_region 14 with (go_at_call 174; refine CI.out.mono ?_; rintro _ w6 ⟨rfl, hb⟩; have AJ := hide hb; clear hb)
               have Bm := hide (HN1a.out.go AJ.out)
               have CH := HQ.out.keep (AJ.out.block _ HQ.out.lt)
               have Dw := hide (HBq.out.trans (AJ.out.mono HBq.out.size))
               have CY := CH.get (i := 1) rfl
               have c7 := Bm.out.bx.get (i := 7) rfl
               have cf := Bm.out.ff.get (dv As)
               have zf := Bm.out.ff.frz hm
               have Dz := hide (Bm.out.setF As)
               have DF := hide (Dw.out.setCell (p := ⟨fm, hm, none⟩) Bm.out.lo.2 (.bool true))
               clear CH BI Cg Ca
               go_wp2_with fail
               go_roundw
               case rel => exact ⟨k + 1, _, _, by omega, by go_num, AF, hide (by rw [Bk.out]; exact Dz.out), DF⟩
               case measure => simp [intOf]; omega
       · have Dr : k = T.rules.length := by omega
         subst Dr
         have Dg : Hid (gl T F T.rules.length = bI T F) := hide rfl
         clear Dg
         have BO : T.foes.length = n := by have := HP.out.ok.fl; have := HP.out.ln; omega
         have c1 := (AG.out.keep (HBr.out.block _ AG.out.lt)).get (i := 1) rfl
         rw [BO] at c1
         have Cq := hide HG.out.three
         have HNs : Hid (Nx W.heap.size q rl tm rv fm fa ra ba fc rc bc T n (bI T F) H vs wr2) := hide HN.out
         have HBs := hide HBr.out
         clear HN HBr HG Aq hk
         go_wp2_with fail
         clear c1
         go_loopw [88] (fun x wr => ∃ (k : Nat) (H : Nat → List (List Int)) (vs : Nat → List Value), k ≤ n ∧ x = .int .i64 k ∧ Hid (G3 T n k 0 H) ∧ Hid (Nx W.heap.size q rl tm rv fm fa ra ba fc rc bc T n (bI T F) H vs wr) ∧ Hid (Below W.heap.size W wr)) (fun x _ => n - (intOf x).toNat)
         case atStart => exact ⟨0, _, _, by omega, rfl, Cq, HNs, HBs⟩
         case round =>
          clear HNs HBs Cq
          rename World => wr3
          obtain ⟨k, H, vs, hk, rfl, HG, HN, HBr⟩ := hrel
          by_cases Aq : k < n
          · obtain ⟨l, hl⟩ := am (l := T.foes) (i := k) (by omega)
            have er : row T.foes (k : Int) = l := bn (by rw [Int.toNat_natCast]; exact hl)
            have Cc := hide er
            have Dn : Hid (∀ x ∈ l, ze n x) := hide fun x hx => HP.out.foe k Aq x (by rw [er]; exact hx)
            have EG : l.length ≤ 64 := by rw [← er]; exact (xO HP.out Aq).2
            have hR := TR.keep HBr.out.block BC.out
            obtain ⟨gf, of, la, lc, rfl, DD, cf, -, -, hI⟩ := bH hR.foes hl
            have DB : Hid (∀ X, Below W.heap.size W X → At1 X la (aq l)) := hide fun X hX => by
             have h2 := TR.keep hX.block BC.out
             obtain ⟨g3, o3, a3, c3, e3, CJ, Do, -, -, Dl⟩ := bH h2.foes hl
             cases e3
             have e4 : wr3.cell? ⟨gf, of + k, none⟩ = X.cell? ⟨gf, of + k, none⟩ := (World.cell?_of_block (HBr.out.block gf CJ)).trans (World.cell?_of_block (hX.block gf CJ)).symm
             rw [cf, Do] at e4
             cases e4
             exact Dl.at1
            clear hl er hR hI DD
            go_wp2_with fail
            clear cf
            have HGs := hide HG.out
            have HNs := hide HN.out
            have HBs := hide HBr.out
            clear HG HN HBr
            have HL := hide Aq
            go_loopw [95] (fun x wr => ∃ (j : Nat) (H : Nat → List (List Int)) (vs : Nat → List Value), j ≤ l.length ∧ x = .int .i64 j ∧ Hid (G3 T n k j H) ∧ Hid (Nx W.heap.size q rl tm rv fm (some ⟨gf, of, none⟩) ra ba fc rc bc T n (bI T F) H vs wr) ∧ Hid (Below W.heap.size W wr)) (fun x _ => l.length - (intOf x).toNat)
            case atStart => exact ⟨0, _, _, by omega, rfl, HGs, HNs, HBs⟩
            case round =>
             clear HNs HBs HGs
             rename World => wr4
             obtain ⟨j, H, vs, hj, rfl, HG, HN, HBr⟩ := hrel
             by_cases hjl : j < l.length
             · obtain ⟨Dj, Bv⟩ := am hjl
               obtain ⟨CF, Dp⟩ := Dn.out Dj (List.mem_of_getElem? Bv)
               obtain ⟨fo, rfl⟩ := Int.eq_ofNat_of_zero_le CF
               have Cb : fo < n := by omega
               obtain ⟨gx, ox, rfl, cx⟩ := (DB.out wr4 HBr.out).get Bv
               have c5 := HN.out.bx.get (i := 5) rfl
               obtain ⟨lt, Dx, Dc, AZ, BD, AQ, AK⟩ := HN.out.h3.at (c := 1) (by omega) Cb
               have AQ : wr4.cell? ⟨tm, fo, none⟩ = some (.slice Dx lt.length Dc) := AQ
               have Bw : Hid (lt = ag T kT fo) := hide (by have := HG.out.t fo Cb; rw [iK AZ] at this; exact this)
               have CO : lt.length ≤ 4096 := by rw [Bw.out]; exact Nat.le_trans bh (by omega)
               have CC := hide Bv
               clear Bv CF Dp AZ BD AK
               by_cases hlen : 0 < lt.length
               · have Cs : decide (0 < (lt.length : Int)) = true := decide_eq_true (by omega)
                 have BP : Hid (ag T kT fo ≠ []) := hide (by rw [← Bw.out]; intro e; rw [e] at hlen; simp at hlen)
                 have As : k < n := HL.out
                 have Bf : Hid (∀ (c i : Nat) (l : List Int), c < 3 → (H c)[i]? = some l → l.length ≤ 4096) := hide fun c i l2 hc hl2 => by
                  have AX : i < n := by rw [← HG.out.ln c hc]; exact (List.getElem?_eq_some_iff.1 hl2).1
                  have e : l2 = (H c).getD i [] := by rw [List.getD_eq_getElem?_getD, hl2]; rfl
                  rw [e]
                  rcases (show c = 0 ∨ c = 1 ∨ c = 2 by omega) with rfl | rfl | rfl
                  · rw [HG.out.a i AX]; exact Nat.le_trans bh (by omega)
                  · rw [HG.out.t i AX]; exact Nat.le_trans bh (by omega)
                  · exact HG.out.len64 HP.out i AX
                 have HQ : Hid (Fx bq 25 [.int .i64 T.lits, .slice (some ⟨gf, of, none⟩) T.foes.length fc, .slice ra T.rules.length rc, .slice ba T.beats.length bc] wr4) := hide (AG.out.keep (HBr.out.block _ AG.out.lt))
                 have HBq := hide HBr.out
                 have CK : decide (0 < lt.length) = true := decide_eq_true hlen
                 clear HBr Bw CO
                 go_upto_region 23 with fail
                 clear c5 AQ cx Cs CK hlen
                 have Bb := (Below.refl wr4.heap.size wr4).drew
                 have HNd2 := hide (HN.out.go Bb)
                 have HQd2 := hide (HQ.out.keep (Bb.block _ HQ.out.lt))
                 have HBd2 := hide (HBq.out.trans (Bb.mono HBq.out.size))
                 obtain ⟨wd, Aw⟩ : ∃ wd, wr4.drew = wd := ⟨_, rfl⟩
                 rw [Aw] at HNd2 HQd2 HBd2
                 obtain ⟨l2, AB, AA, Cl, CA, BH, AW⟩ := HNd2.out.h3.at (c := 2) (by omega) (show k < n from As)
                 have BH : wd.cell? ⟨rv, k, none⟩ = some (.slice AB l2.length AA) := BH
                 have DP : l2.length ≤ 4096 := Bf.out 2 _ _ (by omega) Cl
                 have Bh := ae wd (.cells #[.int .i64 fo] 3)
                 have BZ : W.heap.size ≤ wd.heap.size := HBd2.out.size
                 obtain ⟨AM, At, w2, AR, BE, Ak, Cf, CS⟩ := run_append_lies (P := Tryz.prog) (wd.alloc (.cells #[.int .i64 fo] 3)) 26 26 W.heap.size 3 iI _ 1 8 Tryz.underlying26 Cn Cj Ci BM rfl (by decide) (.slice AB l2.length AA) l2.length (aq l2) (owns_keep AW fun g hg => Bh.block g (ax AW hg)) ⟨wd.heap.size, 0, none⟩ 1 1 [.int .i64 fo] rfl (World.news_of_block (cs := [.int .i64 fo].toArray) (t := 3) (fr := (0, 0)) (heap_alloc_new wd (.cells #[.int .i64 fo] 3))) (by simp [Value.oneCell']) (by decide) (by unfold maxLen; omega) (by omega) (by simp; omega) (wd.heap.size + 1) (by simp)
                 have AO := hide AR
                 have AL : ∀ k, k < wd.heap.size → Value.ownBlock (.slice AB l2.length AA) ≠ some k → w2.heap[k]? = wd.heap[k]? := fun k hk hn => (Ak.block k (by simp; omega) fun e => hn e.symm).trans (Bh.block k hk)
                 have Br := au AW (HNd2.out.h3.fx 2 (by omega)) (by decide)
                 have BK := au AW HQd2.out (by decide)
                 have BR := au AW HNd2.out.bx (by decide)
                 obtain ⟨w3, Ai⟩ : ∃ w3, w2.setCell ⟨rv, k, none⟩ (.slice (some ⟨AM, 0, none⟩) (l2.length + 1) At) = w3 := ⟨_, rfl⟩
                 have AN := hide Ai
                 have HN2a : Hid (Nx W.heap.size q rl tm rv fm (some ⟨gf, of, none⟩) ra ba fc rc bc T n (bI T F) (up H 2 ((H 2).set k (l2 ++ [(fo : Int)]))) (up vs 2 ((vs 2).set k (.slice (some ⟨AM, 0, none⟩) (l2.length + 1) At))) w3) := hide (by rw [← Ai]; exact HNd2.out.add (c := 2) (by omega) Cl CA BE AL (by rcases Cf with h | h; exact .inl h; exact .inr (by omega)))
                 have AY : Hid (Fx bq 25 [.int .i64 T.lits, .slice (some ⟨gf, of, none⟩) T.foes.length fc, .slice ra T.rules.length rc, .slice ba T.beats.length bc] w3) := hide (by rw [← Ai]; exact (HQd2.out.keep (AL _ HQd2.out.lt BK)).keep (other_set (an HQd2.out (HNd2.out.h3.fx 2 (by omega)) (by decide))))
                 have AS : Hid (Below W.heap.size W w3) := hide (by rw [← Ai]; exact (HBd2.out.trans (show Below W.heap.size wd w2 from (Bh.mono BZ).trans ⟨Ak.os, Ak.tape, Ak.output, Ak.size, fun k hk => Ak.block k (by simp; omega) fun e => by have := (AW.lt k e.symm).1; omega⟩)).setCell (p := ⟨rv, k, none⟩) (HNd2.out.h3.lo 2 (by omega)) (.slice (some ⟨AM, 0, none⟩) (l2.length + 1) At))
                 have Ck : ∀ {a : Addr} {v : Value}, wd.cell? a = some v → Value.ownBlock (.slice AB l2.length AA) ≠ some a.block → ∀ X, X = wd ∨ X = wd.alloc (.cells #[.int .i64 fo] 3) ∨ X = w2 → X.cell? a = some v := fun ha hn X hX => by
                  have Aq := World.block_lt_of_cell? wd _ ha
                  rcases hX with rfl | rfl | rfl
                  · exact ha
                  · exact ar ha Bh
                  · exact (World.cell?_of_block (AL _ Aq hn)).trans ha
                 have LH := hide (Ck (HNd2.out.bx.get (i := 6) (v := sl rv n) rfl) BR)
                 have LR := hide (Ck BH Br)
                 have q1 : w2.cell? ⟨rv, k, none⟩ = some (.slice AB l2.length AA) := LR.out w2 (.inr (.inr rfl))
                 have q2 : w2.frozen? ⟨rv, k, none⟩ = false := ((HNd2.out.h3.fx 2 (by omega)).keep (AL _ (HNd2.out.h3.fx 2 (by omega)).lt Br)).frz k
                 have Af : Hid (fZ ([some (106, .pointer (some ⟨q, 6, none⟩)), some (107, sl rv n), some (108, .int .i64 k), some (109, .pointer (some ⟨q, 6, none⟩)), some (110, sl rv n), some (111, .int .i64 k), some (112, .pointer (some ⟨rv, k, none⟩)), some (113, .slice AB l2.length AA), some (114, .int .i64 fo), some (115, .slice (some ⟨wd.heap.size, 0, none⟩) 1 1), some (116, .slice (some ⟨AM, 0, none⟩) (l2.length + 1) At), some (117, .pointer (some ⟨rv, k, none⟩)), none].map fun p : Option (Nat × Value) => p.map Prod.fst) [(5, aa q), (10, .int .i64 k), (13, .int .i64 fo)] = true) := hide rfl
                 clear HN HQ HBq BH Ak BE AR BK BR Br CA Cf CS Ck AL Bh AW HNd2 HQd2 HBd2 BZ Bb Ai
                 refine bV fW (Jt [some (106, .pointer (some ⟨q, 6, none⟩)), some (107, sl rv n), some (108, .int .i64 k), some (109, .pointer (some ⟨q, 6, none⟩)), some (110, sl rv n), some (111, .int .i64 k), some (112, .pointer (some ⟨rv, k, none⟩)), some (113, .slice AB l2.length AA), some (114, .int .i64 fo), some (115, .slice (some ⟨wd.heap.size, 0, none⟩) 1 1), some (116, .slice (some ⟨AM, 0, none⟩) (l2.length + 1) At), some (117, .pointer (some ⟨rv, k, none⟩)), none] [(5, aa q), (10, .int .i64 k), (13, .int .i64 fo)] (fG 9 10 12 wd (wd.alloc (.cells #[.int .i64 fo] 3)) w2 w3)) (by kernel_rfl) (by kernel_rfl) ?_ (ci ⟨?_, ?_, ?_, ?_, ?_, ?_, ?_, ?_, ?_, ?_, ?_, ?_, ?_, trivial⟩) ?_ ?_
                 · exact ⟨fun p hp => by simp at hp; rcases hp with rfl | rfl | rfl <;> rfl, fun i d v _ hL => (by cases hL), Aw⟩
                 · intro ρ X L hc hf hL hd Aa hJ
                   have k5 : ρ (.tmp 5) = aa q := hJ.base (5, aa q) (by simp)
                   refine ac (v := .pointer (some ⟨q, 6, none⟩)) (w' := X) ?_ (hJ.put Af.out rfl (by rw [ap (by decide) (by decide) (by decide)]; exact hJ.wd))
                   clear hd Aa hJ hL
                   go_simp
                 · intro ρ X L hc hf hL hd Aa hJ
                   have DO : ρ (.tmp 106) = .pointer (some ⟨q, 6, none⟩) := hJ.vals 0 106 (.pointer (some ⟨q, 6, none⟩)) rfl (hd ⟨0, .data⟩ (by simp) rfl)
                   have Ac : L 12 = false := ak (by kernel_rfl) Aa (k := 1) (by simp) hL
                   have hx := LH.out X (aZ hJ.wd Ac)
                   clear Ac
                   refine ac (v := sl rv n) (w' := X) ?_ (hJ.put Af.out rfl (by rw [ap (by decide) (by decide) (by decide)]; exact hJ.wd))
                   clear hd Aa hJ hL
                   go_simp
                 · intro ρ X L hc hf hL hd Aa hJ
                   have Du : ρ (.tmp 10) = .int .i64 k := hJ.base (10, .int .i64 k) (by simp)
                   refine ac (v := .int .i64 k) (w' := X) ?_ (hJ.put Af.out rfl (by rw [ap (by decide) (by decide) (by decide)]; exact hJ.wd))
                   clear hd Aa hJ hL
                   go_simp
                 · intro ρ X L hc hf hL hd Aa hJ
                   have k5 : ρ (.tmp 5) = aa q := hJ.base (5, aa q) (by simp)
                   refine ac (v := .pointer (some ⟨q, 6, none⟩)) (w' := X) ?_ (hJ.put Af.out rfl (by rw [ap (by decide) (by decide) (by decide)]; exact hJ.wd))
                   clear hd Aa hJ hL
                   go_simp
                 · intro ρ X L hc hf hL hd Aa hJ
                   have DR : ρ (.tmp 109) = .pointer (some ⟨q, 6, none⟩) := hJ.vals 3 109 (.pointer (some ⟨q, 6, none⟩)) rfl (hd ⟨3, .data⟩ (by simp) rfl)
                   have Ac : L 12 = false := ak (by kernel_rfl) Aa (k := 4) (by simp) hL
                   have hx := LH.out X (aZ hJ.wd Ac)
                   clear Ac
                   refine ac (v := sl rv n) (w' := X) ?_ (hJ.put Af.out rfl (by rw [ap (by decide) (by decide) (by decide)]; exact hJ.wd))
                   clear hd Aa hJ hL
                   go_simp
                 · intro ρ X L hc hf hL hd Aa hJ
                   have Du : ρ (.tmp 10) = .int .i64 k := hJ.base (10, .int .i64 k) (by simp)
                   refine ac (v := .int .i64 k) (w' := X) ?_ (hJ.put Af.out rfl (by rw [ap (by decide) (by decide) (by decide)]; exact hJ.wd))
                   clear hd Aa hJ hL
                   go_simp
                 · intro ρ X L hc hf hL hd Aa hJ
                   have DL : ρ (.tmp 110) = sl rv n := hJ.vals 4 110 (sl rv n) rfl (hd ⟨4, .data⟩ (by simp) rfl)
                   have DU : ρ (.tmp 111) = .int .i64 k := hJ.vals 5 111 (.int .i64 k) rfl (hd ⟨5, .data⟩ (by simp) rfl)
                   refine ac (v := .pointer (some ⟨rv, k, none⟩)) (w' := X) ?_ (hJ.put Af.out rfl (by rw [ap (by decide) (by decide) (by decide)]; exact hJ.wd))
                   clear hd Aa hJ hL
                   go_simp
                 · intro ρ X L hc hf hL hd Aa hJ
                   have DK : ρ (.tmp 112) = .pointer (some ⟨rv, k, none⟩) := hJ.vals 6 112 (.pointer (some ⟨rv, k, none⟩)) rfl (hd ⟨6, .data⟩ (by simp) rfl)
                   have Ac : L 12 = false := ak (by kernel_rfl) Aa (k := 7) (by simp) hL
                   have hx := LR.out X (aZ hJ.wd Ac)
                   clear Ac
                   refine ac (v := .slice AB l2.length AA) (w' := X) ?_ (hJ.put Af.out rfl (by rw [ap (by decide) (by decide) (by decide)]; exact hJ.wd))
                   clear hd Aa hJ hL
                   go_simp
                 · intro ρ X L hc hf hL hd Aa hJ
                   have EO : ρ (.tmp 13) = .int .i64 fo := hJ.base (13, .int .i64 fo) (by simp)
                   refine ac (v := .int .i64 fo) (w' := X) ?_ (hJ.put Af.out rfl (by rw [ap (by decide) (by decide) (by decide)]; exact hJ.wd))
                   clear hd Aa hJ hL
                   go_simp
                 · intro ρ X L hc hf hL hd Aa hJ
                   have DN : ρ (.tmp 114) = .int .i64 fo := hJ.vals 8 114 (.int .i64 fo) rfl (hd ⟨8, .data⟩ (by simp) rfl)
                   have Ah : L 10 = false := by cases e : L 10 with | false => rfl | true => (have := Aa 10 _ rfl e ⟨9, .data⟩ (by simp) rfl; rw [show (⟨9, .data⟩ : Edge).on = 9 from rfl] at this; rw [hL] at this; cases this)
                   have Ac : L 12 = false := ak (by kernel_rfl) Aa (k := 9) (by simp) hL
                   have hX := hJ.wd.trans (j4 hL Ah Ac)
                   refine ac (v := .slice (some ⟨wd.heap.size, 0, none⟩) 1 1) (w' := wd.alloc (.cells #[.int .i64 fo] 3)) ?_ (hJ.put Af.out rfl ((eC aG (by rw [al (by decide)]; exact Ah) (by rw [al (by decide)]; exact Ac)).symm))
                   subst hX
                   clear hd Aa hJ hL Ah Ac
                   go_simp
                 · intro ρ X L hc hf hL hd Aa hJ
                   have CP : ρ (.tmp 113) = .slice AB l2.length AA := hJ.vals 7 113 (.slice AB l2.length AA) rfl (hd ⟨7, .data⟩ (by simp) rfl)
                   have CM : ρ (.tmp 115) = .slice (some ⟨wd.heap.size, 0, none⟩) 1 1 := hJ.vals 9 115 (.slice (some ⟨wd.heap.size, 0, none⟩) 1 1) rfl (hd ⟨9, .data⟩ (by simp) rfl)
                   have Bo : L 9 = true := hd ⟨9, .data⟩ (by simp) rfl
                   have Ac : L 12 = false := ak (by kernel_rfl) Aa (k := 10) (by simp) hL
                   have hX := hJ.wd.trans (eC Bo hL Ac)
                   refine eV _ _ 26 rfl CP CM (u := .slice (some ⟨AM, 0, none⟩) (l2.length + 1) At) (w' := w2) (by rw [hX]; exact AO.out) (hJ.put Af.out rfl ((eF aG (by rw [al (by decide)]; exact Ac)).symm))
                 · intro ρ X L hc hf hL hd Aa hJ
                   have DV : ρ (.tmp 107) = sl rv n := hJ.vals 1 107 (sl rv n) rfl (hd ⟨1, .data⟩ (by simp) rfl)
                   have DM : ρ (.tmp 108) = .int .i64 k := hJ.vals 2 108 (.int .i64 k) rfl (hd ⟨2, .data⟩ (by simp) rfl)
                   refine ac (v := .pointer (some ⟨rv, k, none⟩)) (w' := X) ?_ (hJ.put Af.out rfl (by rw [ap (by decide) (by decide) (by decide)]; exact hJ.wd))
                   clear hd Aa hJ hL
                   go_simp
                 · intro ρ X L hc hf hL hd Aa hJ
                   have DS : ρ (.tmp 117) = .pointer (some ⟨rv, k, none⟩) := hJ.vals 11 117 (.pointer (some ⟨rv, k, none⟩)) rfl (hd ⟨11, .data⟩ (by simp) rfl)
                   have DT : ρ (.tmp 116) = .slice (some ⟨AM, 0, none⟩) (l2.length + 1) At := hJ.vals 10 116 (.slice (some ⟨AM, 0, none⟩) (l2.length + 1) At) rfl (hd ⟨10, .data⟩ (by simp) rfl)
                   have Ah : L 10 = true := hd ⟨10, .data⟩ (by simp) rfl
                   have hX := hJ.wd.trans (eF Ah hL)
                   refine bX (w' := w3) ?_ (hJ.last rfl ((eD aG).symm))
                   subst hX
                   clear hd Aa hJ hL Ah
                   rw [← AN.out]
                   go_simp
                 · intro c a' w' _ hE
                   exact hE.elim
                 · rintro ⟨Ad, df⟩ w' Ao Ax ⟨L, hL, hJ⟩ Al
                   simp only at Ax Ao
                   subst Ax
                   have Bn : w3 = w' := (hJ.wd.trans (eD (hL 12 (by decide)))).symm
                   subst Bn
                   have Am := dC 106 117 (by kernel_rfl) Ao Al
                   simp only [zr, Nat.reduceLT, Nat.reduceAdd, true_or, or_true, or_self, if_true, if_false] at Am
                   rw [Am]
                   clear Am hJ hL Al Ao Af AO AN LH LR q1 q2 Aw
                   generalize Ad.getD 106 undef = x106
                   generalize Ad.getD 107 undef = x107
                   generalize Ad.getD 108 undef = x108
                   generalize Ad.getD 109 undef = x109
                   generalize Ad.getD 110 undef = x110
                   generalize Ad.getD 111 undef = x111
                   generalize Ad.getD 112 undef = x112
                   generalize Ad.getD 113 undef = x113
                   generalize Ad.getD 114 undef = x114
                   generalize Ad.getD 115 undef = x115
                   generalize Ad.getD 116 undef = x116
                   generalize Ad.getD 117 undef = x117
                   have AF := hide (HG.out.add Cc.out CC.out BP.out As Cl)
                   go_wp2_with fail
                   go_roundw
                   case rel => exact ⟨j + 1, _, _, by omega, by go_num, AF, HN2a, AS⟩
                   case measure => simp [intOf]; omega
               · have Cs : decide (0 < (lt.length : Int)) = false := decide_eq_false (by omega)
                 have BP : Hid (ag T kT fo = []) := hide (by rw [← Bw.out]; exact List.eq_nil_of_length_eq_zero (by omega))
                 have AF := hide (HG.out.skip Cc.out CC.out BP.out)
                 have CK : decide (0 < lt.length) = false := decide_eq_false hlen
                 go_wp2_with fail
                 go_roundw
                 case rel => exact ⟨j + 1, _, _, by omega, by go_num, AF, HN, HBr⟩
                 case measure => simp [intOf]; omega
             · have AF := hide (HG.out.next Cc.out (by omega))
               go_wp2_with fail
               go_roundw
               case rel => exact ⟨k + 1, _, _, by omega, by go_num, AF, HN, HBr⟩
               case measure => simp [intOf]; omega
          · have DG : k = n := by omega
            subst DG
            have c0 := HN.out.bx.get (i := 0) rfl
            have c1 := HN.out.bx.get (i := 1) rfl
            have c2 := HN.out.bx.get (i := 2) rfl
            have c3 := HN.out.bx.get (i := 3) rfl
            have c4 := HN.out.bx.get (i := 4) rfl
            have c5 := HN.out.bx.get (i := 5) rfl
            have c6 := HN.out.bx.get (i := 6) rfl
            have c7 := HN.out.bx.get (i := 7) rfl
            have HX2r := hide (Bl.out.keep (HBr.out.block _ Bl.out.lt))
            have EF : bq + 1 < W.heap.size := Bl.out.lt
            have Dd : Hid (∀ z : Nat, z < k → (H 0).getD z [] = ag T kA z ∧ (H 1).getD z [] = ag T kT z ∧ (H 2).getD z [] = ao T z) := hide fun z hz => ⟨HG.out.a z hz, HG.out.t z hz, by rw [HG.out.v z hz, if_pos hz]⟩
            clear HG AG BC
            go_upto_region 26 with fail
            refine wp_region_lit ?_
            refine wpList_plain rfl fun K hK => ?_
            go_simp
            refine hK _ _ ?_
            clear hK
            refine wpList_plain rfl fun K hK => ?_
            refine wp_store_row 176 _ _ rfl (bq + 1) _ rfl rfl _ _ HX2r.out (by kernel_rfl) rfl (by simp [sl, Value.oneCell']) ?_
            refine hK _ _ ?_
            clear hK
            have Bg := hide (setRow_heap wr3 (bq + 1) _ #[.int .i64 T.lits, .slice fa k fc, .slice ra T.rules.length rc, .slice ba T.beats.length bc, sl rl k, sl tm k, sl rv k, sl fm k] _ _ HX2r.out)
            have DH := hide (HN.out.far (w' := wr3.setRow (bq + 1) #[.int .i64 T.lits, .slice fa k fc, .slice ra T.rules.length rc, .slice ba T.beats.length bc, sl rl k, sl tm k, sl rv k, sl fm k]) (fun g hg _ => setRow_other _ _ _ _ (by omega)) HB.out.size)
            have De := hide (kM (b := bq + 1) (HB.out.trans (HBr.out.mono HB.out.size)) (by rw [Dk.out]; omega) #[.int .i64 T.lits, .slice fa k fc, .slice ra T.rules.length rc, .slice ba T.beats.length bc, sl rl k, sl tm k, sl rv k, sl fm k])
            generalize wr3.setRow (bq + 1) #[.int .i64 T.lits, .slice fa k fc, .slice ra T.rules.length rc, .slice ba T.beats.length bc, sl rl k, sl tm k, sl rv k, sl fm k] = Y at *
            clear HN HBr c0 c1 c2 c3 c4 c5 c6 c7 HX2r Bl
            go_wp2_with fail
            have BO : T.foes.length = k := by first | assumption | exact HP.out.fl | omega
            refine bodyPost_ret (v := .agg #[.int .i64 T.lits, .slice fa k fc, .slice ra T.rules.length rc, .slice ba T.beats.length bc, sl rl k, sl tm k, sl rv k, sl fm k]) (yK rfl Bg.out) rfl ?_
            exact ⟨q, rl, tm, rv, fm, vs, H, by rw [← BO], DH.out, Dd.out, De.out⟩
end Go.Proofs.YtmlhcncagdfjfaaGreat.Fa
