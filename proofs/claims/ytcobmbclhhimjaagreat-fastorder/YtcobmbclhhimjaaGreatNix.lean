/- newIndex. (tools/gen16/nix.py wrote this.) -/
import Derived.Test.YtcobmbclhhimjaaGreatFrs
import Derived.Test.YtcobmbclhhimjaaGreatFs6
import Derived.Test.YtcobmbclhhimjaaGreatFs4
namespace Go.Proofs.YtcobmbclhhimjaaGreat.Fa
open Go.RowKit Rg

def NoE (_ : List PanicEntry) (_ : World) : Prop := False
def sb3 (rl tm rv : Nat) (c : Nat) : Nat := if c = 0 then rl else if c = 1 then tm else rv
abbrev ixL (T : Th) (fa ra ba : Option Addr) (fc rc bc rl tm rv fm n : Nat) : List Value := [.int .i64 T.lits, .slice fa T.foes.length fc, .slice ra T.rules.length rc, .slice ba T.beats.length bc, sl rl n, sl tm n, sl rv n, sl fm n]
/-- What newIndex makes. -/
structure Nx (base q rl tm rv fm : Nat) (fa ra ba : Option Addr) (fc rc bc : Nat) (T : Th) (n : Nat) (f : Int → Bool) (H : Nat → List (List Int)) (vs : Nat → List Value) (w : World) : Prop where
  bx : Fx q 69 (ixL T fa ra ba fc rc bc rl tm rv fm n) w
  ff : Fx fm 4 (rowB n f) w
  h3 : H3 base (sb3 rl tm rv) n H vs w
  lo : base ≤ q ∧ base ≤ fm
section
variable {base q rl tm rv fm fc rc bc n : Nat} {fa ra ba : Option Addr} {T : Th} {f : Int → Bool} {H : Nat → List (List Int)} {vs : Nat → List Value} {w w' : World}
theorem Nx.go (h : Nx base q rl tm rv fm fa ra ba fc rc bc T n f H vs w) (hb : Below w.heap.size w w') : Nx base q rl tm rv fm fa ra ba fc rc bc T n f H vs w' := ⟨h.bx.keep (hb.block _ h.bx.lt), h.ff.keep (hb.block _ h.ff.lt), h.h3.go hb, h.lo⟩
theorem Nx.setF (h : Nx base q rl tm rv fm fa ra ba fc rc bc T n f H vs w) {i : Nat} (hi : i < n) : Nx base q rl tm rv fm fa ra ba fc rc bc T n (upd f i true) H vs (w.setCell ⟨fm, i, none⟩ (.bool true)) :=
  ⟨h.bx.keep (other_set (fx_ne h.bx h.ff (by decide))), by have := h.ff.set i (.bool true); rw [rowB_set hi] at this; exact this, h.h3.set h.ff (by decide) (by decide), h.lo⟩
theorem Nx.add (h : Nx base q rl tm rv fm fa ra ba fc rc bc T n f H vs w) {c i : Nat} (hc : c < 3) {l : List Int} {v : Value} (hi : (H c)[i]? = some l) (hv : (vs c)[i]? = some v) {x : Int} {g4 cap4 : Nat} (hnew : w'.ownsRow base 3 1 (.slice (some ⟨g4, 0, none⟩) (l.length + 1) cap4) (l.length + 1) (ints l ++ [.int .i64 x]))
    (hold : ∀ k, k < w.heap.size → v.ownBlock ≠ some k → w'.heap[k]? = w.heap[k]?) (hg : v.ownBlock = some g4 ∨ w.heap.size ≤ g4) :
    Nx base q rl tm rv fm fa ra ba fc rc bc T n f (up H c ((H c).set i (l ++ [x]))) (up vs c ((vs c).set i (.slice (some ⟨g4, 0, none⟩) (l.length + 1) cap4))) (w'.setCell ⟨sb3 rl tm rv c, i, none⟩ (.slice (some ⟨g4, 0, none⟩) (l.length + 1) cap4)) := by
  have hov := h.h3.own c i l v hc hi hv
  exact ⟨(h.bx.keep (hold _ h.bx.lt (own_fx hov h.bx (by decide)))).keep (other_set (fx_ne h.bx (h.h3.fx c hc) (by decide))), (h.ff.keep (hold _ h.ff.lt (own_fx hov h.ff (by decide)))).keep (other_set (fx_ne h.ff (h.h3.fx c hc) (by decide))), h.h3.add hc hi hv hnew hold hg, h.lo⟩
end
theorem Nx.far {base base' q rl tm rv fm fc rc bc n : Nat} {fa ra ba : Option Addr} {T : Th} {f : Int → Bool} {H : Nat → List (List Int)} {vs : Nat → List Value} {w w' : World} (h : Nx base q rl tm rv fm fa ra ba fc rc bc T n f H vs w) (hk : ∀ g, base ≤ g → g < w.heap.size → w'.heap[g]? = w.heap[g]?) (hb : base' ≤ base) : Nx base' q rl tm rv fm fa ra ba fc rc bc T n f H vs w' :=
  ⟨h.bx.keep (hk _ h.lo.1 h.bx.lt), h.ff.keep (hk _ h.lo.2 h.ff.lt), ⟨h.h3.ln, h.h3.vl, fun c hc => (h.h3.fx c hc).keep (hk _ (h.h3.lo c hc) (h.h3.fx c hc).lt), fun c hc => Nat.le_trans hb (h.h3.lo c hc), h.h3.ne, fun c i l v hc h1 h2 => owns_down (owns_keep (h.h3.own c i l v hc h1 h2) fun g hg => hk g ((h.h3.own c i l v hc h1 h2).lt g hg).1 ((h.h3.own c i l v hc h1 h2).lt g hg).2) hb, h.h3.apart⟩, Nat.le_trans hb h.lo.1, Nat.le_trans hb h.lo.2⟩
theorem below_setRow {a w : World} {B b : Nat} (h : Below B a w) (hb : B ≤ b) (cs : Array Value) : Below B a (w.setRow b cs) := h.trans ⟨rfl, rfl, rfl, by simp, fun k hk => setRow_other _ _ _ _ (by omega)⟩
theorem h3_start {base n rl tm rv : Nat} {w : World} (h1 : Fx rl 26 (List.replicate n (.slice none 0 0)) w) (h2 : Fx tm 26 (List.replicate n (.slice none 0 0)) w) (h3 : Fx rv 26 (List.replicate n (.slice none 0 0)) w) (lo : base ≤ rl ∧ base ≤ tm ∧ base ≤ rv) (hd : rl ≠ tm ∧ rl ≠ rv ∧ tm ≠ rv) :
    H3 base (sb3 rl tm rv) n (fun _ => List.replicate n []) (fun _ => List.replicate n (.slice none 0 0)) w := by
  have three : ∀ {P : Nat → Prop}, P 0 → P 1 → P 2 → ∀ c, c < 3 → P c := fun a b d c hc => by
    rcases (show c = 0 ∨ c = 1 ∨ c = 2 by omega) with rfl | rfl | rfl
    · exact a
    · exact b
    · exact d
  refine ⟨fun c _ => by simp, fun c _ => by simp, three h1 h2 h3, three lo.1 lo.2.1 lo.2.2, ?_, fun c i l v _ a b => ?_, fun c d i j v u g _ _ a b e => ?_⟩
  · intro c d hc hd' hne
    rcases (show c = 0 ∨ c = 1 ∨ c = 2 by omega) with rfl | rfl | rfl <;> rcases (show d = 0 ∨ d = 1 ∨ d = 2 by omega) with rfl | rfl | rfl <;> first | exact absurd rfl hne | exact hd.1 | exact hd.2.1 | exact hd.2.2 | exact Ne.symm hd.1 | exact Ne.symm hd.2.1 | exact Ne.symm hd.2.2
  · rw [List.getElem?_replicate] at a b
    split at a
    · rename_i hi
      rw [if_pos hi] at b
      cases a
      cases b
      exact ⟨rfl, .inl ⟨rfl, rfl⟩⟩
    · cases a
  · rw [List.getElem?_replicate] at a
    split at a
    · cases a; cases e
    · cases a
/-- What each part of the literal comes to. -/
def prX (T : Th) (fa ra ba : Option Addr) (fc rc bc bq n N : Nat) (i : Nat) (v : Value) (W : World) (lo hi : Nat) : Prop := match i with
  | 0 => v = .agg #[.int .i64 T.lits, .slice fa T.foes.length fc, .slice ra T.rules.length rc, .slice ba T.beats.length bc]
  | 1 | 4 | 7 | 10 => v = ptr bq
  | 2 | 5 | 8 | 11 => v = .int .i64 T.lits
  | 3 | 6 | 9 => ∃ g, v = sl g n ∧ Fx g 26 (List.replicate n (.slice none 0 0)) W ∧ lo ≤ g ∧ g < hi ∧ N ≤ g
  | 12 => ∃ g, v = sl g n ∧ Fx g 4 (rowB n fun _ => false) W ∧ lo ≤ g ∧ g < hi ∧ N ≤ g
  | 13 => ∃ g0 g1 g2 g3, v = .agg #[.int .i64 T.lits, .slice fa T.foes.length fc, .slice ra T.rules.length rc, .slice ba T.beats.length bc, sl g0 n, sl g1 n, sl g2 n, sl g3 n] ∧ Fx g0 26 (List.replicate n (.slice none 0 0)) W ∧ Fx g1 26 (List.replicate n (.slice none 0 0)) W ∧ Fx g2 26 (List.replicate n (.slice none 0 0)) W ∧ Fx g3 4 (rowB n fun _ => false) W ∧ (N ≤ g0 ∧ N ≤ g1 ∧ N ≤ g2 ∧ N ≤ g3) ∧ g0 ≠ g1 ∧ g0 ≠ g2 ∧ g1 ≠ g2
  | 14 => ∃ g xs, v = ptr g ∧ Fx g 69 xs W ∧ xs.length = 8 ∧ N ≤ g
  | _ => True
theorem prX_go {T : Th} {fa ra ba : Option Addr} {fc rc bc bq n N : Nat} : ∀ i v W W' lo hi, prX T fa ra ba fc rc bc bq n N i v W lo hi → hi ≤ W.heap.size → Below W.heap.size W W' → prX T fa ra ba fc rc bc bq n N i v W' lo hi := by
  intro i v W W' lo hi h hh hb
  have k : ∀ {g t : Nat} {xs : List Value}, Fx g t xs W → Fx g t xs W' := fun hf => hf.keep (hb.block _ hf.lt)
  unfold prX at *
  split at h
  all_goals first
    | exact h
    | (obtain ⟨g, a, b, c⟩ := h; exact ⟨g, a, k b, c⟩)
    | (obtain ⟨g0, g1, g2, g3, a, b, c, d, e, f⟩ := h; exact ⟨g0, g1, g2, g3, a, k b, k c, k d, k e, f⟩)
    | (obtain ⟨g, xs, a, b, c⟩ := h; exact ⟨g, xs, a, k b, c⟩)
    | trivial
def finX (T : Th) (fa ra ba : Option Addr) (fc rc bc n : Nat) (W0 : World) (σ : Nat → Value) (W : World) : Prop := ∃ q rl tm rv fm, σ 5 = ptr q ∧ Nx W0.heap.size q rl tm rv fm fa ra ba fc rc bc T n (fun _ => false) (fun _ => List.replicate n []) (fun _ => List.replicate n (.slice none 0 0)) W ∧ Below W0.heap.size W0 W
theorem getD_up {H : Nat → List (List Int)} {c d i z : Nat} {y : List Int} (hl : i < (H c).length) : (up H c ((H c).set i y) d).getD z [] = if d = c ∧ z = i then y else (H d).getD z [] := by
  by_cases e : d = c
  · subst e
    rw [up_at, getD_set hl]
    by_cases e2 : z = i
    · rw [if_pos e2, if_pos ⟨rfl, e2⟩]
    · rw [if_neg e2, if_neg fun h => e2 h.2]
  · rw [up_off e, if_neg fun h => e h.1]
theorem forL_next {T : Th} {p : RuleM → Bool} {k hm z : Nat} {r : RuleM} (hr : T.rules[k]? = some r) (hh : r.head = (hm : Int)) : forL T p (k + 1) z = if p r = true ∧ z = hm then forL T p k z ++ [(k : Int)] else forL T p k z := by
  rw [forL_succ]
  have : isFor T p z k = (p r && decide (r.head = (z : Int))) := by unfold isFor; rw [hr]
  rw [this, hh]
  cases p r
  · simp
  · by_cases e : z = hm
    · subst e; simp
    · have : ¬ ((hm : Int) = (z : Int)) := by omega
      simp [e, this]
/-- Rules by their heads, among the first. -/
structure G2 (T : Th) (n k : Nat) (H : Nat → List (List Int)) : Prop where
  a : ∀ z : Nat, z < n → (H 0).getD z [] = forL T kA k z
  t : ∀ z : Nat, z < n → (H 1).getD z [] = forL T kT k z
  v : ∀ z : Nat, z < n → (H 2).getD z [] = []
  ln : ∀ c, c < 3 → (H c).length = n
section
variable {T : Th} {F : List Int} {n k hm : Nat} {H : Nat → List (List Int)} {r : RuleM} {l0 l1 : List Int}
theorem rep_at {z : Nat} : (List.replicate n ([] : List Int)).getD z [] = [] := by
  rw [List.getD_eq_getElem?_getD, List.getElem?_replicate]
  split <;> rfl
theorem G2.start : G2 T n 0 fun _ => List.replicate n [] := ⟨fun z _ => by rw [rep_at]; rfl, fun z _ => by rw [rep_at]; rfl, fun z _ => rep_at, fun c _ => by simp⟩
theorem get_eq {c : Nat} (h : (H c)[hm]? = some l0) : (H c).getD hm [] = l0 := by rw [List.getD_eq_getElem?_getD, h]; rfl
theorem G2.step3 (h : G2 T n k H) (hr : T.rules[k]? = some r) (hh : r.head = (hm : Int)) (hm_ : hm < n) (hk : kT r = false) (h0 : (H 0)[hm]? = some l0) : G2 T n (k + 1) (up H 0 ((H 0).set hm (l0 ++ [(k : Int)]))) := by
  have hl : hm < (H 0).length := by rw [h.ln 0 (by omega)]; exact hm_
  refine ⟨fun z hz => ?_, fun z hz => ?_, fun z hz => ?_, fun c hc => ?_⟩
  · rw [getD_up hl, forL_next hr hh]
    by_cases e : z = hm
    · subst e
      rw [if_pos ⟨rfl, rfl⟩, if_pos ⟨rfl, rfl⟩, ← h.a z hz, get_eq h0]
    · rw [if_neg (fun x => e x.2), if_neg (fun x => e x.2), h.a z hz]
  · rw [getD_up hl, if_neg (by simp), forL_next hr hh, if_neg (by simp [hk]), h.t z hz]
  · rw [getD_up hl, if_neg (by simp), h.v z hz]
  · by_cases e : c = 0
    · subst e; rw [up_at, List.length_set]; exact h.ln 0 hc
    · rw [up_off e]; exact h.ln c hc
theorem G2.step12 (h : G2 T n k H) (hr : T.rules[k]? = some r) (hh : r.head = (hm : Int)) (hm_ : hm < n) (hk : kT r = true) (h0 : (H 0)[hm]? = some l0) (h1 : (up H 0 ((H 0).set hm (l0 ++ [(k : Int)])) 1)[hm]? = some l1) : G2 T n (k + 1) (up (up H 0 ((H 0).set hm (l0 ++ [(k : Int)]))) 1 ((up H 0 ((H 0).set hm (l0 ++ [(k : Int)])) 1).set hm (l1 ++ [(k : Int)]))) := by
  have hl : hm < (H 0).length := by rw [h.ln 0 (by omega)]; exact hm_
  have hl1 : hm < (up H 0 ((H 0).set hm (l0 ++ [(k : Int)])) 1).length := by rw [up_off (by decide), h.ln 1 (by omega)]; exact hm_
  have h1' : (H 1)[hm]? = some l1 := by rw [up_off (by decide)] at h1; exact h1
  refine ⟨fun z hz => ?_, fun z hz => ?_, fun z hz => ?_, fun c hc => ?_⟩
  · rw [getD_up hl1, if_neg (by simp), getD_up hl, forL_next hr hh]
    by_cases e : z = hm
    · subst e
      rw [if_pos ⟨rfl, rfl⟩, if_pos ⟨rfl, rfl⟩, ← h.a z hz, get_eq h0]
    · rw [if_neg (fun x => e x.2), if_neg (fun x => e x.2), h.a z hz]
  · rw [getD_up hl1, forL_next hr hh]
    by_cases e : z = hm
    · subst e
      rw [if_pos ⟨rfl, rfl⟩, if_pos ⟨hk, rfl⟩, ← h.t z hz, get_eq h1']
    · rw [if_neg (fun x => e x.2), if_neg (fun x => e x.2), getD_up hl, if_neg (by simp), h.t z hz]
  · rw [getD_up hl1, if_neg (by simp), getD_up hl, if_neg (by simp), h.v z hz]
  · by_cases e : c = 1
    · subst e; rw [up_at, List.length_set, up_off (by decide)]; exact h.ln 1 hc
    · rw [up_off e]
      by_cases e0 : c = 0
      · subst e0; rw [up_at, List.length_set]; exact h.ln 0 hc
      · rw [up_off e0]; exact h.ln c hc
def ffK (T : Th) (F : List Int) (k : Nat) (z : Int) : Bool := decide (z ∈ F) || !(forL T kS k z).isEmpty
theorem ffK_zero : ffK T F 0 = fun z => decide (z ∈ F) := by funext z; unfold ffK forL; simp
theorem ffK_skip (hr : T.rules[k]? = some r) (hk : kS r = false) : ffK T F (k + 1) = ffK T F k := by
  funext z
  unfold ffK
  rw [forL_succ]
  have : isFor T kS z k = false := by unfold isFor; rw [hr]; simp [hk]
  rw [this]; rfl
theorem ffK_add (hr : T.rules[k]? = some r) (hk : kS r = true) (hh : r.head = (hm : Int)) : ffK T F (k + 1) = upd (ffK T F k) hm true := by
  funext z
  unfold ffK
  rw [forL_succ]
  have : isFor T kS z k = decide ((hm : Int) = z) := by unfold isFor; rw [hr]; simp [hk, hh]
  rw [this]
  by_cases e : z = (hm : Int)
  · subst e; rw [upd_at]; simp
  · rw [upd_off e]
    have : ¬ ((hm : Int) = z) := fun x => e x.symm
    simp [this]
end
/-- .. and the rivals of the first literals, and of the next one in part. -/
structure G3 (T : Th) (n k j : Nat) (H : Nat → List (List Int)) : Prop where
  a : ∀ z : Nat, z < n → (H 0).getD z [] = rulesL T kA z
  t : ∀ z : Nat, z < n → (H 1).getD z [] = rulesL T kT z
  v : ∀ z : Nat, z < n → (H 2).getD z [] = if z < k then rivalsL T z else if z = k then ((row T.foes z).take j).filter (fun p => !(rulesL T kT p).isEmpty) else []
  ln : ∀ c, c < 3 → (H c).length = n
def isLit0 (n : Nat) (x : Int) : Prop := 0 ≤ x ∧ x < (n : Int)
theorem foe_pw0 {T : Th} {F : List Int} {n : Nat} (h : Pf T F n) {q : Nat} (hq : q < n) : (row T.foes q).Pairwise (· < ·) ∧ (row T.foes q).length ≤ 64 := foe_pw h hq
section
variable {T : Th} {F : List Int} {n k j : Nat} {H : Nat → List (List Int)} {l l2 : List Int} {fo : Nat}
theorem G2.three (h : G2 T n T.rules.length H) : G3 T n 0 0 H := ⟨h.a, h.t, fun z hz => by rw [h.v z hz, if_neg (by omega)]; split <;> simp, h.ln⟩
theorem G3.next (h : G3 T n k j H) (hl : row T.foes (k : Int) = l) (hj : l.length ≤ j) : G3 T n (k + 1) 0 H := by
  refine ⟨h.a, h.t, fun z hz => ?_, h.ln⟩
  rw [h.v z hz]
  by_cases e : z < k
  · rw [if_pos e, if_pos (by omega)]
  · rw [if_neg e]
    by_cases e2 : z = k
    · subst e2
      rw [if_pos rfl, if_pos (by omega), hl, List.take_of_length_le hj]
      unfold rivalsL
      rw [hl]
    · rw [if_neg e2, if_neg (by omega)]
      split <;> simp
theorem G3.skip (h : G3 T n k j H) (hl : row T.foes (k : Int) = l) (hj : l[j]? = some (fo : Int)) (hn : rulesL T kT fo = []) : G3 T n k (j + 1) H := by
  refine ⟨h.a, h.t, fun z hz => ?_, h.ln⟩
  rw [h.v z hz]
  by_cases e : z < k
  · rw [if_pos e, if_pos e]
  · rw [if_neg e, if_neg e]
    by_cases e2 : z = k
    · subst e2
      rw [if_pos rfl, if_pos rfl, hl, take_snoc hj, List.filter_append]
      simp [hn]
    · rw [if_neg e2, if_neg e2]
theorem G3.add (h : G3 T n k j H) (hl : row T.foes (k : Int) = l) (hj : l[j]? = some (fo : Int)) (hn : rulesL T kT fo ≠ []) (hk : k < n) (h2 : (H 2)[k]? = some l2) : G3 T n k (j + 1) (up H 2 ((H 2).set k (l2 ++ [(fo : Int)]))) := by
  have hlen : k < (H 2).length := by rw [h.ln 2 (by omega)]; exact hk
  refine ⟨fun z hz => ?_, fun z hz => ?_, fun z hz => ?_, fun c hc => ?_⟩
  · rw [getD_up hlen, if_neg (by simp), h.a z hz]
  · rw [getD_up hlen, if_neg (by simp), h.t z hz]
  · rw [getD_up hlen]
    by_cases e2 : z = k
    · subst e2
      have := h.v z hz
      rw [get_eq h2, if_neg (by omega), if_pos rfl] at this
      rw [if_pos ⟨rfl, rfl⟩, if_neg (by omega), if_pos rfl, this, hl, take_snoc hj, List.filter_append]
      simp [hn]
    · rw [if_neg fun x => e2 x.2, h.v z hz]
      by_cases e : z < k
      · rw [if_pos e, if_pos e]
      · rw [if_neg e, if_neg e, if_neg e2, if_neg e2]
  · by_cases e : c = 2
    · subst e; rw [up_at, List.length_set]; exact h.ln 2 hc
    · rw [up_off e]; exact h.ln c hc
theorem G3.len64 (h : G3 T n k j H) (hp : Pf T F n) (z : Nat) (hz : z < n) : ((H 2).getD z []).length ≤ 4096 := by
  rw [h.v z hz]
  have h64 := (foe_pw hp hz).2
  split
  · exact Nat.le_trans (Nat.le_trans (List.length_filter_le _ _) h64) (by omega)
  · split
    · refine Nat.le_trans (List.length_filter_le _ _) ?_
      rw [List.length_take]
      omega
    · simp
end
set_option maxRecDepth 100000 in
set_option maxHeartbeats 3200000 in
theorem isStrict_any {w : World} {k h : Int} {v : Value} : Calls Tryz.prog 66 #[.agg #[.int .i64 k, .int .i64 h, v]] w fun o w' => o = .returned (.bool (decide (k = 1))) ∧ Below w.heap.size w w' := by
  have hB := below_new w (.cells #[.int .i64 k, .int .i64 h, v] 81)
  have c0 : (w.alloc (.cells #[.int .i64 k, .int .i64 h, v] 81)).cell? ⟨w.heap.size, 0, none⟩ = some (.int .i64 k) := cell_of_row _ _ 0 _ _ _ (heap_alloc_new w _)
  have HB := hide hB
  have HK : Hid (decide (k = 1) = (k == 1)) := hide (by by_cases e0 : k = 1 <;> simp [e0])
  clear hB
  go_enter Tryz.func66, Tryz.ntmps66
  go_wp2_with fail
  go_ret
  exact ⟨by rw [HK.out]; rfl, HB.out⟩
theorem res_ix {tmps : Array Value} {b : Nat} {Y : World} {t0 t1 t2 t3 t4 t5 t6 t7 : Value} (ht : tmps.getD 4 undef = .pointer (some ⟨b, 0, none⟩)) (h : Fx b 69 [t0, t1, t2, t3, t4, t5, t6, t7] Y) : (results Tryz.f64 tmps).run Tryz.prog Y = .ok (.agg #[t0, t1, t2, t3, t4, t5, t6, t7]) Y := by
  have r0 := h.get (i := 0) rfl
  have r1 := h.get (i := 1) rfl
  have r2 := h.get (i := 2) rfl
  have r3 := h.get (i := 3) rfl
  have r4 := h.get (i := 4) rfl
  have r5 := h.get (i := 5) rfl
  have r6 := h.get (i := 6) rfl
  have r7 := h.get (i := 7) rfl
  have ht2 : tmps[4]?.getD undef = .pointer (some ⟨b, 0, none⟩) := by simpa [Array.getD_eq_getD_getElem?] using ht
  clear h ht
  simp [results, Tryz.results64, go_sem, ht2, r0, r1, r2, r3, r4, r5, r6, r7]
set_option maxRecDepth 100000 in
set_option maxHeartbeats 12800000 in
theorem newIndex_any {w : World} {T : Th} {F : List Int} {n : Nat} {fa ra ba ea : Option Addr} {fc rc bc ec : Nat} (h : TA w.heap.size w T fa fc ra rc ba bc) (hF : Ints w.heap.size w F (.slice ea F.length ec)) (hp : Pf T F n) :
    Calls Tryz.prog 64 #[tv T fa fc ra rc ba bc, .slice ea F.length ec] w fun o w' => ∃ q rl tm rv fm vs H, o = .returned (.agg (ixL T fa ra ba fc rc bc rl tm rv fm n).toArray) ∧ Nx w.heap.size q rl tm rv fm fa ra ba fc rc bc T n (firmB T F) H vs w' ∧ (∀ z : Nat, z < n → (H 0).getD z [] = rulesL T kA z ∧ (H 1).getD z [] = rulesL T kT z ∧ (H 2).getD z [] = rivalsL T z) ∧ Below w.heap.size w w' := by
  obtain ⟨iL, hiL, zL0, zL1, zL2⟩ := info_parts infoL
  obtain ⟨iB, hiB, zB0, zB1, zB2⟩ := info_parts infoBo
  obtain ⟨iI, hiI, zI0, zI1, zI2⟩ := info_parts infoI
  have hn4 := hp.n4
  have hmL : ∀ W, (Instr.makeSlice 22 (.int .i64 T.lits) (.int .i64 T.lits)).run Tryz.prog W = .ok (sl W.heap.size n) (W.alloc (.cells (Array.replicate n (.slice none 0 0)) 26)) := fun W => by rw [hp.ln]; exact run_make_fix (P := Tryz.prog) Tryz.underlying22 hiL zL0 zL1 rfl n (by rw [zL2]; omega) (by unfold maxLen; omega) W
  have hmB : ∀ W, (Instr.makeSlice 67 (.int .i64 T.lits) (.int .i64 T.lits)).run Tryz.prog W = .ok (sl W.heap.size n) (W.alloc (.cells (Array.replicate n (.bool false)) 4)) := fun W => by rw [hp.ln]; exact run_make_fix (P := Tryz.prog) Tryz.underlying67 hiB zB0 zB1 rfl n (by rw [zB2]; omega) (by unfold maxLen; omega) W
  have hB1 := below_new w (.cells #[.int .i64 T.lits, .slice fa T.foes.length fc, .slice ra T.rules.length rc, .slice ba T.beats.length bc] 25)
  have hB2 := below_new (w.alloc (.cells #[.int .i64 T.lits, .slice fa T.foes.length fc, .slice ra T.rules.length rc, .slice ba T.beats.length bc] 25)) (.cells #[.int .i64 0, .slice none 0 0, .slice none 0 0, .slice none 0 0, .slice none 0 0, .slice none 0 0, .slice none 0 0, .slice none 0 0] 69)
  have hB := hB1.trans (hB2.mono hB1.size)
  have hX1 : Fx w.heap.size 25 [.int .i64 T.lits, .slice fa T.foes.length fc, .slice ra T.rules.length rc, .slice ba T.beats.length bc] ((w.alloc (.cells #[.int .i64 T.lits, .slice fa T.foes.length fc, .slice ra T.rules.length rc, .slice ba T.beats.length bc] 25)).alloc (.cells #[.int .i64 0, .slice none 0 0, .slice none 0 0, .slice none 0 0, .slice none 0 0, .slice none 0 0, .slice none 0 0, .slice none 0 0] 69)) := (hB2.block _ (by simp)).trans (heap_alloc_new w _)
  have hX2 : Fx (w.heap.size + 1) 69 [.int .i64 0, .slice none 0 0, .slice none 0 0, .slice none 0 0, .slice none 0 0, .slice none 0 0, .slice none 0 0, .slice none 0 0] ((w.alloc (.cells #[.int .i64 T.lits, .slice fa T.foes.length fc, .slice ra T.rules.length rc, .slice ba T.beats.length bc] 25)).alloc (.cells #[.int .i64 0, .slice none 0 0, .slice none 0 0, .slice none 0 0, .slice none 0 0, .slice none 0 0, .slice none 0 0, .slice none 0 0] 69)) := by
    have := heap_alloc_new (w.alloc (.cells #[.int .i64 T.lits, .slice fa T.foes.length fc, .slice ra T.rules.length rc, .slice ba T.beats.length bc] 25)) (.cells #[.int .i64 0, .slice none 0 0, .slice none 0 0, .slice none 0 0, .slice none 0 0, .slice none 0 0, .slice none 0 0, .slice none 0 0] 69)
    simpa [Fx] using this
  have HTA := hide (TR.go hB h)
  have HF := hide (Ints.go hB hF)
  have HP := hide hp
  have HB := hide hB
  have HX1 := hide hX1
  have HX2 := hide hX2
  clear h hF hp hB hB1 hB2
  go_enter Tryz.func64, Tryz.ntmps64
  go_upto_region 1 with fail
  clear hX1 hX2
  generalize (w.alloc (.cells #[.int .i64 T.lits, .slice fa T.foes.length fc, .slice ra T.rules.length rc, .slice ba T.beats.length bc] 25)).alloc (.cells #[.int .i64 0, .slice none 0 0, .slice none 0 0, .slice none 0 0, .slice none 0 0, .slice none 0 0, .slice none 0 0, .slice none 0 0] 69) = W at *
  obtain ⟨bq, hbq⟩ : ∃ bq, w.heap.size = bq := ⟨_, rfl⟩
  have HBQ := hide hbq
  rw [hbq] at HX1 HX2 ⊢
  clear hbq
  have HDr := hide ((Below.refl W.heap.size W).drew)
  obtain ⟨W0, hW0⟩ : ∃ W0, W.drew = W0 := ⟨_, rfl⟩
  have HX1d := hide (HX1.out.keep (HDr.out.block _ HX1.out.lt))
  have HOKD : Hid (okD [some 14, some 15, some 16, some 17, some 18, some 19, some 20, some 21, some 22, some 23, some 24, some 25, some 26, some 27, some 5, none] [(2, ptr bq)] = true) := hide rfl
  rw [hW0] at HX1d HDr
  have HCL : Hid (∀ X, Below W0.heap.size W0 X → X.cell? ⟨bq, 0, none⟩ = some (.int .i64 T.lits) ∧ X.cell? ⟨bq, 1, none⟩ = some (.slice fa T.foes.length fc) ∧ X.cell? ⟨bq, 2, none⟩ = some (.slice ra T.rules.length rc) ∧ X.cell? ⟨bq, 3, none⟩ = some (.slice ba T.beats.length bc)) := hide fun X hX => by
    have hf := HX1d.out.keep (hX.block _ HX1d.out.lt)
    exact ⟨hf.get (i := 0) rfl, hf.get (i := 1) rfl, hf.get (i := 2) rfl, hf.get (i := 3) rfl⟩
  refine region_j NoE (Jl 15 [some 14, some 15, some 16, some 17, some 18, some 19, some 20, some 21, some 22, some 23, some 24, some 25, some 26, some 27, some 5, none] [(2, ptr bq)] (prX T fa ra ba fc rc bc bq n W0.heap.size) (finX T fa ra ba fc rc bc n W0) W0) (by kernel_rfl) (by kernel_rfl) ?_ (steps_j ⟨?_, ?_, ?_, ?_, ?_, ?_, ?_, ?_, ?_, ?_, ?_, ?_, ?_, ?_, ?_, ?_, trivial⟩) ?_ ?_
  · refine ⟨fun _ => ?_, fun e => by cases e⟩
    show Jg _ _ _ W0 _ _ W.drew
    rw [hW0]
    exact Jg.start.2 fun p hp => by simp at hp; subst hp; rfl
  · intro ρ X L hc hf hL hd hcl hJJ
    have hlast : L 15 = false := not_done (by kernel_rfl) hcl (k := 0) (by simp) hL
    have hJ := hJJ.1 hlast
    obtain ⟨c0, c1, c2, c3⟩ := HCL.out X hJ.low
    have k2 : ρ (.tmp 2) = ptr bq := hJ.base (2, ptr bq) (by simp)
    refine does_value (v := .agg #[.int .i64 T.lits, .slice fa T.foes.length fc, .slice ra T.rules.length rc, .slice ba T.beats.length bc]) (w' := X) ?_ ⟨fun _ => hJ.put HOKD.out prX_go (i := 0) (d := 14) rfl (Below.refl _ _) (rfl), fun e => by rw [more_off (by decide), hlast] at e; cases e⟩
    clear hd hcl hJ hJJ hL hlast
    go_simp

  · intro ρ X L hc hf hL hd hcl hJJ
    have hlast : L 15 = false := not_done (by kernel_rfl) hcl (k := 1) (by simp) hL
    have hJ := hJJ.1 hlast
    obtain ⟨c0, c1, c2, c3⟩ := HCL.out X hJ.low
    have k2 : ρ (.tmp 2) = ptr bq := hJ.base (2, ptr bq) (by simp)
    refine does_value (v := ptr bq) (w' := X) ?_ ⟨fun _ => hJ.put HOKD.out prX_go (i := 1) (d := 15) rfl (Below.refl _ _) (rfl), fun e => by rw [more_off (by decide), hlast] at e; cases e⟩
    clear hd hcl hJ hJJ hL hlast
    go_simp

  · intro ρ X L hc hf hL hd hcl hJJ
    have hlast : L 15 = false := not_done (by kernel_rfl) hcl (k := 2) (by simp) hL
    have hJ := hJJ.1 hlast
    obtain ⟨c0, c1, c2, c3⟩ := HCL.out X hJ.low
    obtain ⟨_, _, _, e1⟩ := hJ.get (i := 1) (d := 15) rfl (hd ⟨1, .data⟩ (by simp) rfl)
    have k15 : ρ (.tmp 15) = ptr bq := e1
    clear e1
    refine does_value (v := .int .i64 T.lits) (w' := X) ?_ ⟨fun _ => hJ.put HOKD.out prX_go (i := 2) (d := 16) rfl (Below.refl _ _) (rfl), fun e => by rw [more_off (by decide), hlast] at e; cases e⟩
    clear hd hcl hJ hJJ hL hlast
    go_simp

  · intro ρ X L hc hf hL hd hcl hJJ
    have hlast : L 15 = false := not_done (by kernel_rfl) hcl (k := 3) (by simp) hL
    have hJ := hJJ.1 hlast
    obtain ⟨c0, c1, c2, c3⟩ := HCL.out X hJ.low
    obtain ⟨_, _, _, e1⟩ := hJ.get (i := 2) (d := 16) rfl (hd ⟨2, .data⟩ (by simp) rfl)
    have k16 : ρ (.tmp 16) = .int .i64 T.lits := e1
    have hmm := hmL X
    clear e1
    refine does_value (v := sl X.heap.size n) (w' := X.alloc (.cells (Array.replicate n (.slice none 0 0)) 26)) ?_ ⟨fun _ => hJ.put HOKD.out prX_go (i := 3) (d := 17) rfl (below_new X _) (⟨X.heap.size, rfl, by unfold Fx; rw [heap_alloc_new]; simp, Nat.le_refl _, by simp, hJ.low.size⟩), fun e => by rw [more_off (by decide), hlast] at e; cases e⟩
    clear hd hcl hJ hJJ hL hlast
    go_simp

  · intro ρ X L hc hf hL hd hcl hJJ
    have hlast : L 15 = false := not_done (by kernel_rfl) hcl (k := 4) (by simp) hL
    have hJ := hJJ.1 hlast
    obtain ⟨c0, c1, c2, c3⟩ := HCL.out X hJ.low
    have k2 : ρ (.tmp 2) = ptr bq := hJ.base (2, ptr bq) (by simp)
    refine does_value (v := ptr bq) (w' := X) ?_ ⟨fun _ => hJ.put HOKD.out prX_go (i := 4) (d := 18) rfl (Below.refl _ _) (rfl), fun e => by rw [more_off (by decide), hlast] at e; cases e⟩
    clear hd hcl hJ hJJ hL hlast
    go_simp

  · intro ρ X L hc hf hL hd hcl hJJ
    have hlast : L 15 = false := not_done (by kernel_rfl) hcl (k := 5) (by simp) hL
    have hJ := hJJ.1 hlast
    obtain ⟨c0, c1, c2, c3⟩ := HCL.out X hJ.low
    obtain ⟨_, _, _, e1⟩ := hJ.get (i := 4) (d := 18) rfl (hd ⟨4, .data⟩ (by simp) rfl)
    have k18 : ρ (.tmp 18) = ptr bq := e1
    clear e1
    refine does_value (v := .int .i64 T.lits) (w' := X) ?_ ⟨fun _ => hJ.put HOKD.out prX_go (i := 5) (d := 19) rfl (Below.refl _ _) (rfl), fun e => by rw [more_off (by decide), hlast] at e; cases e⟩
    clear hd hcl hJ hJJ hL hlast
    go_simp

  · intro ρ X L hc hf hL hd hcl hJJ
    have hlast : L 15 = false := not_done (by kernel_rfl) hcl (k := 6) (by simp) hL
    have hJ := hJJ.1 hlast
    obtain ⟨c0, c1, c2, c3⟩ := HCL.out X hJ.low
    obtain ⟨_, _, _, e1⟩ := hJ.get (i := 5) (d := 19) rfl (hd ⟨5, .data⟩ (by simp) rfl)
    have k19 : ρ (.tmp 19) = .int .i64 T.lits := e1
    have hmm := hmL X
    clear e1
    refine does_value (v := sl X.heap.size n) (w' := X.alloc (.cells (Array.replicate n (.slice none 0 0)) 26)) ?_ ⟨fun _ => hJ.put HOKD.out prX_go (i := 6) (d := 20) rfl (below_new X _) (⟨X.heap.size, rfl, by unfold Fx; rw [heap_alloc_new]; simp, Nat.le_refl _, by simp, hJ.low.size⟩), fun e => by rw [more_off (by decide), hlast] at e; cases e⟩
    clear hd hcl hJ hJJ hL hlast
    go_simp

  · intro ρ X L hc hf hL hd hcl hJJ
    have hlast : L 15 = false := not_done (by kernel_rfl) hcl (k := 7) (by simp) hL
    have hJ := hJJ.1 hlast
    obtain ⟨c0, c1, c2, c3⟩ := HCL.out X hJ.low
    have k2 : ρ (.tmp 2) = ptr bq := hJ.base (2, ptr bq) (by simp)
    refine does_value (v := ptr bq) (w' := X) ?_ ⟨fun _ => hJ.put HOKD.out prX_go (i := 7) (d := 21) rfl (Below.refl _ _) (rfl), fun e => by rw [more_off (by decide), hlast] at e; cases e⟩
    clear hd hcl hJ hJJ hL hlast
    go_simp

  · intro ρ X L hc hf hL hd hcl hJJ
    have hlast : L 15 = false := not_done (by kernel_rfl) hcl (k := 8) (by simp) hL
    have hJ := hJJ.1 hlast
    obtain ⟨c0, c1, c2, c3⟩ := HCL.out X hJ.low
    obtain ⟨_, _, _, e1⟩ := hJ.get (i := 7) (d := 21) rfl (hd ⟨7, .data⟩ (by simp) rfl)
    have k21 : ρ (.tmp 21) = ptr bq := e1
    clear e1
    refine does_value (v := .int .i64 T.lits) (w' := X) ?_ ⟨fun _ => hJ.put HOKD.out prX_go (i := 8) (d := 22) rfl (Below.refl _ _) (rfl), fun e => by rw [more_off (by decide), hlast] at e; cases e⟩
    clear hd hcl hJ hJJ hL hlast
    go_simp

  · intro ρ X L hc hf hL hd hcl hJJ
    have hlast : L 15 = false := not_done (by kernel_rfl) hcl (k := 9) (by simp) hL
    have hJ := hJJ.1 hlast
    obtain ⟨c0, c1, c2, c3⟩ := HCL.out X hJ.low
    obtain ⟨_, _, _, e1⟩ := hJ.get (i := 8) (d := 22) rfl (hd ⟨8, .data⟩ (by simp) rfl)
    have k22 : ρ (.tmp 22) = .int .i64 T.lits := e1
    have hmm := hmL X
    clear e1
    refine does_value (v := sl X.heap.size n) (w' := X.alloc (.cells (Array.replicate n (.slice none 0 0)) 26)) ?_ ⟨fun _ => hJ.put HOKD.out prX_go (i := 9) (d := 23) rfl (below_new X _) (⟨X.heap.size, rfl, by unfold Fx; rw [heap_alloc_new]; simp, Nat.le_refl _, by simp, hJ.low.size⟩), fun e => by rw [more_off (by decide), hlast] at e; cases e⟩
    clear hd hcl hJ hJJ hL hlast
    go_simp

  · intro ρ X L hc hf hL hd hcl hJJ
    have hlast : L 15 = false := not_done (by kernel_rfl) hcl (k := 10) (by simp) hL
    have hJ := hJJ.1 hlast
    obtain ⟨c0, c1, c2, c3⟩ := HCL.out X hJ.low
    have k2 : ρ (.tmp 2) = ptr bq := hJ.base (2, ptr bq) (by simp)
    refine does_value (v := ptr bq) (w' := X) ?_ ⟨fun _ => hJ.put HOKD.out prX_go (i := 10) (d := 24) rfl (Below.refl _ _) (rfl), fun e => by rw [more_off (by decide), hlast] at e; cases e⟩
    clear hd hcl hJ hJJ hL hlast
    go_simp

  · intro ρ X L hc hf hL hd hcl hJJ
    have hlast : L 15 = false := not_done (by kernel_rfl) hcl (k := 11) (by simp) hL
    have hJ := hJJ.1 hlast
    obtain ⟨c0, c1, c2, c3⟩ := HCL.out X hJ.low
    obtain ⟨_, _, _, e1⟩ := hJ.get (i := 10) (d := 24) rfl (hd ⟨10, .data⟩ (by simp) rfl)
    have k24 : ρ (.tmp 24) = ptr bq := e1
    clear e1
    refine does_value (v := .int .i64 T.lits) (w' := X) ?_ ⟨fun _ => hJ.put HOKD.out prX_go (i := 11) (d := 25) rfl (Below.refl _ _) (rfl), fun e => by rw [more_off (by decide), hlast] at e; cases e⟩
    clear hd hcl hJ hJJ hL hlast
    go_simp

  · intro ρ X L hc hf hL hd hcl hJJ
    have hlast : L 15 = false := not_done (by kernel_rfl) hcl (k := 12) (by simp) hL
    have hJ := hJJ.1 hlast
    obtain ⟨c0, c1, c2, c3⟩ := HCL.out X hJ.low
    obtain ⟨_, _, _, e1⟩ := hJ.get (i := 11) (d := 25) rfl (hd ⟨11, .data⟩ (by simp) rfl)
    have k25 : ρ (.tmp 25) = .int .i64 T.lits := e1
    have hmm := hmB X
    clear e1
    refine does_value (v := sl X.heap.size n) (w' := X.alloc (.cells (Array.replicate n (.bool false)) 4)) ?_ ⟨fun _ => hJ.put HOKD.out prX_go (i := 12) (d := 26) rfl (below_new X _) (⟨X.heap.size, rfl, by unfold Fx rowB; rw [heap_alloc_new]; simp [List.map_const'], Nat.le_refl _, by simp, hJ.low.size⟩), fun e => by rw [more_off (by decide), hlast] at e; cases e⟩
    clear hd hcl hJ hJJ hL hlast
    go_simp

  · intro ρ X L hc hf hL hd hcl hJJ
    have hlast : L 15 = false := not_done (by kernel_rfl) hcl (k := 13) (by simp) hL
    have hJ := hJJ.1 hlast
    obtain ⟨c0, c1, c2, c3⟩ := HCL.out X hJ.low
    obtain ⟨lo, hi, hat, hdis⟩ := hJ.at_
    have l0 : L 0 = true := hd ⟨0, .data⟩ (by simp) rfl
    have l3 : L 3 = true := hd ⟨3, .data⟩ (by simp) rfl
    have l6 : L 6 = true := hd ⟨6, .data⟩ (by simp) rfl
    have l9 : L 9 = true := hd ⟨9, .data⟩ (by simp) rfl
    have l12 : L 12 = true := hd ⟨12, .data⟩ (by simp) rfl
    obtain ⟨-, -, -, e0⟩ := hat 0 14 rfl l0
    obtain ⟨-, -, -, g0, e3, f3, a3, b3, n3⟩ := hat 3 17 rfl l3
    obtain ⟨-, -, -, g1, e6, f6, a6, b6, n6⟩ := hat 6 20 rfl l6
    obtain ⟨-, -, -, g2, e9, f9, a9, b9, n9⟩ := hat 9 23 rfl l9
    obtain ⟨-, -, -, g3, e12, f12, -, -, n12⟩ := hat 12 26 rfl l12
    have d1 := hdis 3 6 17 20 rfl rfl (by decide) l3 l6
    have d2 := hdis 3 9 17 23 rfl rfl (by decide) l3 l9
    have d3 := hdis 6 9 20 23 rfl rfl (by decide) l6 l9
    have k14 : ρ (.tmp 14) = .agg #[.int .i64 T.lits, .slice fa T.foes.length fc, .slice ra T.rules.length rc, .slice ba T.beats.length bc] := e0
    have k17 : ρ (.tmp 17) = sl g0 n := e3
    have k20 : ρ (.tmp 20) = sl g1 n := e6
    have k23 : ρ (.tmp 23) = sl g2 n := e9
    have k26 : ρ (.tmp 26) = sl g3 n := e12
    refine does_value (v := .agg #[.int .i64 T.lits, .slice fa T.foes.length fc, .slice ra T.rules.length rc, .slice ba T.beats.length bc, sl g0 n, sl g1 n, sl g2 n, sl g3 n]) (w' := X) ?_ ⟨fun _ => hJ.put HOKD.out prX_go (i := 13) (d := 27) rfl (Below.refl _ _) (⟨g0, g1, g2, g3, rfl, f3, f6, f9, f12, ⟨n3, n6, n9, n12⟩, by omega, by omega, by omega⟩), fun e => by rw [more_off (by decide), hlast] at e; cases e⟩
    clear hd hcl hJ hJJ hL hlast hat hdis d1 d2 d3 e0 e3 e6 e9 e12 f3 f6 f9 f12
    go_simp

  · intro ρ X L hc hf hL hd hcl hJJ
    have hlast : L 15 = false := not_done (by kernel_rfl) hcl (k := 14) (by simp) hL
    have hJ := hJJ.1 hlast
    obtain ⟨c0, c1, c2, c3⟩ := HCL.out X hJ.low
    refine does_value (v := ptr X.heap.size) (w' := X.alloc (.cells #[.int .i64 0, .slice none 0 0, .slice none 0 0, .slice none 0 0, .slice none 0 0, .slice none 0 0, .slice none 0 0, .slice none 0 0] 69)) ?_ ⟨fun _ => hJ.put HOKD.out prX_go (i := 14) (d := 5) rfl (below_new X _) (⟨X.heap.size, [.int .i64 0, .slice none 0 0, .slice none 0 0, .slice none 0 0, .slice none 0 0, .slice none 0 0, .slice none 0 0, .slice none 0 0], rfl, heap_alloc_new X _, rfl, hJ.low.size⟩), fun e => by rw [more_off (by decide), hlast] at e; cases e⟩
    clear hd hcl hJ hJJ hL hlast
    go_simp

  · intro ρ X L hc hf hL hd hcl hJJ
    have hJ := hJJ.1 hL
    obtain ⟨_, _, _, g0, g1, g2, g3, e27, f0, f1, f2, f3, ⟨m0, m1, m2, m3⟩, d1, d2, d3⟩ := hJ.get (i := 13) (d := 27) rfl (hd ⟨13, .data⟩ (by simp) rfl)
    obtain ⟨_, _, _, q, xs, e5, h0, hxl, hq⟩ := hJ.get (i := 14) (d := 5) rfl (hd ⟨14, .data⟩ (by simp) rfl)
    obtain ⟨t0, t1, t2, t3, t4, t5, t6, t7, rfl⟩ : ∃ t0 t1 t2 t3 t4 t5 t6 t7, xs = [t0, t1, t2, t3, t4, t5, t6, t7] := by
      match xs, hxl with
      | [t0, t1, t2, t3, t4, t5, t6, t7], _ => exact ⟨t0, t1, t2, t3, t4, t5, t6, t7, rfl⟩
    have k27 : ρ (.tmp 27) = .agg #[.int .i64 T.lits, .slice fa T.foes.length fc, .slice ra T.rules.length rc, .slice ba T.beats.length bc, sl g0 n, sl g1 n, sl g2 n, sl g3 n] := e27
    have k5 : ρ (.tmp 5) = ptr q := e5
    have y0 := h0.get (i := 0) (v := t0) rfl
    have z0 := h0.frz 0
    have h1 := h0.set 0 (.int .i64 T.lits)
    have y1 := h1.get (i := 1) (v := t1) rfl
    have z1 := h1.frz 1
    have h2 := h1.set 1 (.slice fa T.foes.length fc)
    have y2 := h2.get (i := 2) (v := t2) rfl
    have z2 := h2.frz 2
    have h3 := h2.set 2 (.slice ra T.rules.length rc)
    have y3 := h3.get (i := 3) (v := t3) rfl
    have z3 := h3.frz 3
    have h4 := h3.set 3 (.slice ba T.beats.length bc)
    have y4 := h4.get (i := 4) (v := t4) rfl
    have z4 := h4.frz 4
    have h5 := h4.set 4 (sl g0 n)
    have y5 := h5.get (i := 5) (v := t5) rfl
    have z5 := h5.frz 5
    have h6 := h5.set 5 (sl g1 n)
    have y6 := h6.get (i := 6) (v := t6) rfl
    have z6 := h6.frz 6
    have h7 := h6.set 6 (sl g2 n)
    have y7 := h7.get (i := 7) (v := t7) rfl
    have z7 := h7.frz 7
    have h8 := h7.set 7 (sl g3 n)
    have kp : ∀ {g t : Nat} {xs : List Value}, Fx g t xs X → t ≠ 69 → Fx g t xs ((((((((X.setCell ⟨q, 0, none⟩ (.int .i64 T.lits)).setCell ⟨q, 1, none⟩ (.slice fa T.foes.length fc)).setCell ⟨q, 2, none⟩ (.slice ra T.rules.length rc)).setCell ⟨q, 3, none⟩ (.slice ba T.beats.length bc)).setCell ⟨q, 4, none⟩ (sl g0 n)).setCell ⟨q, 5, none⟩ (sl g1 n)).setCell ⟨q, 6, none⟩ (sl g2 n)).setCell ⟨q, 7, none⟩ (sl g3 n)) := fun hx ht => by
      have hne := fx_ne hx h0 ht
      exact hx.keep (by simp only [other_set hne])
    have HFIN : Hid (finX T fa ra ba fc rc bc n W0 (laid (fun s => ρ (.tmp s)) none undef) ((((((((X.setCell ⟨q, 0, none⟩ (.int .i64 T.lits)).setCell ⟨q, 1, none⟩ (.slice fa T.foes.length fc)).setCell ⟨q, 2, none⟩ (.slice ra T.rules.length rc)).setCell ⟨q, 3, none⟩ (.slice ba T.beats.length bc)).setCell ⟨q, 4, none⟩ (sl g0 n)).setCell ⟨q, 5, none⟩ (sl g1 n)).setCell ⟨q, 6, none⟩ (sl g2 n)).setCell ⟨q, 7, none⟩ (sl g3 n))) := hide ⟨q, g0, g1, g2, g3, by rw [laid_ne (by simp)]; exact k5, ⟨h8, kp f3 (by decide), h3_start (kp f0 (by decide)) (kp f1 (by decide)) (kp f2 (by decide)) ⟨m0, m1, m2⟩ ⟨d1, d2, d3⟩, hq, m3⟩, ((((((((hJ.low.setCell (p := ⟨q, 0, none⟩) hq _).setCell (p := ⟨q, 1, none⟩) hq _).setCell (p := ⟨q, 2, none⟩) hq _).setCell (p := ⟨q, 3, none⟩) hq _).setCell (p := ⟨q, 4, none⟩) hq _).setCell (p := ⟨q, 5, none⟩) hq _).setCell (p := ⟨q, 6, none⟩) hq _).setCell (p := ⟨q, 7, none⟩) hq _)⟩
    refine does_skip (w' := ((((((((X.setCell ⟨q, 0, none⟩ (.int .i64 T.lits)).setCell ⟨q, 1, none⟩ (.slice fa T.foes.length fc)).setCell ⟨q, 2, none⟩ (.slice ra T.rules.length rc)).setCell ⟨q, 3, none⟩ (.slice ba T.beats.length bc)).setCell ⟨q, 4, none⟩ (sl g0 n)).setCell ⟨q, 5, none⟩ (sl g1 n)).setCell ⟨q, 6, none⟩ (sl g2 n)).setCell ⟨q, 7, none⟩ (sl g3 n))) ?_ ⟨fun e => (by rw [more_at] at e; cases e), fun _ => HFIN.out⟩
    clear hd hcl hJ hJJ hL kp HFIN f0 f1 f2 f3 h1 h2 h3 h4 h5 h6 h7 h8 h0 e27 e5
    go_simp
  · intro c a' w' _ hE
    exact hE.elim
  · rintro ⟨tmm, df⟩ w' hsz hdf ⟨L, hL, hJ⟩ hold
    simp only at hdf hsz
    subst hdf
    obtain ⟨q, rl, tm, rv, fm, e5, hNx, hBl⟩ := hJ.2 (hL 15 (by decide))
    have e5 : tmm.getD 5 undef = ptr q := e5
    have htm := frame_keep1 14 27 5 (by kernel_rfl) hsz hold
    simp only [zs, Nat.reduceLT, Nat.reduceAdd, true_or, or_true, or_self, false_and, ne_eq, Nat.reduceEqDiff, not_false_eq_true, not_true_eq_false, and_self, and_false, if_true, if_false, e5] at htm
    rw [htm]
    clear htm hJ hL hold hsz e5 hmL hmB HCL HOKD
    generalize tmm.getD 14 undef = x14
    generalize tmm.getD 15 undef = x15
    generalize tmm.getD 16 undef = x16
    generalize tmm.getD 17 undef = x17
    generalize tmm.getD 18 undef = x18
    generalize tmm.getD 19 undef = x19
    generalize tmm.getD 20 undef = x20
    generalize tmm.getD 21 undef = x21
    generalize tmm.getD 22 undef = x22
    generalize tmm.getD 23 undef = x23
    generalize tmm.getD 24 undef = x24
    generalize tmm.getD 25 undef = x25
    generalize tmm.getD 26 undef = x26
    generalize tmm.getD 27 undef = x27
    have HN1 := hide hNx
    have HB1 : Hid (Below W.heap.size W w') := hide (HDr.out.trans (hBl.mono HDr.out.size))
    have hsz0 : W0.heap.size = W.heap.size := by rw [← hW0]; rfl
    rw [hsz0] at HN1
    clear hNx hBl hsz0 HDr HX1d
    have hFl := HF.out.lim
    have HAF := hide HF.out.at1
    go_wp2_with fail
    go_loopw [30] (fun x wr => ∃ k : Nat, k ≤ F.length ∧ x = .int .i64 k ∧ Hid (Nx W.heap.size q rl tm rv fm fa ra ba fc rc bc T n (fun z => decide (z ∈ F.take k)) (fun _ => List.replicate n []) (fun _ => List.replicate n (.slice none 0 0)) wr) ∧ Hid (Below W.heap.size W wr)) (fun x _ => F.length - (intOf x).toNat)
    case atStart => exact ⟨0, by omega, rfl, hide (by have := HN1.out; simpa using this), HB1⟩
    case round =>
      clear HN1 HB1
      obtain ⟨k, hk, rfl, HN, HBr⟩ := hrel
      by_cases hlt : k < F.length
      · obtain ⟨x, hx⟩ := get_at hlt
        obtain ⟨x0, x1⟩ := HP.out.fact x (List.mem_of_getElem? hx)
        obtain ⟨xm, rfl⟩ := Int.eq_ofNat_of_zero_le x0
        have hxn : xm < n := by omega
        obtain ⟨ge, oe, rfl, cx⟩ := (HAF.out.below (show Below W.heap.size W wr from HBr.out)).get hx
        have c7 := HN.out.bx.get (i := 7) rfl
        have cf := HN.out.ff.get (rowB_at hxn)
        have zf := HN.out.ff.frz xm
        have HN2 : Hid (Nx W.heap.size q rl tm rv fm fa ra ba fc rc bc T n (fun z => decide (z ∈ F.take (k + 1))) (fun _ => List.replicate n []) (fun _ => List.replicate n (.slice none 0 0)) (wr.setCell ⟨fm, xm, none⟩ (.bool true))) := hide (by
          have := HN.out.setF hxn
          have e : upd (fun z => decide (z ∈ F.take k)) (xm : Int) true = fun z => decide (z ∈ F.take (k + 1)) := by
            funext z
            rw [take_snoc hx]
            by_cases ez : z = (xm : Int)
            · subst ez; rw [upd_at]; simp
            · rw [upd_off ez]; simp [ez]
          rw [e] at this
          exact this)
        have HB2 := hide (HBr.out.setCell (p := ⟨fm, xm, none⟩) HN.out.lo.2 (.bool true))
        clear hx x0 x1
        go_wp2_with fail
        go_roundw
        case rel => exact ⟨k + 1, by omega, by go_num, HN2, HB2⟩
        case measure => simp [intOf]; omega
      · have HN2 : Hid (Nx W.heap.size q rl tm rv fm fa ra ba fc rc bc T n (fun z => decide (z ∈ F)) (fun _ => List.replicate n []) (fun _ => List.replicate n (.slice none 0 0)) wr) := hide (by have := HN.out; rw [List.take_of_length_le (by omega)] at this; exact this)
        have c2 := (HX1.out.keep (HBr.out.block _ HX1.out.lt)).get (i := 2) rfl
        have hrl : T.rules.length ≤ 4096 := HP.out.ok.rl
        go_wp2_with fail
        clear c2
        have HNs := hide HN2.out
        have HBs := hide HBr.out
        clear HN HN2 HBr
        go_loopw [42] (fun x wr => ∃ (k : Nat) (H : Nat → List (List Int)) (vs : Nat → List Value), k ≤ T.rules.length ∧ x = .int .i64 k ∧ Hid (G2 T n k H) ∧ Hid (Nx W.heap.size q rl tm rv fm fa ra ba fc rc bc T n (ffK T F k) H vs wr) ∧ Hid (Below W.heap.size W wr)) (fun x _ => T.rules.length - (intOf x).toNat)
        case atStart => exact ⟨0, _, _, by omega, rfl, hide G2.start, hide (by rw [ffK_zero]; exact HNs.out), HBs⟩
        case round =>
          clear HNs HBs
          rename World => wr2
          obtain ⟨k, H, vs, hk, rfl, HG, HN, HBr⟩ := hrel
          by_cases hlt : k < T.rules.length
          · obtain ⟨r, hr⟩ := get_at hlt
            have HRr := hide hr
            obtain ⟨h0, h1⟩ := HP.out.head r (List.mem_of_getElem? hr)
            obtain ⟨hm, hhm⟩ := Int.eq_ofNat_of_zero_le h0
            have HHM := hide hhm
            have hidx : hm < n := by omega
            have hR := TR.keep HBr.out.block HTA.out
            obtain ⟨gr, go, bd, bp, rfl, hgr, x0, x1, x2, -, hbl, hbody⟩ := at_R hR.rules hr
            have HLEN : Hid (∀ (c i : Nat) (l : List Int), c < 3 → (H c)[i]? = some l → l.length ≤ 4096) := hide fun c i l hc hl => by
              have hin : i < n := by rw [← HG.out.ln c hc]; exact (List.getElem?_eq_some_iff.1 hl).1
              have e : l = (H c).getD i [] := by rw [List.getD_eq_getElem?_getD, hl]; rfl
              rw [e]
              rcases (show c = 0 ∨ c = 1 ∨ c = 2 by omega) with rfl | rfl | rfl
              · rw [HG.out.a i hin]; exact Nat.le_trans forL_len (by omega)
              · rw [HG.out.t i hin]; exact Nat.le_trans forL_len (by omega)
              · rw [HG.out.v i hin]; simp
            rw [hhm] at x1
            have hBq := below_new wr2 (.cells #[.int .i64 r.kind, .int .i64 hm, .slice bd r.body.length bp] 81)
            have HNq := hide (HN.out.go hBq)
            have HQ : Hid (Fx wr2.heap.size 81 [.int .i64 r.kind, .int .i64 hm, .slice bd r.body.length bp] (wr2.alloc (.cells #[.int .i64 r.kind, .int .i64 hm, .slice bd r.body.length bp] 81))) := hide (heap_alloc_new wr2 _)
            have HBq := hide (HBr.out.trans (hBq.mono HBr.out.size))
            clear hr h0 h1 hhm hR hBq hbody HN HBr hgr
            go_upto_region 10 with fail
            clear x0 x1 x2
            generalize wr2.alloc (.cells #[.int .i64 r.kind, .int .i64 hm, .slice bd r.body.length bp] 81) = wq at *
            obtain ⟨qr, hqr⟩ : ∃ qr, wr2.heap.size = qr := ⟨_, rfl⟩
            rw [hqr] at HQ ⊢
            clear hqr
            have hdr0 := (Below.refl wq.heap.size wq).drew
            have HNd0 := hide (HNq.out.go hdr0)
            have HQd0 := hide (HQ.out.keep (hdr0.block _ HQ.out.lt))
            have HBd0 := hide (HBq.out.trans (hdr0.mono HBq.out.size))
            obtain ⟨wd, hwd⟩ : ∃ wd, wq.drew = wd := ⟨_, rfl⟩
            rw [hwd] at HNd0 HQd0 HBd0
            obtain ⟨l0, la0, lc0, hm0, hv0, cm0, om0⟩ := HNd0.out.h3.at (c := 0) (by omega) (show hm < n from hidx)
            have cm0 : wd.cell? ⟨rl, hm, none⟩ = some (.slice la0 l0.length lc0) := cm0
            have hml0 : l0.length ≤ 4096 := HLEN.out 0 _ _ (by omega) hm0
            have hA0 := below_new wd (.cells #[.int .i64 k] 3)
            have hbs0 : W.heap.size ≤ wd.heap.size := HBd0.out.size
            obtain ⟨gg0, cap0, w2, hr2, hown0, hgrow0, hat0, hlt0⟩ := run_append_lies (P := Tryz.prog) (wd.alloc (.cells #[.int .i64 k] 3)) 26 26 W.heap.size 3 iI _ 1 8 Tryz.underlying26 hiI zI0 zI1 zI2 rfl (by decide) (.slice la0 l0.length lc0) l0.length (ints l0) (owns_keep om0 fun g hg => hA0.block g (owns_lt om0 hg)) ⟨wd.heap.size, 0, none⟩ 1 1 [.int .i64 k] rfl (World.news_of_block (cs := [.int .i64 k].toArray) (t := 3) (fr := (0, 0)) (heap_alloc_new wd (.cells #[.int .i64 k] 3))) (by simp [Value.oneCell']) (by decide) (by unfold maxLen; omega) (by omega) (by simp; omega) (wd.heap.size + 1) (by simp)
            have HR2 := hide hr2
            have hold0 : ∀ k, k < wd.heap.size → Value.ownBlock (.slice la0 l0.length lc0) ≠ some k → w2.heap[k]? = wd.heap[k]? := fun k hk hn => (hgrow0.block k (by simp; omega) fun e => hn e.symm).trans (hA0.block k hk)
            have HNE0 := own_fx om0 (HNd0.out.h3.fx 0 (by omega)) (by decide)
            have HNQ0 := own_fx om0 HQd0.out (by decide)
            have HNB0 := own_fx om0 HNd0.out.bx (by decide)
            obtain ⟨w3, hw3⟩ : ∃ w3, w2.setCell ⟨rl, hm, none⟩ (.slice (some ⟨gg0, 0, none⟩) (l0.length + 1) cap0) = w3 := ⟨_, rfl⟩
            have HW3 := hide hw3
            have HN0a : Hid (Nx W.heap.size q rl tm rv fm fa (some ⟨gr, go, none⟩) ba fc rc bc T n (ffK T F k) (up H 0 ((H 0).set hm (l0 ++ [(k : Int)]))) (up vs 0 ((vs 0).set hm (.slice (some ⟨gg0, 0, none⟩) (l0.length + 1) cap0))) w3) := hide (by rw [← hw3]; exact HNd0.out.add (c := 0) (by omega) hm0 hv0 hown0 hold0 (by rcases hat0 with h | h; exact .inl h; exact .inr (by omega)))
            have HQ3 : Hid (Fx qr 81 [.int .i64 r.kind, .int .i64 hm, .slice bd r.body.length bp] w3) := hide (by rw [← hw3]; exact (HQd0.out.keep (hold0 _ HQd0.out.lt HNQ0)).keep (other_set (fx_ne HQd0.out (HNd0.out.h3.fx 0 (by omega)) (by decide))))
            have HB3 : Hid (Below W.heap.size W w3) := hide (by rw [← hw3]; exact (HBd0.out.trans (show Below W.heap.size wd w2 from (hA0.mono hbs0).trans ⟨hgrow0.os, hgrow0.tape, hgrow0.output, hgrow0.size, fun k hk => hgrow0.block k (by simp; omega) fun e => by have := (om0.lt k e.symm).1; omega⟩)).setCell (p := ⟨rl, hm, none⟩) (HNd0.out.h3.lo 0 (by omega)) (.slice (some ⟨gg0, 0, none⟩) (l0.length + 1) cap0))
            have kb0 : ∀ {a : Addr} {v : Value}, wd.cell? a = some v → Value.ownBlock (.slice la0 l0.length lc0) ≠ some a.block → ∀ X, X = wd ∨ X = wd.alloc (.cells #[.int .i64 k] 3) ∨ X = w2 → X.cell? a = some v := fun ha hn X hX => by
              have hlt := World.block_lt_of_cell? wd _ ha
              rcases hX with rfl | rfl | rfl
              · exact ha
              · exact cell_on ha hA0
              · exact (World.cell?_of_block (hold0 _ hlt hn)).trans ha
            have LH := hide (kb0 (HNd0.out.bx.get (i := 4) (v := sl rl n) rfl) HNB0)
            have LQ := hide (kb0 (HQd0.out.get (i := 1) rfl) HNQ0)
            have LR := hide (kb0 cm0 HNE0)
            have q1 : w2.cell? ⟨rl, hm, none⟩ = some (.slice la0 l0.length lc0) := LR.out w2 (.inr (.inr rfl))
            have q2 : w2.frozen? ⟨rl, hm, none⟩ = false := ((HNd0.out.h3.fx 0 (by omega)).keep (hold0 _ (HNd0.out.h3.fx 0 (by omega)).lt HNE0)).frz hm
            have HOK : Hid (okD ([some (47, .pointer (some ⟨q, 4, none⟩)), some (48, sl rl n), some (49, .pointer (some ⟨qr, 1, none⟩)), some (50, .int .i64 hm), some (51, .pointer (some ⟨q, 4, none⟩)), some (52, sl rl n), some (53, .pointer (some ⟨qr, 1, none⟩)), some (54, .int .i64 hm), some (55, .pointer (some ⟨rl, hm, none⟩)), some (56, .slice la0 l0.length lc0), some (57, .int .i64 k), some (58, .slice (some ⟨wd.heap.size, 0, none⟩) 1 1), some (59, .slice (some ⟨gg0, 0, none⟩) (l0.length + 1) cap0), some (60, .pointer (some ⟨rl, hm, none⟩)), none].map fun p : Option (Nat × Value) => p.map Prod.fst) [(5, ptr q), (9, ptr qr), (8, .int .i64 k)] = true) := hide rfl
            clear HNq HQ HBq cm0 hgrow0 hown0 hr2 HNQ0 HNB0 HNE0 hv0 hat0 hlt0 kb0 hold0 hA0 om0 HNd0 HQd0 HBd0 hbs0 hdr0 hw3
            refine region_j NoE (Jt [some (47, .pointer (some ⟨q, 4, none⟩)), some (48, sl rl n), some (49, .pointer (some ⟨qr, 1, none⟩)), some (50, .int .i64 hm), some (51, .pointer (some ⟨q, 4, none⟩)), some (52, sl rl n), some (53, .pointer (some ⟨qr, 1, none⟩)), some (54, .int .i64 hm), some (55, .pointer (some ⟨rl, hm, none⟩)), some (56, .slice la0 l0.length lc0), some (57, .int .i64 k), some (58, .slice (some ⟨wd.heap.size, 0, none⟩) 1 1), some (59, .slice (some ⟨gg0, 0, none⟩) (l0.length + 1) cap0), some (60, .pointer (some ⟨rl, hm, none⟩)), none] [(5, ptr q), (9, ptr qr), (8, .int .i64 k)] (ws3 11 12 14 wd (wd.alloc (.cells #[.int .i64 k] 3)) w2 w3)) (by kernel_rfl) (by kernel_rfl) ?_ (steps_j ⟨?_, ?_, ?_, ?_, ?_, ?_, ?_, ?_, ?_, ?_, ?_, ?_, ?_, ?_, ?_, trivial⟩) ?_ ?_
            · exact ⟨fun p hp => by simp at hp; rcases hp with rfl | rfl | rfl <;> rfl, fun i d v _ hL => (by cases hL), hwd⟩
            · intro ρ X L hc hf hL hd hcl hJ
              have k5 : ρ (.tmp 5) = ptr q := hJ.base (5, ptr q) (by simp)
              refine does_value (v := .pointer (some ⟨q, 4, none⟩)) (w' := X) ?_ (hJ.put HOK.out rfl (by rw [ws3_off (by decide) (by decide) (by decide)]; exact hJ.wd))
              clear hd hcl hJ hL
              go_simp
            · intro ρ X L hc hf hL hd hcl hJ
              have k47 : ρ (.tmp 47) = .pointer (some ⟨q, 4, none⟩) := hJ.vals 0 47 (.pointer (some ⟨q, 4, none⟩)) rfl (hd ⟨0, .data⟩ (by simp) rfl)
              have hst : L 14 = false := not_done (by kernel_rfl) hcl (k := 1) (by simp) hL
              have hx := LH.out X (ws3_in hJ.wd hst)
              clear hst
              refine does_value (v := sl rl n) (w' := X) ?_ (hJ.put HOK.out rfl (by rw [ws3_off (by decide) (by decide) (by decide)]; exact hJ.wd))
              clear hd hcl hJ hL
              go_simp
            · intro ρ X L hc hf hL hd hcl hJ
              have k9 : ρ (.tmp 9) = ptr qr := hJ.base (9, ptr qr) (by simp)
              refine does_value (v := .pointer (some ⟨qr, 1, none⟩)) (w' := X) ?_ (hJ.put HOK.out rfl (by rw [ws3_off (by decide) (by decide) (by decide)]; exact hJ.wd))
              clear hd hcl hJ hL
              go_simp
            · intro ρ X L hc hf hL hd hcl hJ
              have k49 : ρ (.tmp 49) = .pointer (some ⟨qr, 1, none⟩) := hJ.vals 2 49 (.pointer (some ⟨qr, 1, none⟩)) rfl (hd ⟨2, .data⟩ (by simp) rfl)
              have hst : L 14 = false := not_done (by kernel_rfl) hcl (k := 3) (by simp) hL
              have hx := LQ.out X (ws3_in hJ.wd hst)
              clear hst
              refine does_value (v := .int .i64 hm) (w' := X) ?_ (hJ.put HOK.out rfl (by rw [ws3_off (by decide) (by decide) (by decide)]; exact hJ.wd))
              clear hd hcl hJ hL
              go_simp
            · intro ρ X L hc hf hL hd hcl hJ
              have k5 : ρ (.tmp 5) = ptr q := hJ.base (5, ptr q) (by simp)
              refine does_value (v := .pointer (some ⟨q, 4, none⟩)) (w' := X) ?_ (hJ.put HOK.out rfl (by rw [ws3_off (by decide) (by decide) (by decide)]; exact hJ.wd))
              clear hd hcl hJ hL
              go_simp
            · intro ρ X L hc hf hL hd hcl hJ
              have k51 : ρ (.tmp 51) = .pointer (some ⟨q, 4, none⟩) := hJ.vals 4 51 (.pointer (some ⟨q, 4, none⟩)) rfl (hd ⟨4, .data⟩ (by simp) rfl)
              have hst : L 14 = false := not_done (by kernel_rfl) hcl (k := 5) (by simp) hL
              have hx := LH.out X (ws3_in hJ.wd hst)
              clear hst
              refine does_value (v := sl rl n) (w' := X) ?_ (hJ.put HOK.out rfl (by rw [ws3_off (by decide) (by decide) (by decide)]; exact hJ.wd))
              clear hd hcl hJ hL
              go_simp
            · intro ρ X L hc hf hL hd hcl hJ
              have k9 : ρ (.tmp 9) = ptr qr := hJ.base (9, ptr qr) (by simp)
              refine does_value (v := .pointer (some ⟨qr, 1, none⟩)) (w' := X) ?_ (hJ.put HOK.out rfl (by rw [ws3_off (by decide) (by decide) (by decide)]; exact hJ.wd))
              clear hd hcl hJ hL
              go_simp
            · intro ρ X L hc hf hL hd hcl hJ
              have k53 : ρ (.tmp 53) = .pointer (some ⟨qr, 1, none⟩) := hJ.vals 6 53 (.pointer (some ⟨qr, 1, none⟩)) rfl (hd ⟨6, .data⟩ (by simp) rfl)
              have hst : L 14 = false := not_done (by kernel_rfl) hcl (k := 7) (by simp) hL
              have hx := LQ.out X (ws3_in hJ.wd hst)
              clear hst
              refine does_value (v := .int .i64 hm) (w' := X) ?_ (hJ.put HOK.out rfl (by rw [ws3_off (by decide) (by decide) (by decide)]; exact hJ.wd))
              clear hd hcl hJ hL
              go_simp
            · intro ρ X L hc hf hL hd hcl hJ
              have k52 : ρ (.tmp 52) = sl rl n := hJ.vals 5 52 (sl rl n) rfl (hd ⟨5, .data⟩ (by simp) rfl)
              have k54 : ρ (.tmp 54) = .int .i64 hm := hJ.vals 7 54 (.int .i64 hm) rfl (hd ⟨7, .data⟩ (by simp) rfl)
              refine does_value (v := .pointer (some ⟨rl, hm, none⟩)) (w' := X) ?_ (hJ.put HOK.out rfl (by rw [ws3_off (by decide) (by decide) (by decide)]; exact hJ.wd))
              clear hd hcl hJ hL
              go_simp
            · intro ρ X L hc hf hL hd hcl hJ
              have k55 : ρ (.tmp 55) = .pointer (some ⟨rl, hm, none⟩) := hJ.vals 8 55 (.pointer (some ⟨rl, hm, none⟩)) rfl (hd ⟨8, .data⟩ (by simp) rfl)
              have hst : L 14 = false := not_done (by kernel_rfl) hcl (k := 9) (by simp) hL
              have hx := LR.out X (ws3_in hJ.wd hst)
              clear hst
              refine does_value (v := .slice la0 l0.length lc0) (w' := X) ?_ (hJ.put HOK.out rfl (by rw [ws3_off (by decide) (by decide) (by decide)]; exact hJ.wd))
              clear hd hcl hJ hL
              go_simp
            · intro ρ X L hc hf hL hd hcl hJ
              have k8 : ρ (.tmp 8) = .int .i64 k := hJ.base (8, .int .i64 k) (by simp)
              refine does_value (v := .int .i64 k) (w' := X) ?_ (hJ.put HOK.out rfl (by rw [ws3_off (by decide) (by decide) (by decide)]; exact hJ.wd))
              clear hd hcl hJ hL
              go_simp
            · intro ρ X L hc hf hL hd hcl hJ
              have k57 : ρ (.tmp 57) = .int .i64 k := hJ.vals 10 57 (.int .i64 k) rfl (hd ⟨10, .data⟩ (by simp) rfl)
              have hap : L 12 = false := by cases e : L 12 with | false => rfl | true => (have := hcl 12 _ rfl e ⟨11, .data⟩ (by simp) rfl; rw [show (⟨11, .data⟩ : Edge).on = 11 from rfl] at this; rw [hL] at this; cases this)
              have hst : L 14 = false := not_done (by kernel_rfl) hcl (k := 11) (by simp) hL
              have hX := hJ.wd.trans (ws3_0 hL hap hst)
              refine does_value (v := .slice (some ⟨wd.heap.size, 0, none⟩) 1 1) (w' := wd.alloc (.cells #[.int .i64 k] 3)) ?_ (hJ.put HOK.out rfl ((ws3_1 more_at (by rw [more_off (by decide)]; exact hap) (by rw [more_off (by decide)]; exact hst)).symm))
              subst hX
              clear hd hcl hJ hL hap hst
              go_simp
            · intro ρ X L hc hf hL hd hcl hJ
              have k56 : ρ (.tmp 56) = .slice la0 l0.length lc0 := hJ.vals 9 56 (.slice la0 l0.length lc0) rfl (hd ⟨9, .data⟩ (by simp) rfl)
              have k58 : ρ (.tmp 58) = .slice (some ⟨wd.heap.size, 0, none⟩) 1 1 := hJ.vals 11 58 (.slice (some ⟨wd.heap.size, 0, none⟩) 1 1) rfl (hd ⟨11, .data⟩ (by simp) rfl)
              have hbs : L 11 = true := hd ⟨11, .data⟩ (by simp) rfl
              have hst : L 14 = false := not_done (by kernel_rfl) hcl (k := 12) (by simp) hL
              have hX := hJ.wd.trans (ws3_1 hbs hL hst)
              refine does_app _ _ 26 rfl k56 k58 (u := .slice (some ⟨gg0, 0, none⟩) (l0.length + 1) cap0) (w' := w2) (by rw [hX]; exact HR2.out) (hJ.put HOK.out rfl ((ws3_2 more_at (by rw [more_off (by decide)]; exact hst)).symm))
            · intro ρ X L hc hf hL hd hcl hJ
              have k48 : ρ (.tmp 48) = sl rl n := hJ.vals 1 48 (sl rl n) rfl (hd ⟨1, .data⟩ (by simp) rfl)
              have k50 : ρ (.tmp 50) = .int .i64 hm := hJ.vals 3 50 (.int .i64 hm) rfl (hd ⟨3, .data⟩ (by simp) rfl)
              refine does_value (v := .pointer (some ⟨rl, hm, none⟩)) (w' := X) ?_ (hJ.put HOK.out rfl (by rw [ws3_off (by decide) (by decide) (by decide)]; exact hJ.wd))
              clear hd hcl hJ hL
              go_simp
            · intro ρ X L hc hf hL hd hcl hJ
              have k60 : ρ (.tmp 60) = .pointer (some ⟨rl, hm, none⟩) := hJ.vals 13 60 (.pointer (some ⟨rl, hm, none⟩)) rfl (hd ⟨13, .data⟩ (by simp) rfl)
              have k59 : ρ (.tmp 59) = .slice (some ⟨gg0, 0, none⟩) (l0.length + 1) cap0 := hJ.vals 12 59 (.slice (some ⟨gg0, 0, none⟩) (l0.length + 1) cap0) rfl (hd ⟨12, .data⟩ (by simp) rfl)
              have hap : L 12 = true := hd ⟨12, .data⟩ (by simp) rfl
              have hX := hJ.wd.trans (ws3_2 hap hL)
              refine does_skip (w' := w3) ?_ (hJ.last rfl ((ws3_3 more_at).symm))
              subst hX
              clear hd hcl hJ hL hap
              rw [← HW3.out]
              go_simp
            · intro c a' w' _ hE
              exact hE.elim
            · rintro ⟨tmm, df⟩ w' hsz hdf ⟨L, hL, hJ⟩ hold
              simp only at hdf hsz
              subst hdf
              have hw4 : w3 = w' := (hJ.wd.trans (ws3_3 (hL 14 (by decide)))).symm
              subst hw4
              have htm := frame_keep 47 60 (by kernel_rfl) hsz hold
              simp only [zr, Nat.reduceLT, Nat.reduceAdd, true_or, or_true, or_self, if_true, if_false] at htm
              rw [htm]
              clear htm hJ hL hold hsz HOK HR2 HW3 LH LQ LR q1 q2 hwd
              generalize tmm.getD 47 undef = x47
              generalize tmm.getD 48 undef = x48
              generalize tmm.getD 49 undef = x49
              generalize tmm.getD 50 undef = x50
              generalize tmm.getD 51 undef = x51
              generalize tmm.getD 52 undef = x52
              generalize tmm.getD 53 undef = x53
              generalize tmm.getD 54 undef = x54
              generalize tmm.getD 55 undef = x55
              generalize tmm.getD 56 undef = x56
              generalize tmm.getD 57 undef = x57
              generalize tmm.getD 58 undef = x58
              generalize tmm.getD 59 undef = x59
              generalize tmm.getD 60 undef = x60
              have HQ := hide HQ3.out
              have HBq := hide HB3.out
              clear HQ3 HB3
              have cq0 := HQ.out.get (i := 0) rfl
              have cq1 := HQ.out.get (i := 1) rfl
              have cq2 := HQ.out.get (i := 2) rfl
              have CT := hide (isTeam_any (w := w3) (k := r.kind) (h := (hm : Int)) (v := .slice bd r.body.length bp))
              cases hkt : kT r with
              | false =>
                have hkd : (!decide (r.kind = 3)) = false := hkt
                rw [hkd] at CT
                have HG2 := hide (HG.out.step3 HRr.out HHM.out hidx hkt hm0)
                have HS3 : Hid (decide (r.kind = 1) = false) := hide (by unfold kT at hkt; simp at hkt; rw [hkt]; rfl)
                have HFK : Hid (ffK T F (k + 1) = ffK T F k) := hide (ffK_skip HRr.out (by unfold kS; exact HS3.out))
                clear hkt hkd
                go_wp2_with (first | (go_at_call 68; refine CT.out.mono ?_; rintro _ w5 ⟨rfl, hb⟩; have HB5 := hide hb; have HQ5 := HQ.out.keep (hb.block _ HQ.out.lt); have cr0 := HQ5.get (i := 0) rfl; have cr1 := HQ5.get (i := 1) rfl; have cr2 := HQ5.get (i := 2) rfl; have CI := hide (isStrict_any (w := w5) (k := r.kind) (h := (hm : Int)) (v := .slice bd r.body.length bp)); rw [HS3.out] at CI; clear hb HQ5) | (go_at_call 66; refine CI.out.mono ?_; rintro _ w6 ⟨rfl, hb⟩; have HB6 := hide (HB5.out.trans (hb.mono HB5.out.size)); clear hb))
                go_roundw
                case rel => exact ⟨k + 1, _, _, by omega, by go_num, HG2, hide (by rw [HFK.out]; exact HN0a.out.go HB6.out), hide (HBq.out.trans (HB6.out.mono HBq.out.size))⟩
                case measure => simp [intOf]; omega
              | true =>
                have hkd : (!decide (r.kind = 3)) = true := hkt
                rw [hkd] at CT
                have HKT := hide hkt
                clear hkt hkd
                go_upto_region 12 with (go_at_call 68; refine CT.out.mono ?_; rintro _ wt ⟨rfl, hb⟩; have HB5 := hide hb; clear hb)
                have HNt := hide (HN0a.out.go HB5.out)
                have HQ5 := hide (HQ.out.keep (HB5.out.block _ HQ.out.lt))
                have HB5q := hide (HBq.out.trans (HB5.out.mono HBq.out.size))
                have HM0 := hide hm0
                clear HQ HBq HN0a cq0 cq1 cq2 CT HB5 hm0 hml0
                have HQ := hide HQ5.out
                have HBq := hide HB5q.out
                clear HQ5 HB5q
                have hdr1 := (Below.refl wt.heap.size wt).drew
                have HNd1 := hide (HNt.out.go hdr1)
                have HQd1 := hide (HQ.out.keep (hdr1.block _ HQ.out.lt))
                have HBd1 := hide (HBq.out.trans (hdr1.mono HBq.out.size))
                obtain ⟨wd, hwd⟩ : ∃ wd, wt.drew = wd := ⟨_, rfl⟩
                rw [hwd] at HNd1 HQd1 HBd1
                obtain ⟨l1, la1, lc1, hm1, hv1, cm1, om1⟩ := HNd1.out.h3.at (c := 1) (by omega) (show hm < n from hidx)
                have cm1 : wd.cell? ⟨tm, hm, none⟩ = some (.slice la1 l1.length lc1) := cm1
                have hml1 : l1.length ≤ 4096 := HLEN.out 1 hm _ (by omega) hm1
                have hA1 := below_new wd (.cells #[.int .i64 k] 3)
                have hbs1 : W.heap.size ≤ wd.heap.size := HBd1.out.size
                obtain ⟨gg1, cap1, w2, hr2, hown1, hgrow1, hat1, hlt1⟩ := run_append_lies (P := Tryz.prog) (wd.alloc (.cells #[.int .i64 k] 3)) 26 26 W.heap.size 3 iI _ 1 8 Tryz.underlying26 hiI zI0 zI1 zI2 rfl (by decide) (.slice la1 l1.length lc1) l1.length (ints l1) (owns_keep om1 fun g hg => hA1.block g (owns_lt om1 hg)) ⟨wd.heap.size, 0, none⟩ 1 1 [.int .i64 k] rfl (World.news_of_block (cs := [.int .i64 k].toArray) (t := 3) (fr := (0, 0)) (heap_alloc_new wd (.cells #[.int .i64 k] 3))) (by simp [Value.oneCell']) (by decide) (by unfold maxLen; omega) (by omega) (by simp; omega) (wd.heap.size + 1) (by simp)
                have HR2 := hide hr2
                have hold1 : ∀ k, k < wd.heap.size → Value.ownBlock (.slice la1 l1.length lc1) ≠ some k → w2.heap[k]? = wd.heap[k]? := fun k hk hn => (hgrow1.block k (by simp; omega) fun e => hn e.symm).trans (hA1.block k hk)
                have HNE1 := own_fx om1 (HNd1.out.h3.fx 1 (by omega)) (by decide)
                have HNQ1 := own_fx om1 HQd1.out (by decide)
                have HNB1 := own_fx om1 HNd1.out.bx (by decide)
                obtain ⟨w3, hw3⟩ : ∃ w3, w2.setCell ⟨tm, hm, none⟩ (.slice (some ⟨gg1, 0, none⟩) (l1.length + 1) cap1) = w3 := ⟨_, rfl⟩
                have HW3 := hide hw3
                have HN1a : Hid (Nx W.heap.size q rl tm rv fm fa (some ⟨gr, go, none⟩) ba fc rc bc T n (ffK T F k) (up (up H 0 ((H 0).set hm (l0 ++ [(k : Int)]))) 1 (((up H 0 ((H 0).set hm (l0 ++ [(k : Int)]))) 1).set hm (l1 ++ [(k : Int)]))) (up (up vs 0 ((vs 0).set hm (.slice (some ⟨gg0, 0, none⟩) (l0.length + 1) cap0))) 1 (((up vs 0 ((vs 0).set hm (.slice (some ⟨gg0, 0, none⟩) (l0.length + 1) cap0))) 1).set hm (.slice (some ⟨gg1, 0, none⟩) (l1.length + 1) cap1))) w3) := hide (by rw [← hw3]; exact HNd1.out.add (c := 1) (by omega) hm1 hv1 hown1 hold1 (by rcases hat1 with h | h; exact .inl h; exact .inr (by omega)))
                have HQ3 : Hid (Fx qr 81 [.int .i64 r.kind, .int .i64 hm, .slice bd r.body.length bp] w3) := hide (by rw [← hw3]; exact (HQd1.out.keep (hold1 _ HQd1.out.lt HNQ1)).keep (other_set (fx_ne HQd1.out (HNd1.out.h3.fx 1 (by omega)) (by decide))))
                have HB3 : Hid (Below W.heap.size W w3) := hide (by rw [← hw3]; exact (HBd1.out.trans (show Below W.heap.size wd w2 from (hA1.mono hbs1).trans ⟨hgrow1.os, hgrow1.tape, hgrow1.output, hgrow1.size, fun k hk => hgrow1.block k (by simp; omega) fun e => by have := (om1.lt k e.symm).1; omega⟩)).setCell (p := ⟨tm, hm, none⟩) (HNd1.out.h3.lo 1 (by omega)) (.slice (some ⟨gg1, 0, none⟩) (l1.length + 1) cap1))
                have kb1 : ∀ {a : Addr} {v : Value}, wd.cell? a = some v → Value.ownBlock (.slice la1 l1.length lc1) ≠ some a.block → ∀ X, X = wd ∨ X = wd.alloc (.cells #[.int .i64 k] 3) ∨ X = w2 → X.cell? a = some v := fun ha hn X hX => by
                  have hlt := World.block_lt_of_cell? wd _ ha
                  rcases hX with rfl | rfl | rfl
                  · exact ha
                  · exact cell_on ha hA1
                  · exact (World.cell?_of_block (hold1 _ hlt hn)).trans ha
                have LH := hide (kb1 (HNd1.out.bx.get (i := 5) (v := sl tm n) rfl) HNB1)
                have LQ := hide (kb1 (HQd1.out.get (i := 1) rfl) HNQ1)
                have LR := hide (kb1 cm1 HNE1)
                have q1 : w2.cell? ⟨tm, hm, none⟩ = some (.slice la1 l1.length lc1) := LR.out w2 (.inr (.inr rfl))
                have q2 : w2.frozen? ⟨tm, hm, none⟩ = false := ((HNd1.out.h3.fx 1 (by omega)).keep (hold1 _ (HNd1.out.h3.fx 1 (by omega)).lt HNE1)).frz hm
                have HOK : Hid (okD ([some (63, .pointer (some ⟨q, 5, none⟩)), some (64, sl tm n), some (65, .pointer (some ⟨qr, 1, none⟩)), some (66, .int .i64 hm), some (67, .pointer (some ⟨q, 5, none⟩)), some (68, sl tm n), some (69, .pointer (some ⟨qr, 1, none⟩)), some (70, .int .i64 hm), some (71, .pointer (some ⟨tm, hm, none⟩)), some (72, .slice la1 l1.length lc1), some (73, .int .i64 k), some (74, .slice (some ⟨wd.heap.size, 0, none⟩) 1 1), some (75, .slice (some ⟨gg1, 0, none⟩) (l1.length + 1) cap1), some (76, .pointer (some ⟨tm, hm, none⟩)), none].map fun p : Option (Nat × Value) => p.map Prod.fst) [(5, ptr q), (9, ptr qr), (8, .int .i64 k)] = true) := hide rfl
                clear HNt HQ HBq cm1 hgrow1 hown1 hr2 HNQ1 HNB1 HNE1 hv1 hat1 hlt1 kb1 hold1 hA1 om1 HNd1 HQd1 HBd1 hbs1 hdr1 hw3
                refine region_j NoE (Jt [some (63, .pointer (some ⟨q, 5, none⟩)), some (64, sl tm n), some (65, .pointer (some ⟨qr, 1, none⟩)), some (66, .int .i64 hm), some (67, .pointer (some ⟨q, 5, none⟩)), some (68, sl tm n), some (69, .pointer (some ⟨qr, 1, none⟩)), some (70, .int .i64 hm), some (71, .pointer (some ⟨tm, hm, none⟩)), some (72, .slice la1 l1.length lc1), some (73, .int .i64 k), some (74, .slice (some ⟨wd.heap.size, 0, none⟩) 1 1), some (75, .slice (some ⟨gg1, 0, none⟩) (l1.length + 1) cap1), some (76, .pointer (some ⟨tm, hm, none⟩)), none] [(5, ptr q), (9, ptr qr), (8, .int .i64 k)] (ws3 11 12 14 wd (wd.alloc (.cells #[.int .i64 k] 3)) w2 w3)) (by kernel_rfl) (by kernel_rfl) ?_ (steps_j ⟨?_, ?_, ?_, ?_, ?_, ?_, ?_, ?_, ?_, ?_, ?_, ?_, ?_, ?_, ?_, trivial⟩) ?_ ?_
                · exact ⟨fun p hp => by simp at hp; rcases hp with rfl | rfl | rfl <;> rfl, fun i d v _ hL => (by cases hL), hwd⟩
                · intro ρ X L hc hf hL hd hcl hJ
                  have k5 : ρ (.tmp 5) = ptr q := hJ.base (5, ptr q) (by simp)
                  refine does_value (v := .pointer (some ⟨q, 5, none⟩)) (w' := X) ?_ (hJ.put HOK.out rfl (by rw [ws3_off (by decide) (by decide) (by decide)]; exact hJ.wd))
                  clear hd hcl hJ hL
                  go_simp
                · intro ρ X L hc hf hL hd hcl hJ
                  have k63 : ρ (.tmp 63) = .pointer (some ⟨q, 5, none⟩) := hJ.vals 0 63 (.pointer (some ⟨q, 5, none⟩)) rfl (hd ⟨0, .data⟩ (by simp) rfl)
                  have hst : L 14 = false := not_done (by kernel_rfl) hcl (k := 1) (by simp) hL
                  have hx := LH.out X (ws3_in hJ.wd hst)
                  clear hst
                  refine does_value (v := sl tm n) (w' := X) ?_ (hJ.put HOK.out rfl (by rw [ws3_off (by decide) (by decide) (by decide)]; exact hJ.wd))
                  clear hd hcl hJ hL
                  go_simp
                · intro ρ X L hc hf hL hd hcl hJ
                  have k9 : ρ (.tmp 9) = ptr qr := hJ.base (9, ptr qr) (by simp)
                  refine does_value (v := .pointer (some ⟨qr, 1, none⟩)) (w' := X) ?_ (hJ.put HOK.out rfl (by rw [ws3_off (by decide) (by decide) (by decide)]; exact hJ.wd))
                  clear hd hcl hJ hL
                  go_simp
                · intro ρ X L hc hf hL hd hcl hJ
                  have k65 : ρ (.tmp 65) = .pointer (some ⟨qr, 1, none⟩) := hJ.vals 2 65 (.pointer (some ⟨qr, 1, none⟩)) rfl (hd ⟨2, .data⟩ (by simp) rfl)
                  have hst : L 14 = false := not_done (by kernel_rfl) hcl (k := 3) (by simp) hL
                  have hx := LQ.out X (ws3_in hJ.wd hst)
                  clear hst
                  refine does_value (v := .int .i64 hm) (w' := X) ?_ (hJ.put HOK.out rfl (by rw [ws3_off (by decide) (by decide) (by decide)]; exact hJ.wd))
                  clear hd hcl hJ hL
                  go_simp
                · intro ρ X L hc hf hL hd hcl hJ
                  have k5 : ρ (.tmp 5) = ptr q := hJ.base (5, ptr q) (by simp)
                  refine does_value (v := .pointer (some ⟨q, 5, none⟩)) (w' := X) ?_ (hJ.put HOK.out rfl (by rw [ws3_off (by decide) (by decide) (by decide)]; exact hJ.wd))
                  clear hd hcl hJ hL
                  go_simp
                · intro ρ X L hc hf hL hd hcl hJ
                  have k67 : ρ (.tmp 67) = .pointer (some ⟨q, 5, none⟩) := hJ.vals 4 67 (.pointer (some ⟨q, 5, none⟩)) rfl (hd ⟨4, .data⟩ (by simp) rfl)
                  have hst : L 14 = false := not_done (by kernel_rfl) hcl (k := 5) (by simp) hL
                  have hx := LH.out X (ws3_in hJ.wd hst)
                  clear hst
                  refine does_value (v := sl tm n) (w' := X) ?_ (hJ.put HOK.out rfl (by rw [ws3_off (by decide) (by decide) (by decide)]; exact hJ.wd))
                  clear hd hcl hJ hL
                  go_simp
                · intro ρ X L hc hf hL hd hcl hJ
                  have k9 : ρ (.tmp 9) = ptr qr := hJ.base (9, ptr qr) (by simp)
                  refine does_value (v := .pointer (some ⟨qr, 1, none⟩)) (w' := X) ?_ (hJ.put HOK.out rfl (by rw [ws3_off (by decide) (by decide) (by decide)]; exact hJ.wd))
                  clear hd hcl hJ hL
                  go_simp
                · intro ρ X L hc hf hL hd hcl hJ
                  have k69 : ρ (.tmp 69) = .pointer (some ⟨qr, 1, none⟩) := hJ.vals 6 69 (.pointer (some ⟨qr, 1, none⟩)) rfl (hd ⟨6, .data⟩ (by simp) rfl)
                  have hst : L 14 = false := not_done (by kernel_rfl) hcl (k := 7) (by simp) hL
                  have hx := LQ.out X (ws3_in hJ.wd hst)
                  clear hst
                  refine does_value (v := .int .i64 hm) (w' := X) ?_ (hJ.put HOK.out rfl (by rw [ws3_off (by decide) (by decide) (by decide)]; exact hJ.wd))
                  clear hd hcl hJ hL
                  go_simp
                · intro ρ X L hc hf hL hd hcl hJ
                  have k68 : ρ (.tmp 68) = sl tm n := hJ.vals 5 68 (sl tm n) rfl (hd ⟨5, .data⟩ (by simp) rfl)
                  have k70 : ρ (.tmp 70) = .int .i64 hm := hJ.vals 7 70 (.int .i64 hm) rfl (hd ⟨7, .data⟩ (by simp) rfl)
                  refine does_value (v := .pointer (some ⟨tm, hm, none⟩)) (w' := X) ?_ (hJ.put HOK.out rfl (by rw [ws3_off (by decide) (by decide) (by decide)]; exact hJ.wd))
                  clear hd hcl hJ hL
                  go_simp
                · intro ρ X L hc hf hL hd hcl hJ
                  have k71 : ρ (.tmp 71) = .pointer (some ⟨tm, hm, none⟩) := hJ.vals 8 71 (.pointer (some ⟨tm, hm, none⟩)) rfl (hd ⟨8, .data⟩ (by simp) rfl)
                  have hst : L 14 = false := not_done (by kernel_rfl) hcl (k := 9) (by simp) hL
                  have hx := LR.out X (ws3_in hJ.wd hst)
                  clear hst
                  refine does_value (v := .slice la1 l1.length lc1) (w' := X) ?_ (hJ.put HOK.out rfl (by rw [ws3_off (by decide) (by decide) (by decide)]; exact hJ.wd))
                  clear hd hcl hJ hL
                  go_simp
                · intro ρ X L hc hf hL hd hcl hJ
                  have k8 : ρ (.tmp 8) = .int .i64 k := hJ.base (8, .int .i64 k) (by simp)
                  refine does_value (v := .int .i64 k) (w' := X) ?_ (hJ.put HOK.out rfl (by rw [ws3_off (by decide) (by decide) (by decide)]; exact hJ.wd))
                  clear hd hcl hJ hL
                  go_simp
                · intro ρ X L hc hf hL hd hcl hJ
                  have k73 : ρ (.tmp 73) = .int .i64 k := hJ.vals 10 73 (.int .i64 k) rfl (hd ⟨10, .data⟩ (by simp) rfl)
                  have hap : L 12 = false := by cases e : L 12 with | false => rfl | true => (have := hcl 12 _ rfl e ⟨11, .data⟩ (by simp) rfl; rw [show (⟨11, .data⟩ : Edge).on = 11 from rfl] at this; rw [hL] at this; cases this)
                  have hst : L 14 = false := not_done (by kernel_rfl) hcl (k := 11) (by simp) hL
                  have hX := hJ.wd.trans (ws3_0 hL hap hst)
                  refine does_value (v := .slice (some ⟨wd.heap.size, 0, none⟩) 1 1) (w' := wd.alloc (.cells #[.int .i64 k] 3)) ?_ (hJ.put HOK.out rfl ((ws3_1 more_at (by rw [more_off (by decide)]; exact hap) (by rw [more_off (by decide)]; exact hst)).symm))
                  subst hX
                  clear hd hcl hJ hL hap hst
                  go_simp
                · intro ρ X L hc hf hL hd hcl hJ
                  have k72 : ρ (.tmp 72) = .slice la1 l1.length lc1 := hJ.vals 9 72 (.slice la1 l1.length lc1) rfl (hd ⟨9, .data⟩ (by simp) rfl)
                  have k74 : ρ (.tmp 74) = .slice (some ⟨wd.heap.size, 0, none⟩) 1 1 := hJ.vals 11 74 (.slice (some ⟨wd.heap.size, 0, none⟩) 1 1) rfl (hd ⟨11, .data⟩ (by simp) rfl)
                  have hbs : L 11 = true := hd ⟨11, .data⟩ (by simp) rfl
                  have hst : L 14 = false := not_done (by kernel_rfl) hcl (k := 12) (by simp) hL
                  have hX := hJ.wd.trans (ws3_1 hbs hL hst)
                  refine does_app _ _ 26 rfl k72 k74 (u := .slice (some ⟨gg1, 0, none⟩) (l1.length + 1) cap1) (w' := w2) (by rw [hX]; exact HR2.out) (hJ.put HOK.out rfl ((ws3_2 more_at (by rw [more_off (by decide)]; exact hst)).symm))
                · intro ρ X L hc hf hL hd hcl hJ
                  have k64 : ρ (.tmp 64) = sl tm n := hJ.vals 1 64 (sl tm n) rfl (hd ⟨1, .data⟩ (by simp) rfl)
                  have k66 : ρ (.tmp 66) = .int .i64 hm := hJ.vals 3 66 (.int .i64 hm) rfl (hd ⟨3, .data⟩ (by simp) rfl)
                  refine does_value (v := .pointer (some ⟨tm, hm, none⟩)) (w' := X) ?_ (hJ.put HOK.out rfl (by rw [ws3_off (by decide) (by decide) (by decide)]; exact hJ.wd))
                  clear hd hcl hJ hL
                  go_simp
                · intro ρ X L hc hf hL hd hcl hJ
                  have k76 : ρ (.tmp 76) = .pointer (some ⟨tm, hm, none⟩) := hJ.vals 13 76 (.pointer (some ⟨tm, hm, none⟩)) rfl (hd ⟨13, .data⟩ (by simp) rfl)
                  have k75 : ρ (.tmp 75) = .slice (some ⟨gg1, 0, none⟩) (l1.length + 1) cap1 := hJ.vals 12 75 (.slice (some ⟨gg1, 0, none⟩) (l1.length + 1) cap1) rfl (hd ⟨12, .data⟩ (by simp) rfl)
                  have hap : L 12 = true := hd ⟨12, .data⟩ (by simp) rfl
                  have hX := hJ.wd.trans (ws3_2 hap hL)
                  refine does_skip (w' := w3) ?_ (hJ.last rfl ((ws3_3 more_at).symm))
                  subst hX
                  clear hd hcl hJ hL hap
                  rw [← HW3.out]
                  go_simp
                · intro c a' w' _ hE
                  exact hE.elim
                · rintro ⟨tmm, df⟩ w' hsz hdf ⟨L, hL, hJ⟩ hold
                  simp only at hdf hsz
                  subst hdf
                  have hw4 : w3 = w' := (hJ.wd.trans (ws3_3 (hL 14 (by decide)))).symm
                  subst hw4
                  have htm := frame_keep 63 76 (by kernel_rfl) hsz hold
                  simp only [zr, Nat.reduceLT, Nat.reduceAdd, true_or, or_true, or_self, if_true, if_false] at htm
                  rw [htm]
                  clear htm hJ hL hold hsz HOK HR2 HW3 LH LQ LR q1 q2 hwd
                  generalize tmm.getD 63 undef = x63
                  generalize tmm.getD 64 undef = x64
                  generalize tmm.getD 65 undef = x65
                  generalize tmm.getD 66 undef = x66
                  generalize tmm.getD 67 undef = x67
                  generalize tmm.getD 68 undef = x68
                  generalize tmm.getD 69 undef = x69
                  generalize tmm.getD 70 undef = x70
                  generalize tmm.getD 71 undef = x71
                  generalize tmm.getD 72 undef = x72
                  generalize tmm.getD 73 undef = x73
                  generalize tmm.getD 74 undef = x74
                  generalize tmm.getD 75 undef = x75
                  generalize tmm.getD 76 undef = x76
                  have HQ := hide HQ3.out
                  have HBq := hide HB3.out
                  clear HQ3 HB3
                  have cq0 := HQ.out.get (i := 0) rfl
                  have cq1 := HQ.out.get (i := 1) rfl
                  have cq2 := HQ.out.get (i := 2) rfl
                  have CI := hide (isStrict_any (w := w3) (k := r.kind) (h := (hm : Int)) (v := .slice bd r.body.length bp))
                  have HG2 := hide (HG.out.step12 HRr.out HHM.out hidx HKT.out HM0.out hm1)
                  cases hks : kS r with
                  | false =>
                    have hkd : decide (r.kind = 1) = false := hks
                    rw [hkd] at CI
                    have HFK : Hid (ffK T F (k + 1) = ffK T F k) := hide (ffK_skip HRr.out hks)
                    clear hks hkd
                    go_wp2_with (go_at_call 66; refine CI.out.mono ?_; rintro _ w6 ⟨rfl, hb⟩; have HB6 := hide hb; clear hb)
                    go_roundw
                    case rel => exact ⟨k + 1, _, _, by omega, by go_num, HG2, hide (by rw [HFK.out]; exact HN1a.out.go HB6.out), hide (HBq.out.trans (HB6.out.mono HBq.out.size))⟩
                    case measure => simp [intOf]; omega
                  | true =>
                    have hkd : decide (r.kind = 1) = true := hks
                    rw [hkd] at CI
                    have HFK : Hid (ffK T F (k + 1) = upd (ffK T F k) hm true) := hide (ffK_add HRr.out hks HHM.out)
                    clear hks hkd
                    go_upto_region 14 with (go_at_call 66; refine CI.out.mono ?_; rintro _ w6 ⟨rfl, hb⟩; have HB6 := hide hb; clear hb)
                    have HN6 := hide (HN1a.out.go HB6.out)
                    have HQ6 := HQ.out.keep (HB6.out.block _ HQ.out.lt)
                    have HB7 := hide (HBq.out.trans (HB6.out.mono HBq.out.size))
                    have cr1 := HQ6.get (i := 1) rfl
                    have c7 := HN6.out.bx.get (i := 7) rfl
                    have cf := HN6.out.ff.get (rowB_at hidx)
                    have zf := HN6.out.ff.frz hm
                    have HN7 := hide (HN6.out.setF hidx)
                    have HB8 := hide (HB7.out.setCell (p := ⟨fm, hm, none⟩) HN6.out.lo.2 (.bool true))
                    clear HQ6 cq0 cq1 cq2
                    go_wp2_with fail
                    go_roundw
                    case rel => exact ⟨k + 1, _, _, by omega, by go_num, HG2, hide (by rw [HFK.out]; exact HN7.out), HB8⟩
                    case measure => simp [intOf]; omega
          · have hkR : k = T.rules.length := by omega
            subst hkR
            have HFR : Hid (ffK T F T.rules.length = firmB T F) := hide rfl
            clear HFR
            have hfl : T.foes.length = n := by have := HP.out.ok.fl; have := HP.out.ln; omega
            have c1 := (HX1.out.keep (HBr.out.block _ HX1.out.lt)).get (i := 1) rfl
            rw [hfl] at c1
            have HG0 := hide HG.out.three
            have HNs : Hid (Nx W.heap.size q rl tm rv fm fa ra ba fc rc bc T n (firmB T F) H vs wr2) := hide HN.out
            have HBs := hide HBr.out
            clear HN HBr HG hlt hk
            go_wp2_with fail
            clear c1
            go_loopw [88] (fun x wr => ∃ (k : Nat) (H : Nat → List (List Int)) (vs : Nat → List Value), k ≤ n ∧ x = .int .i64 k ∧ Hid (G3 T n k 0 H) ∧ Hid (Nx W.heap.size q rl tm rv fm fa ra ba fc rc bc T n (firmB T F) H vs wr) ∧ Hid (Below W.heap.size W wr)) (fun x _ => n - (intOf x).toNat)
            case atStart => exact ⟨0, _, _, by omega, rfl, HG0, HNs, HBs⟩
            case round =>
              clear HNs HBs HG0
              rename World => wr3
              obtain ⟨k, H, vs, hk, rfl, HG, HN, HBr⟩ := hrel
              by_cases hlt : k < n
              · obtain ⟨l, hl⟩ := get_at (l := T.foes) (i := k) (by omega)
                have er : row T.foes (k : Int) = l := row_at (by rw [Int.toNat_natCast]; exact hl)
                have HER := hide er
                have HLI : Hid (∀ x ∈ l, isLit0 n x) := hide fun x hx => HP.out.foe k hlt x (by rw [er]; exact hx)
                have hll : l.length ≤ 64 := by rw [← er]; exact (foe_pw0 HP.out hlt).2
                have hR := TR.keep HBr.out.block HTA.out
                obtain ⟨gf, of, la, lc, rfl, hgf, cf, -, -, hI⟩ := at_L hR.foes hl
                have HAT : Hid (∀ X, Below W.heap.size W X → At1 X la (ints l)) := hide fun X hX => by
                  have h2 := TR.keep hX.block HTA.out
                  obtain ⟨g3, o3, a3, c3, e3, hg3, hc3, -, -, hI3⟩ := at_L h2.foes hl
                  cases e3
                  have e4 : wr3.cell? ⟨gf, of + k, none⟩ = X.cell? ⟨gf, of + k, none⟩ := (World.cell?_of_block (HBr.out.block gf hg3)).trans (World.cell?_of_block (hX.block gf hg3)).symm
                  rw [cf, hc3] at e4
                  cases e4
                  exact hI3.at1
                clear hl er hR hI hgf
                go_wp2_with fail
                clear cf
                have HGs := hide HG.out
                have HNs := hide HN.out
                have HBs := hide HBr.out
                clear HG HN HBr
                have HL := hide hlt
                go_loopw [95] (fun x wr => ∃ (j : Nat) (H : Nat → List (List Int)) (vs : Nat → List Value), j ≤ l.length ∧ x = .int .i64 j ∧ Hid (G3 T n k j H) ∧ Hid (Nx W.heap.size q rl tm rv fm (some ⟨gf, of, none⟩) ra ba fc rc bc T n (firmB T F) H vs wr) ∧ Hid (Below W.heap.size W wr)) (fun x _ => l.length - (intOf x).toNat)
                case atStart => exact ⟨0, _, _, by omega, rfl, HGs, HNs, HBs⟩
                case round =>
                  clear HNs HBs HGs
                  rename World => wr4
                  obtain ⟨j, H, vs, hj, rfl, HG, HN, HBr⟩ := hrel
                  by_cases hjl : j < l.length
                  · obtain ⟨fo0, hfo⟩ := get_at hjl
                    obtain ⟨fo1, fo2⟩ := HLI.out fo0 (List.mem_of_getElem? hfo)
                    obtain ⟨fo, rfl⟩ := Int.eq_ofNat_of_zero_le fo1
                    have hfon : fo < n := by omega
                    obtain ⟨gx, ox, rfl, cx⟩ := (HAT.out wr4 HBr.out).get hfo
                    have c5 := HN.out.bx.get (i := 5) rfl
                    obtain ⟨lt, lta, ltc, hm1, hv1, cm1, om1⟩ := HN.out.h3.at (c := 1) (by omega) hfon
                    have cm1 : wr4.cell? ⟨tm, fo, none⟩ = some (.slice lta lt.length ltc) := cm1
                    have HLT : Hid (lt = rulesL T kT fo) := hide (by have := HG.out.t fo hfon; rw [get_eq hm1] at this; exact this)
                    have hltl : lt.length ≤ 4096 := by rw [HLT.out]; exact Nat.le_trans forL_len (by omega)
                    have HFO := hide hfo
                    clear hfo fo1 fo2 hm1 hv1 om1
                    by_cases hlen : 0 < lt.length
                    · have hd0 : decide (0 < (lt.length : Int)) = true := decide_eq_true (by omega)
                      have HNE : Hid (rulesL T kT fo ≠ []) := hide (by rw [← HLT.out]; intro e; rw [e] at hlen; simp at hlen)
                      have hidx : k < n := HL.out
                      have HLEN : Hid (∀ (c i : Nat) (l : List Int), c < 3 → (H c)[i]? = some l → l.length ≤ 4096) := hide fun c i l2 hc hl2 => by
                        have hin : i < n := by rw [← HG.out.ln c hc]; exact (List.getElem?_eq_some_iff.1 hl2).1
                        have e : l2 = (H c).getD i [] := by rw [List.getD_eq_getElem?_getD, hl2]; rfl
                        rw [e]
                        rcases (show c = 0 ∨ c = 1 ∨ c = 2 by omega) with rfl | rfl | rfl
                        · rw [HG.out.a i hin]; exact Nat.le_trans forL_len (by omega)
                        · rw [HG.out.t i hin]; exact Nat.le_trans forL_len (by omega)
                        · exact HG.out.len64 HP.out i hin
                      have HQ : Hid (Fx bq 25 [.int .i64 T.lits, .slice (some ⟨gf, of, none⟩) T.foes.length fc, .slice ra T.rules.length rc, .slice ba T.beats.length bc] wr4) := hide (HX1.out.keep (HBr.out.block _ HX1.out.lt))
                      have HBq := hide HBr.out
                      have hd1 : decide (0 < lt.length) = true := decide_eq_true hlen
                      clear HBr HLT hltl
                      go_upto_region 23 with fail
                      clear c5 cm1 cx hd0 hd1 hlen
                      have hdr2 := (Below.refl wr4.heap.size wr4).drew
                      have HNd2 := hide (HN.out.go hdr2)
                      have HQd2 := hide (HQ.out.keep (hdr2.block _ HQ.out.lt))
                      have HBd2 := hide (HBq.out.trans (hdr2.mono HBq.out.size))
                      obtain ⟨wd, hwd⟩ : ∃ wd, wr4.drew = wd := ⟨_, rfl⟩
                      rw [hwd] at HNd2 HQd2 HBd2
                      obtain ⟨l2, la2, lc2, hm2, hv2, cm2, om2⟩ := HNd2.out.h3.at (c := 2) (by omega) (show k < n from hidx)
                      have cm2 : wd.cell? ⟨rv, k, none⟩ = some (.slice la2 l2.length lc2) := cm2
                      have hml2 : l2.length ≤ 4096 := HLEN.out 2 _ _ (by omega) hm2
                      have hA2 := below_new wd (.cells #[.int .i64 fo] 3)
                      have hbs2 : W.heap.size ≤ wd.heap.size := HBd2.out.size
                      obtain ⟨gg2, cap2, w2, hr2, hown2, hgrow2, hat2, hlt2⟩ := run_append_lies (P := Tryz.prog) (wd.alloc (.cells #[.int .i64 fo] 3)) 26 26 W.heap.size 3 iI _ 1 8 Tryz.underlying26 hiI zI0 zI1 zI2 rfl (by decide) (.slice la2 l2.length lc2) l2.length (ints l2) (owns_keep om2 fun g hg => hA2.block g (owns_lt om2 hg)) ⟨wd.heap.size, 0, none⟩ 1 1 [.int .i64 fo] rfl (World.news_of_block (cs := [.int .i64 fo].toArray) (t := 3) (fr := (0, 0)) (heap_alloc_new wd (.cells #[.int .i64 fo] 3))) (by simp [Value.oneCell']) (by decide) (by unfold maxLen; omega) (by omega) (by simp; omega) (wd.heap.size + 1) (by simp)
                      have HR2 := hide hr2
                      have hold2 : ∀ k, k < wd.heap.size → Value.ownBlock (.slice la2 l2.length lc2) ≠ some k → w2.heap[k]? = wd.heap[k]? := fun k hk hn => (hgrow2.block k (by simp; omega) fun e => hn e.symm).trans (hA2.block k hk)
                      have HNE2 := own_fx om2 (HNd2.out.h3.fx 2 (by omega)) (by decide)
                      have HNQ2 := own_fx om2 HQd2.out (by decide)
                      have HNB2 := own_fx om2 HNd2.out.bx (by decide)
                      obtain ⟨w3, hw3⟩ : ∃ w3, w2.setCell ⟨rv, k, none⟩ (.slice (some ⟨gg2, 0, none⟩) (l2.length + 1) cap2) = w3 := ⟨_, rfl⟩
                      have HW3 := hide hw3
                      have HN2a : Hid (Nx W.heap.size q rl tm rv fm (some ⟨gf, of, none⟩) ra ba fc rc bc T n (firmB T F) (up H 2 ((H 2).set k (l2 ++ [(fo : Int)]))) (up vs 2 ((vs 2).set k (.slice (some ⟨gg2, 0, none⟩) (l2.length + 1) cap2))) w3) := hide (by rw [← hw3]; exact HNd2.out.add (c := 2) (by omega) hm2 hv2 hown2 hold2 (by rcases hat2 with h | h; exact .inl h; exact .inr (by omega)))
                      have HQ3 : Hid (Fx bq 25 [.int .i64 T.lits, .slice (some ⟨gf, of, none⟩) T.foes.length fc, .slice ra T.rules.length rc, .slice ba T.beats.length bc] w3) := hide (by rw [← hw3]; exact (HQd2.out.keep (hold2 _ HQd2.out.lt HNQ2)).keep (other_set (fx_ne HQd2.out (HNd2.out.h3.fx 2 (by omega)) (by decide))))
                      have HB3 : Hid (Below W.heap.size W w3) := hide (by rw [← hw3]; exact (HBd2.out.trans (show Below W.heap.size wd w2 from (hA2.mono hbs2).trans ⟨hgrow2.os, hgrow2.tape, hgrow2.output, hgrow2.size, fun k hk => hgrow2.block k (by simp; omega) fun e => by have := (om2.lt k e.symm).1; omega⟩)).setCell (p := ⟨rv, k, none⟩) (HNd2.out.h3.lo 2 (by omega)) (.slice (some ⟨gg2, 0, none⟩) (l2.length + 1) cap2))
                      have kb2 : ∀ {a : Addr} {v : Value}, wd.cell? a = some v → Value.ownBlock (.slice la2 l2.length lc2) ≠ some a.block → ∀ X, X = wd ∨ X = wd.alloc (.cells #[.int .i64 fo] 3) ∨ X = w2 → X.cell? a = some v := fun ha hn X hX => by
                        have hlt := World.block_lt_of_cell? wd _ ha
                        rcases hX with rfl | rfl | rfl
                        · exact ha
                        · exact cell_on ha hA2
                        · exact (World.cell?_of_block (hold2 _ hlt hn)).trans ha
                      have LH := hide (kb2 (HNd2.out.bx.get (i := 6) (v := sl rv n) rfl) HNB2)
                      have LR := hide (kb2 cm2 HNE2)
                      have q1 : w2.cell? ⟨rv, k, none⟩ = some (.slice la2 l2.length lc2) := LR.out w2 (.inr (.inr rfl))
                      have q2 : w2.frozen? ⟨rv, k, none⟩ = false := ((HNd2.out.h3.fx 2 (by omega)).keep (hold2 _ (HNd2.out.h3.fx 2 (by omega)).lt HNE2)).frz k
                      have HOK : Hid (okD ([some (106, .pointer (some ⟨q, 6, none⟩)), some (107, sl rv n), some (108, .int .i64 k), some (109, .pointer (some ⟨q, 6, none⟩)), some (110, sl rv n), some (111, .int .i64 k), some (112, .pointer (some ⟨rv, k, none⟩)), some (113, .slice la2 l2.length lc2), some (114, .int .i64 fo), some (115, .slice (some ⟨wd.heap.size, 0, none⟩) 1 1), some (116, .slice (some ⟨gg2, 0, none⟩) (l2.length + 1) cap2), some (117, .pointer (some ⟨rv, k, none⟩)), none].map fun p : Option (Nat × Value) => p.map Prod.fst) [(5, ptr q), (10, .int .i64 k), (13, .int .i64 fo)] = true) := hide rfl
                      clear HN HQ HBq cm2 hgrow2 hown2 hr2 HNQ2 HNB2 HNE2 hv2 hat2 hlt2 kb2 hold2 hA2 om2 HNd2 HQd2 HBd2 hbs2 hdr2 hw3
                      refine region_j NoE (Jt [some (106, .pointer (some ⟨q, 6, none⟩)), some (107, sl rv n), some (108, .int .i64 k), some (109, .pointer (some ⟨q, 6, none⟩)), some (110, sl rv n), some (111, .int .i64 k), some (112, .pointer (some ⟨rv, k, none⟩)), some (113, .slice la2 l2.length lc2), some (114, .int .i64 fo), some (115, .slice (some ⟨wd.heap.size, 0, none⟩) 1 1), some (116, .slice (some ⟨gg2, 0, none⟩) (l2.length + 1) cap2), some (117, .pointer (some ⟨rv, k, none⟩)), none] [(5, ptr q), (10, .int .i64 k), (13, .int .i64 fo)] (ws3 9 10 12 wd (wd.alloc (.cells #[.int .i64 fo] 3)) w2 w3)) (by kernel_rfl) (by kernel_rfl) ?_ (steps_j ⟨?_, ?_, ?_, ?_, ?_, ?_, ?_, ?_, ?_, ?_, ?_, ?_, ?_, trivial⟩) ?_ ?_
                      · exact ⟨fun p hp => by simp at hp; rcases hp with rfl | rfl | rfl <;> rfl, fun i d v _ hL => (by cases hL), hwd⟩
                      · intro ρ X L hc hf hL hd hcl hJ
                        have k5 : ρ (.tmp 5) = ptr q := hJ.base (5, ptr q) (by simp)
                        refine does_value (v := .pointer (some ⟨q, 6, none⟩)) (w' := X) ?_ (hJ.put HOK.out rfl (by rw [ws3_off (by decide) (by decide) (by decide)]; exact hJ.wd))
                        clear hd hcl hJ hL
                        go_simp
                      · intro ρ X L hc hf hL hd hcl hJ
                        have k106 : ρ (.tmp 106) = .pointer (some ⟨q, 6, none⟩) := hJ.vals 0 106 (.pointer (some ⟨q, 6, none⟩)) rfl (hd ⟨0, .data⟩ (by simp) rfl)
                        have hst : L 12 = false := not_done (by kernel_rfl) hcl (k := 1) (by simp) hL
                        have hx := LH.out X (ws3_in hJ.wd hst)
                        clear hst
                        refine does_value (v := sl rv n) (w' := X) ?_ (hJ.put HOK.out rfl (by rw [ws3_off (by decide) (by decide) (by decide)]; exact hJ.wd))
                        clear hd hcl hJ hL
                        go_simp
                      · intro ρ X L hc hf hL hd hcl hJ
                        have k10 : ρ (.tmp 10) = .int .i64 k := hJ.base (10, .int .i64 k) (by simp)
                        refine does_value (v := .int .i64 k) (w' := X) ?_ (hJ.put HOK.out rfl (by rw [ws3_off (by decide) (by decide) (by decide)]; exact hJ.wd))
                        clear hd hcl hJ hL
                        go_simp
                      · intro ρ X L hc hf hL hd hcl hJ
                        have k5 : ρ (.tmp 5) = ptr q := hJ.base (5, ptr q) (by simp)
                        refine does_value (v := .pointer (some ⟨q, 6, none⟩)) (w' := X) ?_ (hJ.put HOK.out rfl (by rw [ws3_off (by decide) (by decide) (by decide)]; exact hJ.wd))
                        clear hd hcl hJ hL
                        go_simp
                      · intro ρ X L hc hf hL hd hcl hJ
                        have k109 : ρ (.tmp 109) = .pointer (some ⟨q, 6, none⟩) := hJ.vals 3 109 (.pointer (some ⟨q, 6, none⟩)) rfl (hd ⟨3, .data⟩ (by simp) rfl)
                        have hst : L 12 = false := not_done (by kernel_rfl) hcl (k := 4) (by simp) hL
                        have hx := LH.out X (ws3_in hJ.wd hst)
                        clear hst
                        refine does_value (v := sl rv n) (w' := X) ?_ (hJ.put HOK.out rfl (by rw [ws3_off (by decide) (by decide) (by decide)]; exact hJ.wd))
                        clear hd hcl hJ hL
                        go_simp
                      · intro ρ X L hc hf hL hd hcl hJ
                        have k10 : ρ (.tmp 10) = .int .i64 k := hJ.base (10, .int .i64 k) (by simp)
                        refine does_value (v := .int .i64 k) (w' := X) ?_ (hJ.put HOK.out rfl (by rw [ws3_off (by decide) (by decide) (by decide)]; exact hJ.wd))
                        clear hd hcl hJ hL
                        go_simp
                      · intro ρ X L hc hf hL hd hcl hJ
                        have k110 : ρ (.tmp 110) = sl rv n := hJ.vals 4 110 (sl rv n) rfl (hd ⟨4, .data⟩ (by simp) rfl)
                        have k111 : ρ (.tmp 111) = .int .i64 k := hJ.vals 5 111 (.int .i64 k) rfl (hd ⟨5, .data⟩ (by simp) rfl)
                        refine does_value (v := .pointer (some ⟨rv, k, none⟩)) (w' := X) ?_ (hJ.put HOK.out rfl (by rw [ws3_off (by decide) (by decide) (by decide)]; exact hJ.wd))
                        clear hd hcl hJ hL
                        go_simp
                      · intro ρ X L hc hf hL hd hcl hJ
                        have k112 : ρ (.tmp 112) = .pointer (some ⟨rv, k, none⟩) := hJ.vals 6 112 (.pointer (some ⟨rv, k, none⟩)) rfl (hd ⟨6, .data⟩ (by simp) rfl)
                        have hst : L 12 = false := not_done (by kernel_rfl) hcl (k := 7) (by simp) hL
                        have hx := LR.out X (ws3_in hJ.wd hst)
                        clear hst
                        refine does_value (v := .slice la2 l2.length lc2) (w' := X) ?_ (hJ.put HOK.out rfl (by rw [ws3_off (by decide) (by decide) (by decide)]; exact hJ.wd))
                        clear hd hcl hJ hL
                        go_simp
                      · intro ρ X L hc hf hL hd hcl hJ
                        have k13 : ρ (.tmp 13) = .int .i64 fo := hJ.base (13, .int .i64 fo) (by simp)
                        refine does_value (v := .int .i64 fo) (w' := X) ?_ (hJ.put HOK.out rfl (by rw [ws3_off (by decide) (by decide) (by decide)]; exact hJ.wd))
                        clear hd hcl hJ hL
                        go_simp
                      · intro ρ X L hc hf hL hd hcl hJ
                        have k114 : ρ (.tmp 114) = .int .i64 fo := hJ.vals 8 114 (.int .i64 fo) rfl (hd ⟨8, .data⟩ (by simp) rfl)
                        have hap : L 10 = false := by cases e : L 10 with | false => rfl | true => (have := hcl 10 _ rfl e ⟨9, .data⟩ (by simp) rfl; rw [show (⟨9, .data⟩ : Edge).on = 9 from rfl] at this; rw [hL] at this; cases this)
                        have hst : L 12 = false := not_done (by kernel_rfl) hcl (k := 9) (by simp) hL
                        have hX := hJ.wd.trans (ws3_0 hL hap hst)
                        refine does_value (v := .slice (some ⟨wd.heap.size, 0, none⟩) 1 1) (w' := wd.alloc (.cells #[.int .i64 fo] 3)) ?_ (hJ.put HOK.out rfl ((ws3_1 more_at (by rw [more_off (by decide)]; exact hap) (by rw [more_off (by decide)]; exact hst)).symm))
                        subst hX
                        clear hd hcl hJ hL hap hst
                        go_simp
                      · intro ρ X L hc hf hL hd hcl hJ
                        have k113 : ρ (.tmp 113) = .slice la2 l2.length lc2 := hJ.vals 7 113 (.slice la2 l2.length lc2) rfl (hd ⟨7, .data⟩ (by simp) rfl)
                        have k115 : ρ (.tmp 115) = .slice (some ⟨wd.heap.size, 0, none⟩) 1 1 := hJ.vals 9 115 (.slice (some ⟨wd.heap.size, 0, none⟩) 1 1) rfl (hd ⟨9, .data⟩ (by simp) rfl)
                        have hbs : L 9 = true := hd ⟨9, .data⟩ (by simp) rfl
                        have hst : L 12 = false := not_done (by kernel_rfl) hcl (k := 10) (by simp) hL
                        have hX := hJ.wd.trans (ws3_1 hbs hL hst)
                        refine does_app _ _ 26 rfl k113 k115 (u := .slice (some ⟨gg2, 0, none⟩) (l2.length + 1) cap2) (w' := w2) (by rw [hX]; exact HR2.out) (hJ.put HOK.out rfl ((ws3_2 more_at (by rw [more_off (by decide)]; exact hst)).symm))
                      · intro ρ X L hc hf hL hd hcl hJ
                        have k107 : ρ (.tmp 107) = sl rv n := hJ.vals 1 107 (sl rv n) rfl (hd ⟨1, .data⟩ (by simp) rfl)
                        have k108 : ρ (.tmp 108) = .int .i64 k := hJ.vals 2 108 (.int .i64 k) rfl (hd ⟨2, .data⟩ (by simp) rfl)
                        refine does_value (v := .pointer (some ⟨rv, k, none⟩)) (w' := X) ?_ (hJ.put HOK.out rfl (by rw [ws3_off (by decide) (by decide) (by decide)]; exact hJ.wd))
                        clear hd hcl hJ hL
                        go_simp
                      · intro ρ X L hc hf hL hd hcl hJ
                        have k117 : ρ (.tmp 117) = .pointer (some ⟨rv, k, none⟩) := hJ.vals 11 117 (.pointer (some ⟨rv, k, none⟩)) rfl (hd ⟨11, .data⟩ (by simp) rfl)
                        have k116 : ρ (.tmp 116) = .slice (some ⟨gg2, 0, none⟩) (l2.length + 1) cap2 := hJ.vals 10 116 (.slice (some ⟨gg2, 0, none⟩) (l2.length + 1) cap2) rfl (hd ⟨10, .data⟩ (by simp) rfl)
                        have hap : L 10 = true := hd ⟨10, .data⟩ (by simp) rfl
                        have hX := hJ.wd.trans (ws3_2 hap hL)
                        refine does_skip (w' := w3) ?_ (hJ.last rfl ((ws3_3 more_at).symm))
                        subst hX
                        clear hd hcl hJ hL hap
                        rw [← HW3.out]
                        go_simp
                      · intro c a' w' _ hE
                        exact hE.elim
                      · rintro ⟨tmm, df⟩ w' hsz hdf ⟨L, hL, hJ⟩ hold
                        simp only at hdf hsz
                        subst hdf
                        have hw4 : w3 = w' := (hJ.wd.trans (ws3_3 (hL 12 (by decide)))).symm
                        subst hw4
                        have htm := frame_keep 106 117 (by kernel_rfl) hsz hold
                        simp only [zr, Nat.reduceLT, Nat.reduceAdd, true_or, or_true, or_self, if_true, if_false] at htm
                        rw [htm]
                        clear htm hJ hL hold hsz HOK HR2 HW3 LH LR q1 q2 hwd
                        generalize tmm.getD 106 undef = x106
                        generalize tmm.getD 107 undef = x107
                        generalize tmm.getD 108 undef = x108
                        generalize tmm.getD 109 undef = x109
                        generalize tmm.getD 110 undef = x110
                        generalize tmm.getD 111 undef = x111
                        generalize tmm.getD 112 undef = x112
                        generalize tmm.getD 113 undef = x113
                        generalize tmm.getD 114 undef = x114
                        generalize tmm.getD 115 undef = x115
                        generalize tmm.getD 116 undef = x116
                        generalize tmm.getD 117 undef = x117
                        have HG2 := hide (HG.out.add HER.out HFO.out HNE.out hidx hm2)
                        go_wp2_with fail
                        go_roundw
                        case rel => exact ⟨j + 1, _, _, by omega, by go_num, HG2, HN2a, HB3⟩
                        case measure => simp [intOf]; omega
                    · have hd0 : decide (0 < (lt.length : Int)) = false := decide_eq_false (by omega)
                      have HNE : Hid (rulesL T kT fo = []) := hide (by rw [← HLT.out]; exact List.eq_nil_of_length_eq_zero (by omega))
                      have HG2 := hide (HG.out.skip HER.out HFO.out HNE.out)
                      have hd1 : decide (0 < lt.length) = false := decide_eq_false hlen
                      go_wp2_with fail
                      go_roundw
                      case rel => exact ⟨j + 1, _, _, by omega, by go_num, HG2, HN, HBr⟩
                      case measure => simp [intOf]; omega
                  · have HG2 := hide (HG.out.next HER.out (by omega))
                    go_wp2_with fail
                    go_roundw
                    case rel => exact ⟨k + 1, _, _, by omega, by go_num, HG2, HN, HBr⟩
                    case measure => simp [intOf]; omega
              · have hkn : k = n := by omega
                subst hkn
                have c0 := HN.out.bx.get (i := 0) rfl
                have c1 := HN.out.bx.get (i := 1) rfl
                have c2 := HN.out.bx.get (i := 2) rfl
                have c3 := HN.out.bx.get (i := 3) rfl
                have c4 := HN.out.bx.get (i := 4) rfl
                have c5 := HN.out.bx.get (i := 5) rfl
                have c6 := HN.out.bx.get (i := 6) rfl
                have c7 := HN.out.bx.get (i := 7) rfl
                have HX2r := hide (HX2.out.keep (HBr.out.block _ HX2.out.lt))
                have hWb : bq + 1 < W.heap.size := HX2.out.lt
                have HGF : Hid (∀ z : Nat, z < k → (H 0).getD z [] = rulesL T kA z ∧ (H 1).getD z [] = rulesL T kT z ∧ (H 2).getD z [] = rivalsL T z) := hide fun z hz => ⟨HG.out.a z hz, HG.out.t z hz, by rw [HG.out.v z hz, if_pos hz]⟩
                clear HG HX1 HTA
                go_upto_region 26 with fail
                refine wp_region_lit ?_
                refine wpList_plain rfl fun K hK => ?_
                go_simp
                refine hK _ _ ?_
                clear hK
                refine wpList_plain rfl fun K hK => ?_
                refine wp_store_row 69 _ _ rfl (bq + 1) _ rfl rfl _ _ HX2r.out (by kernel_rfl) rfl (by simp [sl, Value.oneCell']) ?_
                refine hK _ _ ?_
                clear hK
                have HFIN := hide (setRow_heap wr3 (bq + 1) _ #[.int .i64 T.lits, .slice fa k fc, .slice ra T.rules.length rc, .slice ba T.beats.length bc, sl rl k, sl tm k, sl rv k, sl fm k] _ _ HX2r.out)
                have HNF := hide (HN.out.far (w' := wr3.setRow (bq + 1) #[.int .i64 T.lits, .slice fa k fc, .slice ra T.rules.length rc, .slice ba T.beats.length bc, sl rl k, sl tm k, sl rv k, sl fm k]) (fun g hg _ => setRow_other _ _ _ _ (by omega)) HB.out.size)
                have HBF := hide (below_setRow (b := bq + 1) (HB.out.trans (HBr.out.mono HB.out.size)) (by rw [HBQ.out]; omega) #[.int .i64 T.lits, .slice fa k fc, .slice ra T.rules.length rc, .slice ba T.beats.length bc, sl rl k, sl tm k, sl rv k, sl fm k])
                generalize wr3.setRow (bq + 1) #[.int .i64 T.lits, .slice fa k fc, .slice ra T.rules.length rc, .slice ba T.beats.length bc, sl rl k, sl tm k, sl rv k, sl fm k] = Y at *
                clear HN HBr c0 c1 c2 c3 c4 c5 c6 c7 HX2r HX2
                go_wp2_with fail
                have hfl : T.foes.length = k := by first | assumption | exact HP.out.fl | omega
                refine bodyPost_ret (v := .agg #[.int .i64 T.lits, .slice fa k fc, .slice ra T.rules.length rc, .slice ba T.beats.length bc, sl rl k, sl tm k, sl rv k, sl fm k]) (res_ix rfl HFIN.out) rfl ?_
                exact ⟨q, rl, tm, rv, fm, vs, H, by rw [← hfl], HNF.out, HGF.out, HBF.out⟩
end Go.Proofs.YtcobmbclhhimjaaGreat.Fa
