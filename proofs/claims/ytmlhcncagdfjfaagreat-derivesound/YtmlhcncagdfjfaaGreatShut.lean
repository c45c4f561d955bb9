import Derived.Test.YtmlhcncagdfjfaaGreatWk
set_option maxRecDepth 100000
set_option maxHeartbeats 12800000
namespace Go.Proofs.YtmlhcncagdfjfaaGreat
open Go.RowKit
theorem py {f : Int} : ∀ {pre r : List Int}, f ∉ pre → cF f (pre ++ f :: r) = (pre ++ [f], r)
 | [], r, _ => by show cF f (f :: r) = _; unfold cF; rw [if_pos rfl]; rfl
 | x :: pre, r, h => by
  show cF f (x :: (pre ++ f :: r)) = _
  unfold cF
  rw [if_neg (fun e => h (by simp [e])), py (fun hm => h (by simp [hm]))]
  rfl
theorem uc {w : World} {B e k : Nat} {a : Option Addr} {n c : Nat} {xs : List Value} (h : w.ownsRow B e k (.slice a n c) n xs) {m : Nat} (hm : m ≤ n) (ha : a ≠ none) : w.ownsRow B e k (.slice a m c) m (xs.take (m * k)) := by
 obtain ⟨h1, h2⟩ := h
 rcases h2 with ⟨e1, _⟩ | ⟨g, cap, Aa, e1, h3, h4, h5, h6, h7, h8⟩
 ·cases e1; exact absurd rfl ha
 cases e1
 have Ab : m * k ≤ n * k := Nat.mul_le_mul_right k hm
 refine ⟨by rw [List.length_take, h1]; omega, .inr ⟨g, c, Aa, rfl, h3, h4, by omega, h6, h7, ?_⟩⟩
 rw [← h8, List.take_take, Nat.min_eq_left Ab]
structure Mv (B cb bb : Nat) (ov : Value) (Z : Nat → Prop) (mv : Value) (kn : List Int) (w : World) : Prop where
 row : w.ownsRow B 3 1 mv kn.length (aq kn)
 ne : ∀ g, mv.ownBlock = some g → g ≠ cb ∧ g ≠ bb ∧ ov.ownBlock ≠ some g ∧ ¬ Z g
section
variable {B W : Nat} {nv : Value} {next : List (List Int)} {n cb bb sb : Nat} {ov kv mv : Value} {Z : Nat → Prop} {s : Wk} {w w' : World} {kn : List Int}
theorem Wi.grown (h : Wi B W nv next n cb bb sb ov kv Z s w) (hm : Mv B cb bb ov Z mv kn w) (hB : B ≤ w.heap.size) (hb : ∀ k, k < w.heap.size → mv.ownBlock ≠ some k → w'.heap[k]? = w.heap[k]?) : Wi B W nv next n cb bb sb ov kv Z s w' := by
 have hz : ∀ g, Z g → w'.heap[g]? = w.heap[g]? := fun g hg => by obtain ⟨_, _, _, _, vs, h5⟩ := h.z g hg; exact hb g h5.lt fun e => (hm.ne g e).2.2.2 hg
 obtain ⟨xs, k1, _⟩ := h.rk
 refine ⟨h.bx.keep (hb _ h.bx.lt (au hm.row h.bx (by decide))), h.nx.keep fun g hg => hb g (by omega) fun e => by have := (hm.row.lt g e).1; omega, h.lo, h.fc.keep (hb _ h.fc.lt fun e => (hm.ne _ e).1 rfl), h.fb.keep (hb _ h.fb.lt fun e => (hm.ne _ e).2.1 rfl), h.fs.keep (hb _ h.fs.lt (au hm.row h.fs (by decide))), owns_keep h.ro fun g hg => hb g (ax h.ro hg) fun e => (hm.ne g e).2.2.1 hg, h.ne, fW h.rk (fun g hg => hb g (ax k1 hg) ?_) hz, m9 h.z hz⟩
 exact lK (aI hm.row (Nat.zero_le _)) (aI k1 (Nat.zero_le _)) (by decide) hg
theorem Mv.nil : Mv B cb bb ov Z (.slice none 0 0) [] w := ⟨⟨rfl, .inl ⟨rfl, rfl⟩⟩, fun g e => by cases e⟩
theorem Mv.grow (h : Wi B W nv next n cb bb sb ov kv Z s w) (hm : Mv B cb bb ov Z mv kn w) {x : Int} {g4 cap4 : Nat} {ob : Obj} (hown : w'.ownsRow B 3 1 (.slice (some ⟨g4, 0, none⟩) (kn.length + 1) cap4) (kn.length + 1) (aq kn ++ [.int .i64 x]))
    (hg : (mv.ownBlock = some g4 ∧ (w.alloc ob).grownBy w' (some g4)) ∨ (g4 = w.heap.size + 1 ∧ (w.alloc ob).grownBy w' none)) : Mv B cb bb ov Z (.slice (some ⟨g4, 0, none⟩) (kn.length + 1) cap4) (kn ++ [x]) w' := by
 refine ⟨by rw [List.length_append, cX]; exact hown, fun g e => ?_⟩
 have e' : g4 = g := by simpa [Value.ownBlock] using e
 subst e'
 clear e
 rcases hg with ⟨h1, _⟩ | ⟨rfl, _⟩
 ·exact hm.ne g4 h1
 refine ⟨fun e => ?_, fun e => ?_, fun e => ?_, fun e => ?_⟩
 ·have := h.fc.lt; omega
 ·have := h.fb.lt; omega
 ·have := ax h.ro e; omega
 obtain ⟨_, _, _, _, vs, h5⟩ := h.z _ e; have := h5.lt; omega
theorem Mv.set (h : Wi B W nv next n cb bb sb ov kv Z s w) (hm : Mv B cb bb ov Z mv kn w) {q i : Nat} {u : Value} (hq : q = W ∨ q = sb) {ov' : Value} (ho : ov'.ownBlock = ov.ownBlock) : Mv B cb bb ov' Z mv kn (w.setCell ⟨q, i, none⟩ u) := by
 refine ⟨owns_keep hm.row fun g hg => other_set fun e => ?_, fun g e => by obtain ⟨h1, h2, h3, h4⟩ := hm.ne g e; exact ⟨h1, h2, by rw [ho]; exact h3, h4⟩⟩
 subst e
 rcases hq with rfl | rfl
 ·exact au hm.row h.bx (by decide) hg
 exact au hm.row h.fs (by decide) hg
theorem Wi.pop (h : Wi B W nv next n cb bb sb ov kv Z s w) {q : List Int} {x : Int} (hq : s.opn = q ++ [x]) {g0 m c : Nat} (ho : ov = .slice (some ⟨g0, 0, none⟩) m c) : Wi B W nv next n cb bb sb (.slice (some ⟨g0, 0, none⟩) q.length c) kv Z { s with opn := q } (w.setCell ⟨W, 4, none⟩ (.slice (some ⟨g0, 0, none⟩) q.length c)) := by
 subst ho
 have Aa := h.ro
 have hl : s.opn.length = q.length + 1 := by rw [hq]; simp
 have hm : m = q.length + 1 := by
  rcases Aa.2 with ⟨e, h0⟩ | ⟨g, cap, Ag, e, _⟩
  ·omega
  simp only [Value.slice.injEq] at e; omega
 subst hm
 rw [hl] at Aa
 have Ab := uc (m := q.length) Aa (by omega) (by simp)
 have e1 : (aq s.opn).take (q.length * 1) = aq q := by rw [hq, cX, Nat.mul_one, ← kj (l := q), List.take_left]
 rw [e1] at Ab
 have hz := h.hz (.inl rfl)
 obtain ⟨l1, l2, l3, l4⟩ := h.lo
 obtain ⟨xs, k1, _⟩ := h.rk
 have Ac : (Value.slice (some ⟨g0, 0, none⟩) (q.length + 1) c).ownBlock ≠ some W := au h.ro h.bx (by decide)
 have Ae : (Value.slice (some ⟨g0, 0, none⟩) q.length c).ownBlock ≠ some W := Ac
 have Af : cb ≠ bb ∧ (Value.slice (some ⟨g0, 0, none⟩) q.length c).ownBlock ≠ some cb ∧ (Value.slice (some ⟨g0, 0, none⟩) q.length c).ownBlock ≠ some bb := h.ne
 have Ad : ∀ g, Z g → B ≤ g ∧ g ≠ cb ∧ g ≠ bb ∧ (Value.slice (some ⟨g0, 0, none⟩) q.length c).ownBlock ≠ some g ∧ ∃ vs, Fx g 3 vs w := h.z
 refine ⟨h.bx.set 4 _, h.nx.keep fun g hg => other_set (by omega), h.lo, h.fc.keep (other_set (an h.fc h.bx (by decide))), h.fb.keep (other_set (an h.fb h.bx (by decide))), h.fs.keep (other_set (an h.fs h.bx (by decide))), ?_, Af, fW h.rk (fun g hg => other_set fun e => au k1 h.bx (by decide) (e ▸ hg)) fun g hg => other_set (hz g hg), m9 Ad fun g hg => other_set (hz g hg)⟩
 exact owns_keep Ab fun g hg => other_set fun e => Ae (e ▸ hg)
theorem Wi.knot (h : Wi B W nv next n cb bb sb ov kv Z s w) (hm : Mv B cb bb ov Z mv kn w) (hB : B ≤ w.heap.size) (hkl : kn.length ≤ 4096) {xs : List Value} (hx : w.ownsRow B 26 1 kv s.knots.length xs) (hxs : ∀ (i : Nat) k, s.knots[i]? = some k → ∃ v, xs[i]? = some v ∧ RZ Z 1 cI w k v) {g4 cap4 : Nat} {ob : Obj} (hown : w'.ownsRow B 26 1 (.slice (some ⟨g4, 0, none⟩) (s.knots.length + 1) cap4) (s.knots.length + 1) (xs ++ [mv]))
    (hg : (kv.ownBlock = some g4 ∧ (w.alloc ob).grownBy w' (some g4)) ∨ (g4 = w.heap.size + 1 ∧ (w.alloc ob).grownBy w' none)) :
    Wi B W nv next n cb bb sb ov (.slice (some ⟨g4, 0, none⟩) (s.knots.length + 1) cap4) (fun g => Z g ∨ mv.ownBlock = some g) { s with knots := s.knots ++ [kn] } (w'.setCell ⟨W, 6, none⟩ (.slice (some ⟨g4, 0, none⟩) (s.knots.length + 1) cap4)) := by
 have ho : ∀ k, k < w.heap.size → kv.ownBlock ≠ some k → w'.heap[k]? = w.heap[k]? := fun k hk hn => eO rfl hg hk hn
 have Ag : kv.ownBlock ≠ some W := au hx h.bx (by decide)
 have Aa := h.bx.keep (ho _ h.bx.lt Ag)
 have Ae := h.fc.keep (ho _ h.fc.lt (au hx h.fc (by decide)))
 have Ac := h.fb.keep (ho _ h.fb.lt (au hx h.fb (by decide)))
 have Ab := h.fs.keep (ho _ h.fs.lt (au hx h.fs (by decide)))
 have Am : ∀ g, Z g → w'.heap[g]? = w.heap[g]? := fun g hg => by
  obtain ⟨_, _, _, _, vs, h5⟩ := h.z g hg
  exact ho g h5.lt (au hx h5 (by decide))
 have Ai : ∀ g, mv.ownBlock = some g → w'.heap[g]? = w.heap[g]? := fun g e => ho g (ax hm.row e) (lK (aI hx (Nat.zero_le _)) (aI hm.row (Nat.zero_le _)) (by decide) e)
 obtain ⟨l1, l2, l3, l4⟩ := h.lo
 have Ad : ∀ g, mv.ownBlock = some g → ∃ vs, Fx g 3 vs w := fun g e => by
  rcases hm.row.2 with ⟨e2, _⟩ | ⟨g', cap, Al, e2, _, h4, _⟩
  ·rw [e2] at e; cases e
  rw [e2] at e; cases e; exact ⟨Al.toList, by unfold Fx; rw [Array.toArray_toList]; exact h4⟩
 have Aj : ∀ g, (Z g ∨ mv.ownBlock = some g) → g ≠ W := fun g hg => by
  rcases hg with hg | hg
  ·exact h.hz (.inl rfl) g hg
  obtain ⟨vs, hv⟩ := Ad g hg; exact an hv h.bx (by decide)
 have hZ : ∀ g, (Z g ∨ mv.ownBlock = some g) → (w'.setCell ⟨W, 6, none⟩ (.slice (some ⟨g4, 0, none⟩) (s.knots.length + 1) cap4)).heap[g]? = w.heap[g]? := fun g hg => by
  rw [other_set (Aj g hg)]
  rcases hg with hg | hg
  ·exact Am g hg
  exact Ai g hg
 refine ⟨Aa.set 6 _, h.nx.keep fun g hg => ?_, h.lo, Ae.keep (other_set (an Ae Aa (by decide))), Ac.keep (other_set (an Ac Aa (by decide))), Ab.keep (other_set (an Ab Aa (by decide))), owns_keep h.ro fun g hg => ?_, h.ne, ?_, fun g hg => ?_⟩
 ·rw [other_set (by omega)]
  exact ho g (by omega) fun e => by have := (hx.lt g e).1; omega
 ·rw [other_set fun (e : g = W) => au h.ro h.bx (by decide) (e ▸ hg)]
  exact ho g (ax h.ro hg) (lK (aI hx (Nat.zero_le _)) (aI h.ro (Nat.zero_le _)) (by decide) hg)
 ·refine ⟨xs ++ [mv], by show World.ownsRow _ _ _ _ _ (s.knots ++ [kn]).length _; rw [List.length_append]; exact owns_keep hown fun g e => other_set fun e2 => au hown Aa (by decide) (e2 ▸ e), fun i k hi => ?_⟩
  have Ah : xs.length = s.knots.length := by have := hx.1; omega
  by_cases hil : i < s.knots.length
  ·rw [List.getElem?_append_left hil] at hi
   obtain ⟨v, h3, h4⟩ := hxs i k hi
   exact ⟨v, by rw [List.getElem?_append_left (by omega)]; exact h3, RZ.keep h4 (fun g hg => ⟨.inl hg, hZ g (.inl hg)⟩) fun _ _ h => h⟩
  have Ak : i = s.knots.length := by
   have := (List.getElem?_eq_some_iff.1 hi).1
   simp at this
   omega
  subst Ak
  rw [List.getElem?_append_right (Nat.le_refl _), Nat.sub_self] at hi
  simp at hi
  subst hi
  refine ⟨mv, by rw [← Ah, List.getElem?_append_right (Nat.le_refl _), Nat.sub_self]; rfl, ?_⟩
  have Af : RZ (fun g => Z g ∨ mv.ownBlock = some g) 1 cI w kn mv := RZ.of_owns hm.row (fun g e => .inr e) (by omega) fun i x hi => by
   unfold cI aq
   rw [Nat.mul_one, ← List.map_drop, aM hi]
   rfl
  exact RZ.keep Af (fun g hg => ⟨hg, hZ g hg⟩) fun _ _ h => h
 rcases hg with hg' | hg'
 ·obtain ⟨h1, h2, h3, h4, vs, h5⟩ := h.z g hg'
  exact ⟨h1, h2, h3, h4, vs, h5.keep (hZ g (.inl hg'))⟩
 obtain ⟨h1, h2, h3, h4⟩ := hm.ne g hg'
 obtain ⟨vs, hv⟩ := Ad g hg'
 exact ⟨(hm.row.lt g hg').1, h1, h2, h3, vs, hv.keep (hZ g (.inr hg'))⟩
def WI (B W : Nat) (nv : Value) (next : List (List Int)) (n cb bb sb : Nat) (s : Wk) (w : World) : Prop := ∃ ov kv Z, Wi B W nv next n cb bb sb ov kv Z s w
theorem Wi.cells (h : Wi B W nv next n cb bb sb ov kv Z s w) : w.cell? ⟨W, 0, none⟩ = some nv ∧ w.cell? ⟨W, 1, none⟩ = some (sl cb n) ∧ w.cell? ⟨W, 2, none⟩ = some (sl bb n) ∧ w.cell? ⟨W, 3, none⟩ = some (.int .i64 s.clock) ∧ w.cell? ⟨W, 4, none⟩ = some ov ∧ w.cell? ⟨W, 5, none⟩ = some (sl sb n) ∧ w.cell? ⟨W, 6, none⟩ = some kv :=
 ⟨h.bx.get rfl, h.bx.get rfl, h.bx.get rfl, h.bx.get rfl, h.bx.get rfl, h.bx.get rfl, h.bx.get rfl⟩
theorem nY (h : Wi B W nv next n cb bb sb ov kv Z s w) {q : List Int} {x : Int} (hq : s.opn = q ++ [x]) : ∃ g c, ov = .slice (some ⟨g, 0, none⟩) (q.length + 1) c ∧ q.length + 1 ≤ c ∧ w.cell? ⟨g, q.length, none⟩ = some (.int .i64 x) := by
 have hr := h.ro
 have hl : s.opn.length = q.length + 1 := by rw [hq]; simp
 have hi : (aq s.opn)[q.length]? = some (.int .i64 x) := by rw [hq, cX, ← kj (l := q), List.getElem?_append_right (Nat.le_refl _), Nat.sub_self]; rfl
 obtain ⟨g, c, e, h1, _, _⟩ := ie (aI hr (Nat.zero_le _)) hi
 refine ⟨g, c, by rw [e, hl], ?_, h1⟩
 rcases hr.2 with ⟨e2, h0⟩ | ⟨g', cap, Aa, e2, _, _, h5, _⟩
 ·omega
 rw [e] at e2; simp only [Value.slice.injEq] at e2; omega
end
theorem wi {B W : Nat} {nv : Value} {next : List (List Int)} {n cb bb sb : Nat} {ov kv mv : Value} {Z : Nat → Prop} {s : Wk} {w w' : World} {kn : List Int} (h : Wi B W nv next n cb bb sb ov kv Z s w) (hm : Mv B cb bb ov Z mv kn w) (hB : B ≤ w.heap.size) (hkl : kn.length ≤ 4096) {xs : List Value} (hx : w.ownsRow B 26 1 kv s.knots.length xs) (hxs : ∀ (i : Nat) k, s.knots[i]? = some k → ∃ v, xs[i]? = some v ∧ RZ Z 1 cI w k v)
    {K kc : Nat} {ka : Option Addr} (hK : s.knots.length = K) (hkv : kv = .slice ka s.knots.length kc) {g4 cap4 : Nat} {ob : Obj} (hown : w'.ownsRow B 26 1 (.slice (some ⟨g4, 0, none⟩) (K + 1) cap4) (K + 1) (xs ++ [mv]))
    (hg : (Value.ownBlock (.slice ka K kc) = some g4 ∧ (w.alloc ob).grownBy w' (some g4)) ∨ (g4 = w.heap.size + 1 ∧ (w.alloc ob).grownBy w' none)) :
    w'.cell? ⟨W, 6, none⟩ = some (.slice ka K kc) ∧ w'.frozen? ⟨W, 6, none⟩ = false ∧ Wi B W nv next n cb bb sb ov (.slice (some ⟨g4, 0, none⟩) (K + 1) cap4) (fun g => Z g ∨ mv.ownBlock = some g) { s with knots := s.knots ++ [kn] } (w'.setCell ⟨W, 6, none⟩ (.slice (some ⟨g4, 0, none⟩) (K + 1) cap4)) ∧ Below B w (w'.setCell ⟨W, 6, none⟩ (.slice (some ⟨g4, 0, none⟩) (K + 1) cap4)) := by
 subst hK
 rw [← hkv] at hg ⊢
 have Ab : kv.ownBlock ≠ some W := au hx h.bx (by decide)
 have Aa := h.bx.keep (eO rfl hg h.bx.lt Ab)
 refine ⟨Aa.get rfl, Aa.frz 6, h.knot hm hB hkl hx hxs hown hg, ?_⟩
 exact ((dj (Z := fun k => B ≤ k) rfl hg fun g e => (hx.lt g e).1).below fun k hk => ⟨by omega, by omega⟩).setCell (p := ⟨W, 6, none⟩) h.lo.1 _
theorem pT {B W : Nat} {nv : Value} {next : List (List Int)} {n cb bb sb : Nat} {s : Wk} {w : World} (h : WI B W nv next n cb bb sb s w) (hB : B ≤ w.heap.size) (ho : OkW n s) (hn : n ≤ 4096) {first : Int} (hf : first ∈ s.opn) :
    Calls Tryz.prog 168 #[aa W, .int .i64 first] w fun e w' => e = .returned (.tuple #[]) ∧ WI B W nv next n cb bb sb (i4 first s) w' ∧ Below B w w' := by
 obtain ⟨iI, AK, AJ, AI, AE⟩ := info_parts gB
 obtain ⟨iL, AX, Bd, AY, Bi⟩ := info_parts nL
 obtain ⟨ov, kv, Z, hw⟩ := h
 obtain ⟨st, Aq⟩ : ∃ st, s.opn.reverse = st := ⟨_, rfl⟩
 have Bl : st.length ≤ 4096 := by have h1 := ho.ol; have h2 := ho.c1; rw [← Aq, List.length_reverse]; omega
 have Be : s.knots.length ≤ 4096 := by have h1 := ho.kl; have h2 := ho.c1; omega
 have AH : ∀ z ∈ st, 0 ≤ z ∧ z < (n : Int) := fun z hz => ho.op z (by rw [← Aq] at hz; simpa using hz)
 have Bb := hide AH
 have AV := hide Aq
 have AM : first ∈ st := by rw [← Aq]; simpa using hf
 have H0 : Hid (∃ ov kv Z, Wi B W nv next n cb bb sb ov kv Z { s with opn := st.reverse, shut := da s.shut [] } w ∧ Mv B cb bb ov Z (.slice none 0 0) [] w) := hide ⟨ov, kv, Z, by rw [← Aq, List.reverse_reverse]; exact hw, Mv.nil⟩
 have HLs := hide ho.ls
 have HF := hide AM
 clear hw AH Aq hf AM
 go_enter Tryz.func168, Tryz.ntmps168
 go_wp2_with fail
 go_loopw [4] (fun mv wr => ∃ (kn r : List Int) (ma : Option Addr) (mc : Nat), mv = .slice ma kn.length mc ∧ kn.length ≤ st.length ∧ Hid (st = kn ++ r) ∧ Hid (first ∉ kn ∧ first ∈ r ∨ ∃ Aa, kn = Aa ++ [first] ∧ first ∉ Aa) ∧ Hid (∃ ov kv Z, Wi B W nv next n cb bb sb ov kv Z { s with opn := r.reverse, shut := da s.shut kn } wr ∧ Mv B cb bb ov Z (.slice ma kn.length mc) kn wr) ∧ Hid (Below B w wr)) (fun mv _ => st.length - (match mv with | .slice _ k _ => k | _ => 0))
 case atStart => exact ⟨[], st, none, 0, rfl, by simp, hide (by simp), hide (.inl ⟨by simp, HF.out⟩), H0, hide (Below.refl _ _)⟩
 clear H0 HF
 obtain ⟨kn, r, ma, mc, rfl, Bf, HS, HC, AN, HB⟩ := hrel
 obtain ⟨ov, kv, Z, Ak, Ab⟩ := AN.out
 clear AN
 have Az : B ≤ wr.heap.size := Nat.le_trans hB HB.out.size
 rcases HC.out with ⟨Ai, Ap⟩ | ⟨Aa, Ai, Ap⟩
 ·obtain ⟨x, r2, AZ⟩ : ∃ x r2, r = x :: r2 := by
   cases r with
   | nil => simp at Ap
   | cons x r2 => exact ⟨x, r2, rfl⟩
  subst AZ
  have AO : x ∈ st := by rw [HS.out]; simp
  obtain ⟨AQ, Ao⟩ := Bb.out x AO
  obtain ⟨xm, rfl⟩ := Int.eq_ofNat_of_zero_le AQ
  have AP : xm < n := by omega
  have Ah : kn.length + 1 ≤ st.length := by rw [HS.out]; simp
  have AR : (xm :: r2 : List Int).reverse = r2.reverse ++ [(xm : Int)] := by simp
  obtain ⟨g, c, AB, Bh, Ad⟩ := nY Ak (q := r2.reverse) (x := xm) (by simp)
  obtain ⟨c0, c1, c2, c3, c4, c5, c6⟩ := Ak.cells
  rw [AB] at c4
  obtain ⟨m, hm⟩ : ∃ m, r2.reverse.length = m := ⟨_, rfl⟩
  have Bj : m + 1 ≤ 4096 := by rw [← hm, List.length_reverse]; have := congrArg List.length HS.out; simp at this; omega
  rw [hm] at c4 Bh Ad
  have HWi := hide Ak
  have HMv := hide Ab
  have HEov := hide AB
  have HM := hide hm
  have hA := ae wr (.cells #[.int .i64 xm] 3)
  have Af := hide (owns_keep Ab.row fun g hg => hA.block g (ax Ab.row hg))
  have HNext : Hid (first ∉ kn ++ [(xm : Int)] ∧ first ∈ r2 ∨ ∃ Aa, kn ++ [(xm : Int)] = Aa ++ [first] ∧ first ∉ Aa) := hide (by
   by_cases e : (xm : Int) = first
   ·exact .inr ⟨kn, by rw [e], Ai⟩
   refine .inl ⟨?_, ?_⟩
   ·simp only [List.mem_append, List.mem_singleton, not_or]
    exact ⟨Ai, fun h => e h.symm⟩
   rcases List.mem_cons.1 Ap with h | h
   ·exact absurd h.symm e
   exact h)
  have Ay : kn = [] ∨ ∃ Aa y, kn = Aa ++ [y] ∧ y ≠ first := by
   rcases List.eq_nil_or_concat kn with h | ⟨Aa, y, h⟩
   ·exact .inl h
   rw [List.concat_eq_append] at h
   exact .inr ⟨Aa, y, h, fun e => Ai (by rw [h, e]; simp)⟩
  obtain ⟨kl, An⟩ : ∃ kl, kn.length = kl := ⟨_, rfl⟩
  have Ac := hide An
  have AD : (kl = 0 ∧ kn = []) ∨ ∃ (pl gm : Nat) (y : Int), kl = pl + 1 ∧ ma = some ⟨gm, 0, none⟩ ∧ wr.cell? ⟨gm, pl, none⟩ = some (.int .i64 y) ∧ (y != first) = true := by
   rcases Ay with h | ⟨Aa, y, h, hy⟩
   ·exact .inl ⟨by rw [← An, h]; rfl, h⟩
   have hi : (aq kn)[Aa.length]? = some (.int .i64 y) := by rw [h, cX, ← kj (l := Aa), List.getElem?_append_right (Nat.le_refl _), Nat.sub_self]; rfl
   obtain ⟨gm, cm, e, h1, _, _⟩ := ie (aI Ab.row (Nat.zero_le _)) hi
   simp only [Value.slice.injEq] at e
   exact .inr ⟨Aa.length, gm, y, by rw [← An, h]; simp, e.1, h1, by simpa using hy⟩
  clear Ak Ab AB hm hA Ai Ap Ay AO AQ Ao HC AR
  rw [An] at Af Bf Ah ⊢
  clear An
  rcases AD with ⟨rfl, -⟩ | ⟨pl, gm, y, rfl, rfl, AS, Bm⟩
  ·go_upto_region 3 with fail
   go_upto_region 4 with (at_builtin; go_must (refine bt _ rfl _ _ 26 rfl B 3 iI _ 1 8 Tryz.underlying26 AK AJ AI AE rfl (by decide) _ _ (aq kn) rfl Af.out ⟨wr.heap.size, 0, none⟩ 1 [.int .i64 xm] rfl rfl (cell_one_new _ _ _) (by intro u hu; simp at hu; subst hu; rfl) (by unfold maxLen; omega) (by omega) (by simp; omega) ?_); intro g4 Aj w4 Ae Al)
   have Ag : (Value.ownBlock (.slice (ma) 0 mc) = some g4 ∧ (wr.alloc (.cells #[.int .i64 xm] 3)).grownBy w4 (some g4)) ∨ (g4 = wr.heap.size + 1 ∧ (wr.alloc (.cells #[.int .i64 xm] 3)).grownBy w4 none) := by
    rcases Al with h | ⟨h1, h2⟩
    ·exact .inl h
    exact .inr ⟨by simpa using h1, h2⟩
   have Av : ∀ k, k < wr.heap.size → Value.ownBlock (.slice (ma) 0 mc) ≠ some k → w4.heap[k]? = wr.heap[k]? := fun k hk hn => eO rfl Ag hk hn
   have Ab := HMv.out
   rw [Ac.out] at Ab
   have W4 := hide (HWi.out.grown Ab Az Av)
   have M4 := hide (Mv.grow HWi.out HMv.out (by rw [Ac.out]; exact Ae) (by rw [Ac.out]; exact Ag))
   have AW : wr.heap.size ≤ w4.heap.size := (dj (Z := fun _ => True) rfl Ag (fun _ _ => trivial)).size
   have As : Hid (Below B w w4) := hide (HB.out.trans ((dj (Z := fun k => B ≤ k) rfl Ag fun g e => (Ab.row.lt g e).1).below fun k hk => ⟨by omega, by omega⟩))
   rw [Ac.out] at M4
   clear Al Ag Av Ab Ae Af HWi HMv c0 c1 c2 c3 c4 c5 c6 Ad
   obtain ⟨c0, c1, c2, c3, c4, c5, c6⟩ := W4.out.cells
   obtain ⟨g', c', eov', -, Ad⟩ := nY W4.out (q := r2.reverse) (x := xm) (by simp)
   rw [HEov.out] at eov' c4
   rw [HM.out] at Ad
   simp only [HM.out, Value.slice.injEq, Option.some.injEq, Addr.mk.injEq, and_true, true_and] at eov'
   obtain ⟨rfl, rfl⟩ := eov'
   rw [HM.out] at c4
   refine aK (by kernel_rfl) (by kernel_rfl) (by kernel_rfl) (by kernel_rfl) (by kernel_rfl) ?_
   dsimp only [List.dropLast, List.getLast, List.cons_append, List.nil_append]
   repeat (go_big_quiet_step (fail))
   refine wpQuiet_nil ?_
   rintro _ ⟨nq, rfl⟩
   have W5 := hide (W4.out.call (ah w4 nq) (by omega))
   have M5 : Hid (Mv B cb bb ov Z (.slice (some ⟨g4, 0, none⟩) (0 + 1) Aj) (kn ++ [(xm : Int)]) (w4.drewN nq)) := hide ⟨owns_keep M4.out.row fun g hg => (ah w4 nq).block g (ax M4.out.row hg), M4.out.ne⟩
   have Aw := hide (As.out.trans ((ah w4 nq).mono (by omega)))
   have Bg : w4.heap.size ≤ (w4.drewN nq).heap.size := (ah w4 nq).size
   clear W4 M4 As c0 c1 c2 c3 c4 c5 c6 Ad
   generalize w4.drewN nq = w5 at *
   have Am : xm < (da s.shut kn).length := by rw [gE, HLs.out]; exact AP
   have Ar := W5.out.fs.get (iG Am)
   have Au := W5.out.fs.frz xm
   go_upto_region 5 with fail
   have W6 := hide (W5.out.shut xm)
   have M6 := hide (Mv.set W5.out M5.out (q := sb) (i := xm) (u := .bool true) (.inr rfl) (ov' := ov) rfl)
   have Ax := hide (Aw.out.setCell (p := ⟨sb, xm, none⟩) W5.out.lo.2.2.2 (.bool true))
   have Ba : (w5.setCell ⟨sb, xm, none⟩ (.bool true)).heap.size = w5.heap.size := by simp
   clear Ar Au Am W5 M5 Aw
   generalize w5.setCell ⟨sb, xm, none⟩ (.bool true) = w6 at *
   obtain ⟨c0, c1, c2, c3, c4, c5, c6⟩ := W6.out.cells
   rw [HEov.out, HM.out] at c4
   have Au := W6.out.bx.frz 4
   have W7 := hide (W6.out.pop (q := r2.reverse) (x := xm) (by simp) (by rw [HEov.out]))
   rw [HM.out] at W7
   have M7 := hide (Mv.set W6.out M6.out (q := W) (i := 4) (u := .slice (some ⟨g, 0, none⟩) m c) (.inl rfl) (ov' := .slice (some ⟨g, 0, none⟩) m c) (by rw [HEov.out]; rfl))
   have AA := hide (Ax.out.setCell (p := ⟨W, 4, none⟩) W6.out.lo.1 (.slice (some ⟨g, 0, none⟩) m c))
   clear W6 M6 Ax
   go_wp2_with fail
   go_roundw
   case rel => exact ⟨kn ++ [(xm : Int)], r2, some ⟨g4, 0, none⟩, Aj, by rw [List.length_append, Ac.out]; rfl, by rw [List.length_append, Ac.out]; exact Ah, hide (by rw [HS.out]; simp), HNext, hide ⟨_, kv, Z, by rw [jh]; exact W7.out, by rw [List.length_append, Ac.out]; exact M7.out⟩, AA⟩
   case measure => simp; omega
  go_upto_region 3 with fail
  go_upto_region 4 with (at_builtin; go_must (refine bt _ rfl _ _ 26 rfl B 3 iI _ 1 8 Tryz.underlying26 AK AJ AI AE rfl (by decide) _ _ (aq kn) rfl Af.out ⟨wr.heap.size, 0, none⟩ 1 [.int .i64 xm] rfl rfl (cell_one_new _ _ _) (by intro u hu; simp at hu; subst hu; rfl) (by unfold maxLen; omega) (by omega) (by simp; omega) ?_); intro g4 Aj w4 Ae Al)
  have Ag : (Value.ownBlock (.slice (some ⟨gm, 0, none⟩) (pl + 1) mc) = some g4 ∧ (wr.alloc (.cells #[.int .i64 xm] 3)).grownBy w4 (some g4)) ∨ (g4 = wr.heap.size + 1 ∧ (wr.alloc (.cells #[.int .i64 xm] 3)).grownBy w4 none) := by
   rcases Al with h | ⟨h1, h2⟩
   ·exact .inl h
   exact .inr ⟨by simpa using h1, h2⟩
  have Av : ∀ k, k < wr.heap.size → Value.ownBlock (.slice (some ⟨gm, 0, none⟩) (pl + 1) mc) ≠ some k → w4.heap[k]? = wr.heap[k]? := fun k hk hn => eO rfl Ag hk hn
  have Ab := HMv.out
  rw [Ac.out] at Ab
  have W4 := hide (HWi.out.grown Ab Az Av)
  have M4 := hide (Mv.grow HWi.out HMv.out (by rw [Ac.out]; exact Ae) (by rw [Ac.out]; exact Ag))
  have AW : wr.heap.size ≤ w4.heap.size := (dj (Z := fun _ => True) rfl Ag (fun _ _ => trivial)).size
  have As : Hid (Below B w w4) := hide (HB.out.trans ((dj (Z := fun k => B ≤ k) rfl Ag fun g e => (Ab.row.lt g e).1).below fun k hk => ⟨by omega, by omega⟩))
  rw [Ac.out] at M4
  clear Al Ag Av Ab Ae Af HWi HMv c0 c1 c2 c3 c4 c5 c6 Ad
  obtain ⟨c0, c1, c2, c3, c4, c5, c6⟩ := W4.out.cells
  obtain ⟨g', c', eov', -, Ad⟩ := nY W4.out (q := r2.reverse) (x := xm) (by simp)
  rw [HEov.out] at eov' c4
  rw [HM.out] at Ad
  simp only [HM.out, Value.slice.injEq, Option.some.injEq, Addr.mk.injEq, and_true, true_and] at eov'
  obtain ⟨rfl, rfl⟩ := eov'
  rw [HM.out] at c4
  refine aK (by kernel_rfl) (by kernel_rfl) (by kernel_rfl) (by kernel_rfl) (by kernel_rfl) ?_
  dsimp only [List.dropLast, List.getLast, List.cons_append, List.nil_append]
  repeat (go_big_quiet_step (fail))
  refine wpQuiet_nil ?_
  rintro _ ⟨nq, rfl⟩
  have W5 := hide (W4.out.call (ah w4 nq) (by omega))
  have M5 : Hid (Mv B cb bb ov Z (.slice (some ⟨g4, 0, none⟩) ((pl + 1) + 1) Aj) (kn ++ [(xm : Int)]) (w4.drewN nq)) := hide ⟨owns_keep M4.out.row fun g hg => (ah w4 nq).block g (ax M4.out.row hg), M4.out.ne⟩
  have Aw := hide (As.out.trans ((ah w4 nq).mono (by omega)))
  have Bg : w4.heap.size ≤ (w4.drewN nq).heap.size := (ah w4 nq).size
  clear W4 M4 As c0 c1 c2 c3 c4 c5 c6 Ad
  generalize w4.drewN nq = w5 at *
  have Am : xm < (da s.shut kn).length := by rw [gE, HLs.out]; exact AP
  have Ar := W5.out.fs.get (iG Am)
  have Au := W5.out.fs.frz xm
  go_upto_region 5 with fail
  have W6 := hide (W5.out.shut xm)
  have M6 := hide (Mv.set W5.out M5.out (q := sb) (i := xm) (u := .bool true) (.inr rfl) (ov' := ov) rfl)
  have Ax := hide (Aw.out.setCell (p := ⟨sb, xm, none⟩) W5.out.lo.2.2.2 (.bool true))
  have Ba : (w5.setCell ⟨sb, xm, none⟩ (.bool true)).heap.size = w5.heap.size := by simp
  clear Ar Au Am W5 M5 Aw
  generalize w5.setCell ⟨sb, xm, none⟩ (.bool true) = w6 at *
  obtain ⟨c0, c1, c2, c3, c4, c5, c6⟩ := W6.out.cells
  rw [HEov.out, HM.out] at c4
  have Au := W6.out.bx.frz 4
  have W7 := hide (W6.out.pop (q := r2.reverse) (x := xm) (by simp) (by rw [HEov.out]))
  rw [HM.out] at W7
  have M7 := hide (Mv.set W6.out M6.out (q := W) (i := 4) (u := .slice (some ⟨g, 0, none⟩) m c) (.inl rfl) (ov' := .slice (some ⟨g, 0, none⟩) m c) (by rw [HEov.out]; rfl))
  have AA := hide (Ax.out.setCell (p := ⟨W, 4, none⟩) W6.out.lo.1 (.slice (some ⟨g, 0, none⟩) m c))
  clear W6 M6 Ax
  go_wp2_with fail
  go_roundw
  case rel => exact ⟨kn ++ [(xm : Int)], r2, some ⟨g4, 0, none⟩, Aj, by rw [List.length_append, Ac.out]; rfl, by rw [List.length_append, Ac.out]; exact Ah, hide (by rw [HS.out]; simp), HNext, hide ⟨_, kv, Z, by rw [jh]; exact W7.out, by rw [List.length_append, Ac.out]; exact M7.out⟩, AA⟩
  case measure => simp; omega
 have Ah : kn.length = Aa.length + 1 := by rw [Ai]; simp
 have hi : (aq kn)[Aa.length]? = some (.int .i64 first) := by rw [Ai, cX, ← kj (l := Aa), List.getElem?_append_right (Nat.le_refl _), Nat.sub_self]; rfl
 obtain ⟨gm, cm, e, AS, _, _⟩ := ie (aI Ab.row (Nat.zero_le _)) hi
 simp only [Value.slice.injEq] at e
 obtain ⟨rfl, -, rfl⟩ := e
 have AC : cF first s.opn.reverse = (kn, r) := by rw [AV.out, HS.out, Ai, List.append_assoc]; exact py Ap
 have HP := hide AC
 obtain ⟨c0, c1, c2, c3, c4, c5, c6⟩ := Ak.cells
 obtain ⟨xs, Ao, AG⟩ := Ak.rk
 obtain ⟨ka, kc, At⟩ := bf Ao
 obtain ⟨K, hK⟩ : ∃ K, s.knots.length = K := ⟨_, rfl⟩
 have hA := ae wr (.cells #[.slice (some ⟨gm, 0, none⟩) (Aa.length + 1) mc] 26)
 have Af := hide (owns_keep Ao fun g hg => hA.block g (ax Ao hg))
 have HWi := hide Ak
 have HMv := hide Ab
 have AT := hide Ao
 have Bc := hide AG
 have AU := hide hK
 have Ac := hide Ah
 have HEkv := hide At
 simp only [] at At Af
 rw [hK] at At Af Be
 rw [Ah]
 rw [At] at c6 Af
 clear Ak Ab Ao AG hA hi AC hK Ai Ap HC Ah HS At
 go_upto_region 6 with fail
 go_wp2_with (at_builtin; go_must (refine bt _ rfl _ _ 22 rfl B 26 iL _ 1 24 Tryz.underlying22 AX Bd AY Bi rfl (by decide) _ _ xs rfl Af.out ⟨wr.heap.size, 0, none⟩ 1 [.slice (some ⟨gm, 0, none⟩) (Aa.length + 1) mc] rfl rfl (cell_one_new _ _ _) (by intro u hu; simp at hu; subst hu; rfl) (by unfold maxLen; omega) (by omega) (by simp; omega) ?_); intro g4 Aj w4 Ae Al; have HFin := hide (wi HWi.out (by rw [← Ac.out]; exact HMv.out) Az (by omega) AT.out Bc.out AU.out HEkv.out Ae (by rcases Al with h | ⟨h1, h2⟩; exact .inl h; exact .inr ⟨by simpa using h1, h2⟩)); clear Ae Al; obtain ⟨Bn, Bk, AL, AF⟩ := HFin.out; have HFc := hide AL; have HFd := hide AF; clear AL AF HFin)
 go_end0
 refine ⟨rfl, ?_, HB.out.trans HFd.out⟩
 unfold i4
 rw [HP.out]
 exact ⟨ov, _, _, HFc.out⟩
end Go.Proofs.YtmlhcncagdfjfaaGreat
